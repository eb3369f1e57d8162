/- What the statistics see: which pairs of loudnesses coincide, and how slides commute. -/
import Derived.Test.YtgaofnakcccbkaaSearchAlarmMath13
namespace Go.Ev.SearchAlarm
open Go Go.Ev Go.Proofs
set_option linter.unusedVariables false
theorem louF_le {K : Int} : ∀ (l : List S_api_Pair) (m : Int), louF m l ≤ K ↔ m ≤ K ∧ ∀ p ∈ l, p.Loud ≤ K
  | [], m => by simp [louF]
  | p :: r, m => by
    have : louF m (p :: r) = louF (max m p.Loud) r := rfl
    rw [this, louF_le r (max m p.Loud)]
    simp only [List.mem_cons, forall_eq_or_imp]
    constructor
    · intro h
      exact ⟨by omega, by omega, h.2⟩
    · intro h
      exact ⟨by omega, h.2.2⟩
theorem louF_same {m : Int} {l l' : List S_api_Pair} (h1 : ∀ p ∈ l, ∃ q ∈ l', q.Loud = p.Loud) (h2 : ∀ p ∈ l', ∃ q ∈ l, q.Loud = p.Loud) : louF m l = louF m l' := by
  apply Int.le_antisymm
  · rw [louF_le]
    obtain ⟨g1, g2⟩ := (louF_le l' m).1 (Int.le_refl _)
    refine ⟨g1, fun p hp => ?_⟩
    obtain ⟨q, hq, e⟩ := h1 p hp
    rw [← e]
    exact g2 q hq
  · rw [louF_le]
    obtain ⟨g1, g2⟩ := (louF_le l m).1 (Int.le_refl _)
    refine ⟨g1, fun p hp => ?_⟩
    obtain ⟨q, hq, e⟩ := h2 p hp
    rw [← e]
    exact g2 q hq
theorem mem_row (c : S_search_clock) (i : Nat) (x : S_api_Trigger) (v : Int) : ∀ (l : List S_api_Trigger) (k : Nat), (∃ p ∈ rowP c i x k l, p.Loud = v) ↔ ∃ y ∈ l, isOne c x y = true ∧ x.Loud + y.Loud = v
  | [], k => by simp [rowP]
  | y :: r, k => by
    have ih := mem_row c i x v r (k + 1)
    unfold rowP
    cases e : isOne c x y with
    | false =>
      rw [cond_false, ih]
      simp [e]
    | true =>
      rw [cond_true]
      simp only [List.mem_cons, exists_eq_or_imp, e, true_and]
      rw [ih]
theorem mem_prs (c : S_search_clock) (b : List S_api_Trigger) (v : Int) : ∀ (l : List S_api_Trigger) (i : Nat), (∃ p ∈ prs c b i l, p.Loud = v) ↔ ∃ x ∈ l, ∃ y ∈ b, isOne c x y = true ∧ x.Loud + y.Loud = v
  | [], i => by simp [prs]
  | x :: r, i => by
    have ih := mem_prs c b v r (i + 1)
    have h0 := mem_row c i x v b 0
    unfold prs
    simp only [List.mem_append, List.mem_cons, or_and_right, exists_or]
    rw [h0, ih]
    simp only [exists_eq_left]
theorem louF_prs {c : S_search_clock} {a b a' b' : List S_api_Trigger}
    (h1 : ∀ x ∈ a, ∀ y ∈ b, isOne c x y = true → ∃ x' ∈ a', ∃ y' ∈ b', isOne c x' y' = true ∧ x'.Loud + y'.Loud = x.Loud + y.Loud)
    (h2 : ∀ x ∈ a', ∀ y ∈ b', isOne c x y = true → ∃ x' ∈ a, ∃ y' ∈ b, isOne c x' y' = true ∧ x'.Loud + y'.Loud = x.Loud + y.Loud) (m : Int) :
    louF m (prs c b 0 a) = louF m (prs c b' 0 a') := by
  refine louF_same (fun p hp => ?_) (fun p hp => ?_)
  · obtain ⟨x, hx, y, hy, e1, e2⟩ := (mem_prs c b p.Loud a 0).1 ⟨p, hp, rfl⟩
    obtain ⟨x', hx', y', hy', e3, e4⟩ := h1 x hx y hy e1
    exact (mem_prs c b' p.Loud a' 0).2 ⟨x', hx', y', hy', e3, by rw [e4, e2]⟩
  · obtain ⟨x, hx, y, hy, e1, e2⟩ := (mem_prs c b' p.Loud a' 0).1 ⟨p, hp, rfl⟩
    obtain ⟨x', hx', y', hy', e3, e4⟩ := h2 x hx y hy e1
    exact (mem_prs c b p.Loud a 0).2 ⟨x', hx', y', hy', e3, by rw [e4, e2]⟩
theorem rotd_mem2 {T d : Int} {l : List S_api_Trigger} {a : S_api_Trigger} (h : a ∈ l) : a ∈ rotd T d l := by
  rw [← List.takeWhile_append_dropWhile (p := before T d) (l := l)] at h
  rcases List.mem_append.1 h with h | h
  · exact List.mem_append.2 (Or.inr h)
  · exact List.mem_append.2 (Or.inl h)
theorem sld_mem {T d : Int} {l : List S_api_Trigger} {a : S_api_Trigger} : a ∈ sld T d l ↔ ∃ b ∈ l, a = mv T d b := by
  constructor
  · intro h
    obtain ⟨b, hb, rfl⟩ := List.mem_map.1 h
    exact ⟨b, rotd_mem hb, rfl⟩
  · intro h
    obtain ⟨b, hb, rfl⟩ := h
    exact List.mem_map.2 ⟨b, rotd_mem2 hb, rfl⟩
theorem mod_in {x T : Int} (h0 : 0 < T) (h1 : 0 ≤ x) (h2 : x < T + T) : (x < T ∧ Int.tmod x T = x) ∨ (T ≤ x ∧ Int.tmod x T = x - T) := by
  by_cases h : x < T
  · exact Or.inl ⟨h, mod0 h1 h⟩
  · exact Or.inr ⟨by omega, mod1 h0 (by omega) h2⟩
theorem dist_mv {T k u v : Int} (hk : 0 ≤ k ∧ k < T) (hu : 0 ≤ u ∧ u < T) (hv : 0 ≤ v ∧ v < T) : dist T (Int.tmod (u + k) T) (Int.tmod (v + k) T) = dist T u v := by
  unfold dist
  rcases mod_in (x := u + k) (T := T) (by omega) (by omega) (by omega) with ⟨a1, a2⟩ | ⟨a1, a2⟩ <;> rcases mod_in (x := v + k) (T := T) (by omega) (by omega) (by omega) with ⟨b1, b2⟩ | ⟨b1, b2⟩ <;> rw [a2, b2] <;> omega
theorem mv_mv {T j k t : Int} (hT : 0 < T) (hj : 0 ≤ j) (hk : 0 ≤ k) (ht : 0 ≤ t) : Int.tmod (Int.tmod (t + k) T + j) T = Int.tmod (Int.tmod (t + j) T + k) T := by
  have p1 := Int.emod_nonneg (t + k) (show T ≠ 0 by omega)
  have p2 := Int.emod_nonneg (t + j) (show T ≠ 0 by omega)
  rw [Int.tmod_eq_emod_of_nonneg (a := t + k) (by omega), Int.tmod_eq_emod_of_nonneg (a := t + j) (by omega), Int.tmod_eq_emod_of_nonneg (by omega), Int.tmod_eq_emod_of_nonneg (by omega), Int.emod_add_emod, Int.emod_add_emod]
  congr 1
  omega
theorem one_mv {c : S_search_clock} {j k : Int} (hT : 0 < c.live) (hj : 0 ≤ j) (hk : 0 ≤ k ∧ k < c.live) {x y : S_api_Trigger} (hx : 0 ≤ x.Time ∧ x.Time < c.live) (hy : 0 ≤ y.Time) :
    isOne c (mv c.live k x) (mv c.live j (mv c.live k y)) = isOne c x (mv c.live j y) := by
  have hv : 0 ≤ Int.tmod (y.Time + j) c.live ∧ Int.tmod (y.Time + j) c.live < c.live := by
    rw [Int.tmod_eq_emod_of_nonneg (by omega)]
    exact ⟨Int.emod_nonneg _ (by omega), Int.emod_lt_of_pos _ hT⟩
  unfold isOne
  show (x.Template == y.Template && decide (dist c.live (Int.tmod (x.Time + k) c.live) (Int.tmod (Int.tmod (y.Time + k) c.live + j) c.live) ≤ c.window)) = (x.Template == y.Template && decide (dist c.live x.Time (Int.tmod (y.Time + j) c.live) ≤ c.window))
  rw [mv_mv hT hj hk.1 hy, dist_mv hk hx hv]
theorem stF_mv {c : S_search_clock} {k : Int} {a b : List S_api_Trigger} (hT : 0 < c.live) (hs : 0 ≤ c.step) (hk : 0 ≤ k ∧ k < c.live) (hA : ∀ x ∈ a, 0 ≤ x.Time ∧ x.Time < c.live) (hB : ∀ y ∈ b, 0 ≤ y.Time) :
    ∀ m j, stF c (sld c.live k a) (sld c.live k b) m j = stF c a b m j
  | 0, _ => rfl
  | m + 1, j => by
    have hj : 0 ≤ (j : Int) * c.step := Int.mul_nonneg (by omega) hs
    rw [stF, stF, stF_mv hT hs hk hA hB m (j + 1)]
    congr 1
    refine louF_prs (fun x hx y hy e => ?_) (fun x hx y hy e => ?_) (-1)
    · obtain ⟨x0, hx0, rfl⟩ := sld_mem.1 hx
      obtain ⟨y1, hy1, rfl⟩ := sld_mem.1 hy
      obtain ⟨y0, hy0, rfl⟩ := sld_mem.1 hy1
      rw [one_mv hT hj hk (hA x0 hx0) (hB y0 hy0)] at e
      exact ⟨x0, hx0, _, sld_mem.2 ⟨y0, hy0, rfl⟩, e, rfl⟩
    · obtain ⟨y0, hy0, rfl⟩ := sld_mem.1 hy
      rw [← one_mv (k := k) hT hj hk (hA x hx) (hB y0 hy0)] at e
      exact ⟨_, sld_mem.2 ⟨x, hx, rfl⟩, _, sld_mem.2 ⟨_, sld_mem.2 ⟨y0, hy0, rfl⟩, rfl⟩, e, rfl⟩
end Go.Ev.SearchAlarm
