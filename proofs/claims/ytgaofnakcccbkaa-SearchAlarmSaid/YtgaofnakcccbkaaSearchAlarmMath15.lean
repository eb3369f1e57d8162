/- The statistics of slid triggers are those of the triggers, turned round. -/
import Derived.Test.YtgaofnakcccbkaaSearchAlarmMath14
namespace Go.Ev.SearchAlarm
open Go Go.Ev Go.Proofs
set_option linter.unusedVariables false
def sta (c : S_search_clock) (a b : List S_api_Trigger) (j : Nat) : Int := louF (-1) (prs c (sld c.live ((j : Int) * c.step) b) 0 a)
theorem stF_succ (c : S_search_clock) (a b : List S_api_Trigger) (m j : Nat) : stF c a b (m + 1) j = sta c a b j :: stF c a b m (j + 1) := rfl
theorem stF_app (c : S_search_clock) (a b : List S_api_Trigger) : ∀ m1 m2 j, stF c a b (m1 + m2) j = stF c a b m1 j ++ stF c a b m2 (j + m1)
  | 0, m2, j => by rw [Nat.zero_add]; rfl
  | m1 + 1, m2, j => by
    rw [show m1 + 1 + m2 = (m1 + m2) + 1 by omega, stF_succ, stF_succ, stF_app c a b m1 m2 (j + 1), show j + 1 + m1 = j + (m1 + 1) by omega]
    rfl
theorem stF_get (c : S_search_clock) (a b : List S_api_Trigger) : ∀ m j i, i < m → (stF c a b m j)[i]? = some (sta c a b (j + i))
  | 0, j, i, h => by omega
  | m + 1, j, 0, h => rfl
  | m + 1, j, i + 1, h => by
    rw [stF_succ, List.getElem?_cons_succ, stF_get c a b m (j + 1) i (by omega), show j + 1 + i = j + (i + 1) by omega]
theorem mv_add {T e1 e2 e t : Int} (hT : 0 < T) (h1 : 0 ≤ e1) (h2 : 0 ≤ e2) (h : 0 ≤ e) (ht : 0 ≤ t) (he : e = e1 + e2 ∨ e + T = e1 + e2) : Int.tmod (Int.tmod (t + e2) T + e1) T = Int.tmod (t + e) T := by
  have p1 := Int.emod_nonneg (t + e2) (show T ≠ 0 by omega)
  rw [Int.tmod_eq_emod_of_nonneg (a := t + e2) (by omega), Int.tmod_eq_emod_of_nonneg (by omega), Int.tmod_eq_emod_of_nonneg (a := t + e) (by omega), Int.emod_add_emod]
  rcases he with he | he
  · rw [he, show t + e2 + e1 = t + (e1 + e2) by omega]
  · rw [show t + e2 + e1 = t + e + T by omega, Int.add_emod_right]
theorem sta_shift {c : S_search_clock} {a b : List S_api_Trigger} {k j j' : Nat} (hT : 0 < c.live) (hs : 0 ≤ c.step) (hB : ∀ y ∈ b, 0 ≤ y.Time)
    (he : (j' : Int) * c.step = (j : Int) * c.step + (k : Int) * c.step ∨ (j' : Int) * c.step + c.live = (j : Int) * c.step + (k : Int) * c.step) :
    sta c a (sld c.live ((k : Int) * c.step) b) j = sta c a b j' := by
  have h1 : 0 ≤ (j : Int) * c.step := Int.mul_nonneg (by omega) hs
  have h2 : 0 ≤ (k : Int) * c.step := Int.mul_nonneg (by omega) hs
  have h3 : 0 ≤ (j' : Int) * c.step := Int.mul_nonneg (by omega) hs
  have hmv : ∀ y ∈ b, mv c.live ((j : Int) * c.step) (mv c.live ((k : Int) * c.step) y) = mv c.live ((j' : Int) * c.step) y := by
    intro y hy
    have := mv_add (t := y.Time) hT h1 h2 h3 (hB y hy) he
    unfold mv
    rw [this]
  unfold sta
  refine louF_prs (fun x hx y hy e => ?_) (fun x hx y hy e => ?_) (-1)
  · obtain ⟨y1, hy1, rfl⟩ := sld_mem.1 hy
    obtain ⟨y0, hy0, rfl⟩ := sld_mem.1 hy1
    rw [hmv y0 hy0] at e ⊢
    exact ⟨x, hx, _, sld_mem.2 ⟨y0, hy0, rfl⟩, e, rfl⟩
  · obtain ⟨y0, hy0, rfl⟩ := sld_mem.1 hy
    rw [← hmv y0 hy0] at e ⊢
    exact ⟨x, hx, _, sld_mem.2 ⟨_, sld_mem.2 ⟨y0, hy0, rfl⟩, rfl⟩, e, rfl⟩
theorem stF_on {c : S_search_clock} {a b : List S_api_Trigger} {k : Nat} (hT : 0 < c.live) (hs : 0 ≤ c.step) (hB : ∀ y ∈ b, 0 ≤ y.Time) : ∀ m j, stF c a (sld c.live ((k : Int) * c.step) b) m j = stF c a b m (j + k)
  | 0, _ => rfl
  | m + 1, j => by
    rw [stF_succ, stF_succ, stF_on hT hs hB m (j + 1), sta_shift (j' := j + k) hT hs hB (.inl (by rw [Int.natCast_add, Int.add_mul])), show j + 1 + k = j + k + 1 by omega]
theorem stF_over {c : S_search_clock} {a b : List S_api_Trigger} {k n : Nat} (hT : 0 < c.live) (hs : 0 ≤ c.step) (hB : ∀ y ∈ b, 0 ≤ y.Time) (hk : k ≤ n) (hn : c.live = (n : Int) * c.step) : ∀ m j, stF c a (sld c.live ((k : Int) * c.step) b) m (j + (n - k)) = stF c a b m j
  | 0, _ => rfl
  | m + 1, j => by
    have e : (j : Int) * c.step + c.live = ((j + (n - k) : Nat) : Int) * c.step + (k : Int) * c.step := by
      rw [← Int.add_mul, hn, ← Int.add_mul]
      congr 1
      omega
    have := stF_over (a := a) hT hs hB hk hn m (j + 1)
    rw [show j + 1 + (n - k) = j + (n - k) + 1 by omega] at this
    rw [stF_succ, stF_succ, this, sta_shift (j' := j) hT hs hB (.inr e)]
theorem cnt_turned {c : S_search_clock} {a b : List S_api_Trigger} {k n : Nat} (hT : 0 < c.live) (hs : 0 ≤ c.step) (hB : ∀ y ∈ b, 0 ≤ y.Time) (hk : k ≤ n) (hn : c.live = (n : Int) * c.step) (x : Int) :
    cnt x (stF c a (sld c.live ((k : Int) * c.step) b) n 0) = cnt x (stF c a b n 0) := by
  have e1 : stF c a (sld c.live ((k : Int) * c.step) b) n 0 = stF c a b (n - k) k ++ stF c a b k 0 := by
    have h1 := stF_app c a (sld c.live ((k : Int) * c.step) b) (n - k) k 0
    rw [show n - k + k = n by omega] at h1
    have h2 := stF_over (a := a) hT hs hB hk hn k 0
    have h3 := stF_on (a := a) (k := k) hT hs hB (n - k) 0
    rw [Nat.zero_add] at h1 h2 h3
    rw [h1, h2, h3]
  have e2 : stF c a b n 0 = stF c a b k 0 ++ stF c a b (n - k) k := by
    have h1 := stF_app c a b k (n - k) 0
    rw [show k + (n - k) = n by omega, Nat.zero_add] at h1
    exact h1
  rw [e1, e2]
  unfold cnt
  rw [List.countP_append, List.countP_append, Nat.add_comm]
theorem cnt_anti {x y : Int} (h : x ≤ y) (l : List Int) : cnt y l ≤ cnt x l := List.countP_mono_left fun z _ hz => by
  have := of_decide_eq_true hz
  exact decide_eq_true (by omega)
theorem okC_mul {c : S_search_clock} (h : okC c = true) : c.live = ((cntS c : Nat) : Int) * c.step := by
  obtain ⟨h1, _⟩ := cntS_ok h
  have h2 : Int.tmod c.live c.step = 0 := by
    rw [okC, Bool.and_eq_true, Bool.and_eq_true, Bool.and_eq_true, Bool.and_eq_true] at h
    exact eq_of_beq h.2.1
  have h3 := Int.mul_tdiv_add_tmod c.live c.step
  rw [h1, h2, Int.add_zero, Int.mul_comm] at h3
  exact h3.symm
theorem cand_few {c : S_search_clock} {a b : List S_api_Trigger} {k n q : Nat} (hT : 0 < c.live) (hs : 0 ≤ c.step) (hB : ∀ y ∈ b, 0 ≤ y.Time) (hk : k ≤ n) (hn : c.live = (n : Int) * c.step)
    (h : 0 < (candF q (stF c a (sld c.live ((k : Int) * c.step) b) n 0) (prs c (sld c.live ((k : Int) * c.step) b) 0 a)).length) : cnt (sta c a b k) (stF c a b n 0) ≤ q := by
  obtain ⟨z, hz⟩ := List.exists_mem_of_length_pos h
  unfold candF at hz
  obtain ⟨p, hp, rfl⟩ := List.mem_map.1 hz
  obtain ⟨hp1, hp2⟩ := List.mem_filter.1 hp
  have h1 : max ((cnt p.Loud (stF c a (sld c.live ((k : Int) * c.step) b) n 0) : Nat) : Int) 1 ≤ q := of_decide_eq_true hp2
  rw [cnt_turned hT hs hB hk hn] at h1
  have h2 : p.Loud ≤ sta c a b k := ((louF_le _ _).1 (Int.le_refl _)).2 p hp1
  have h3 := cnt_anti h2 (stF c a b n 0)
  omega
end Go.Ev.SearchAlarm
