/- RecordSeconds. -/
import Derived.Test.YtbpnoedmnkalpaaGreatDoorRecordSecondsMath3
namespace Go.Ev.RecordSeconds
open Go Go.Ev Go.Proofs
set_option linter.unusedVariables false
def fl (p : Int → Bool) (u : Int) (n : Nat) : List Bool := (List.range n).map fun k : Nat => p (u + (k : Int))
theorem fl_len (p : Int → Bool) (u : Int) (n : Nat) : (fl p u n).length = n := by unfold fl; simp
theorem fl_get (p : Int → Bool) (u : Int) {n k : Nat} (h : k < n) : (fl p u n)[k]? = some (p (u + (k : Int))) := by
  unfold fl
  rw [List.getElem?_map, List.getElem?_range h]
  rfl
theorem fl_congr {p q : Int → Bool} (u : Int) (n : Nat) (h : ∀ x, p x = q x) : fl p u n = fl q u n := by
  have : p = q := funext h
  rw [this]
theorem fl_set (p : Int → Bool) (u : Int) {n k : Nat} (h : k < n) : (fl p u n).set k true = fl (fun x => p x || x == u + (k : Int)) u n := by
  apply List.ext_getElem?
  intro i
  by_cases hi : i < n
  · rw [fl_get _ _ hi, List.getElem?_set]
    by_cases e : k = i
    · subst e
      rw [if_pos rfl, if_pos (by rw [fl_len]; exact h)]
      simp
    · rw [if_neg e, fl_get _ _ hi]
      have : ((u + (i : Int)) == u + (k : Int)) = false := by rw [beq_eq_false_iff_ne]; omega
      rw [this, Bool.or_false]
  · rw [List.getElem?_eq_none (by rw [List.length_set, fl_len]; omega), List.getElem?_eq_none (by rw [fl_len]; omega)]
theorem mark (F : Nat) (hd : Int → Int → Int → Int → List S_api_Channel → List S_api_Frame → List S_api_Span → List Bool → Option Bool) (B : List S_api_Channel) (L : List S_api_Frame) (G : List S_api_Span) (hG : G.length ≤ 1000) (u : Int) (n : Nat) (hu : 0 ≤ u ∧ u + n ≤ 1073741824) (i : Nat) (s : S_api_Span) (hs : G[i]? = some s) (h1 : u ≤ s.From) (h2 : s.To ≤ u + n) :
    ∀ (k N : Nat) (t : Int) (p : Int → Bool), (k : Int) = s.To - t → s.From ≤ t → k < N → law05_RecordSeconds_4 F hd N u (u + n) i t B L G (fl p u n) = hd u (u + n) s.To ((i + 1 : Nat) : Int) B L G (fl (fun x => p x || (decide (t ≤ x) && decide (x < s.To))) u n)
  | k, 0, t, p, _, _, h => by omega
  | 0, N + 1, t, p, hk, ht, _ => by
    have hil := (List.getElem?_eq_some_iff.1 hs).1
    rw [law05_RecordSeconds_4, idx_nat, hs, bnd_eq, bif_neg' (by omega), bnd_eq, up (by omega)]
    congr 1
    refine fl_congr u n fun x => ?_
    by_cases h : t ≤ x
    · rw [decide_eq_false (show ¬ x < s.To by omega), Bool.and_false, Bool.or_false]
    · rw [decide_eq_false h, Bool.false_and, Bool.or_false]
  | k + 1, N + 1, t, p, hk, ht, hN => by
    obtain ⟨q, hq⟩ : ∃ q : Nat, t - u = q := ⟨(t - u).toNat, by omega⟩
    rw [law05_RecordSeconds_4, idx_nat, hs, bnd_eq, bif_pos' (by omega), w64_id (n := t - u) (by omega) (by omega), hq, inn_at (by rw [fl_len]; omega), bnd_eq, upd_at (by rw [fl_len]; omega), bnd_eq, fl_set p u (by omega), w64_id (n := t + 1) (by omega) (by omega), mark F hd B L G hG u n hu i s hs h1 h2 k N (t + 1) _ (by omega) (by omega) (by omega)]
    congr 1
    refine fl_congr u n fun x => ?_
    have e : u + (q : Int) = t := by omega
    rw [e, Bool.or_assoc]
    congr 1
    by_cases h : x = t
    · subst h
      rw [beq_self_eq_true, Bool.true_or, decide_eq_true (Int.le_refl _), decide_eq_true (by omega)]
      rfl
    · have e2 : (x == t) = false := by rw [beq_eq_false_iff_ne]; exact h
      rw [e2, Bool.false_or]
      by_cases h3 : t ≤ x
      · rw [decide_eq_true h3, decide_eq_true (by omega)]
      · rw [decide_eq_false h3, decide_eq_false (by omega)]
theorem inS_snoc (G : List S_api_Span) (s : S_api_Span) (t : Int) : inS (G ++ [s]) t = (inS G t || (decide (s.From ≤ t) && decide (t < s.To))) := by
  unfold inS
  rw [List.any_append]
  simp
theorem law2 (F : Nat) (B : List S_api_Channel) (L : List S_api_Frame) (G : List S_api_Span) (hG : G.length ≤ 1000) (u : Int) (n : Nat) (hu : 0 ≤ u ∧ u + n ≤ 1073741824) (hF : n + 1000 < F)
    (hend : law05_RecordSeconds_5 F F u (u + n) 0 0 B L G (fl (inS G) u n) [] = some true) : ∀ (k N i : Nat) (v : Int), k = G.length - i → i ≤ G.length → k < N → u ≤ v + 1 → spansOK (u + n) (v + 1) (G.drop i) → law05_RecordSeconds_2 F N u (u + n) v i B L G (fl (inS (G.take i)) u n) = some true
  | k, 0, i, v, _, _, h, _, _ => by omega
  | 0, N + 1, i, v, hk, hi, _, _, _ => by
    rw [law05_RecordSeconds_2, bif_neg' (by omega), List.take_of_length_le (by omega)]
    exact hend
  | k + 1, N + 1, i, v, hk, hi, hN, hv, hok => by
    obtain ⟨s, hs⟩ := get_lt (l := G) (i := i) (by omega)
    rw [drop_get hs] at hok
    obtain ⟨o1, o2, o3, o4⟩ := hok
    have htk : G.take (i + 1) = G.take i ++ [s] := by rw [List.take_add_one, hs]; rfl
    rw [law05_RecordSeconds_2, bif_pos' (by omega), idx_nat, hs, bnd_eq, bif_neg' (by omega), bnd_eq, bnd_eq, bif_neg' (by omega), bnd_eq, decide_eq_false (by omega)]
    unfold law05_RecordSeconds_3
    rw [cond_false, idx_nat, hs, bnd_eq, mark F _ B L G hG u n hu i s hs (by omega) o3 (s.To - s.From).toNat F s.From _ (by omega) (by omega) (by omega)]
    have := law2 F B L G hG u n hu hF hend k N (i + 1) s.To (by omega) (by omega) (by omega) (by omega) o4
    rw [htk] at this
    rw [fl_congr (q := inS (G.take i ++ [s])) u n fun x => (inS_snoc _ _ _).symm]
    exact this
def inr (u v : Int) (f : S_api_Frame) : Bool := decide (u ≤ f.Start) && decide (f.Start < v)
def s0 (f : S_api_Frame) : List Int := f.Samples[0]?.getD []
def ser (u v : Int) (L : List S_api_Frame) : List Int := (L.filter (inr u v)).flatMap s0
theorem ser_snoc (u v : Int) (L : List S_api_Frame) (f : S_api_Frame) : ser u v (L ++ [f]) = ser u v L ++ (bif inr u v f then s0 f else []) := by
  unfold ser
  rw [List.filter_append, List.flatMap_append]
  cases e : inr u v f with
  | true => rw [List.filter_cons_of_pos (by simp [e])]; simp
  | false => rw [List.filter_cons_of_neg (by simp [e])]; simp
theorem s0_get {B : List S_api_Channel} {f : S_api_Frame} (hB : 1 ≤ B.length) (h : f.Samples.length = B.length ∧ smOK f.Samples) : f.Samples[0]? = some (s0 f) ∧ (s0 f).length ≤ 64 := by
  obtain ⟨y, hy⟩ := get_lt (l := f.Samples) (i := 0) (by omega)
  unfold s0
  rw [hy]
  exact ⟨rfl, h.2 y (List.mem_of_getElem? hy)⟩
theorem ser_len {B : List S_api_Channel} (hB : 1 ≤ B.length) (u v : Int) : ∀ (L : List S_api_Frame), (∀ f ∈ L, f.Samples.length = B.length ∧ smOK f.Samples) → (ser u v L).length ≤ L.length * 64
  | [], _ => Nat.le_refl _
  | f :: r, h => by
    have ih := ser_len hB u v r fun g hg => h g (by simp [hg])
    have h1 := (s0_get hB (h f (by simp))).2
    have e : ser u v (f :: r) = (bif inr u v f then s0 f else []) ++ ser u v r := by
      unfold ser
      cases e : inr u v f with
      | true => rw [List.filter_cons_of_pos (by simp [e])]; simp
      | false => rw [List.filter_cons_of_neg (by simp [e])]; simp
    rw [e, List.length_append, List.length_cons]
    cases inr u v f <;> simp <;> omega
end Go.Ev.RecordSeconds
