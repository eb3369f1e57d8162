/- Coincidences: what the specification says. -/
import Derived.Test.YtgaofnakcccbkaaSearchCandidatesMath11
namespace Go.Ev.SearchCandidates
open Go Go.Ev Go.Proofs
set_option linter.unusedVariables false
theorem rdist_eq (F : Nat) (T s t : Int) (h1 : 0 ≤ s ∧ s ≤ 1073741824) (h2 : 0 ≤ t ∧ t ≤ 1073741824) (h3 : 0 ≤ T ∧ T ≤ 1073741824) : ref08_distance F s t T = some (dist T s t) := by
  unfold ref08_distance dist ref00_Abs
  rw [w64_id (n := s - t) (by omega) (by omega)]
  by_cases h : s - t < 0
  · rw [bif_pos' h, bnd_eq, w64_id (n := -(s - t)) (by omega) (by omega), w64_id (by omega) (by omega), show max (s - t) (t - s) = -(s - t) by omega]
  · rw [bif_neg' h, bnd_eq, w64_id (by omega) (by omega), show max (s - t) (t - s) = s - t by omega]
theorem rcoin2 (F : Nat) (hd : (List S_api_Trigger) → (List S_api_Trigger) → Int → S_ringdownref08_Clock → (List S_api_Pair) → Option ((List S_api_Pair))) (a b : List S_api_Trigger) (c : S_ringdownref08_Clock) (x : S_api_Trigger) (i : Nat)
    (hi : i ≤ 256) (hb : b.length ≤ 256) (hai : a[i]? = some x) (hx : okA x) (hB : ∀ y ∈ b, okA y) (hc : 0 ≤ c.Live ∧ c.Live ≤ 1073741824) : ∀ (k N j : Nat) (acc : List S_api_Pair), k = b.length - j → j ≤ b.length → k < N → acc.length ≤ i * 256 + j →
    ref08_coincide_2 F hd N a b i j c acc = hd a b (w64 ((i : Int) + 1)) c (acc ++ rowP (rC c) i x j (b.drop j))
  | k, 0, j, acc, _, _, h, _ => by omega
  | 0, N + 1, j, acc, hk, hj, _, _ => by
    rw [ref08_coincide_2, bif_neg' (by omega : ¬ ((j : Int) < b.length)), List.drop_of_length_le (by omega), rowP, List.append_nil]
  | k + 1, N + 1, j, acc, hk, hj, hN, hacc => by
    obtain ⟨y, hy⟩ := get_lt (l := b) (i := j) (by omega)
    have hY := hB y (List.mem_of_getElem? hy)
    have hx' := hx
    obtain ⟨x1, x2, x3, x4, _⟩ := hx'
    obtain ⟨y1, y2, y3, y4, _⟩ := hY
    have ih := fun acc' h => rcoin2 F hd a b c x i hi hb hai hx hB hc k N (j + 1) acc' (by omega) (by omega) (by omega) h
    rw [ref08_coincide_2, bif_pos' (by omega : ((j : Int) < b.length)), idx_nat, hai, bnd_eq, idx_nat, hy, bnd_eq, drop_get hy, rowP, isOne]
    have hno : ref08_coincide_3 F (ref08_coincide_2 F hd N) a b i j false c acc = hd a b (w64 ((i : Int) + 1)) c (acc ++ rowP (rC c) i x (j + 1) (b.drop (j + 1))) := by
      unfold ref08_coincide_3 ref08_coincide_4
      rw [cond_false, up (by omega)]
      exact ih acc (by omega)
    cases e1 : (x.Template == y.Template) with
    | false =>
      simp only [cond_false, Bool.false_and]
      exact hno
    | true =>
      simp only [cond_true, Bool.true_and, bnd_eq]
      rw [rdist_eq F c.Live _ _ ⟨x1, by omega⟩ ⟨y1, by omega⟩ hc, bnd_eq]
      show ref08_coincide_3 F (ref08_coincide_2 F hd N) a b i j (decide (dist (rC c).live x.Time y.Time ≤ (rC c).window)) c acc = _
      cases e2 : decide (dist (rC c).live x.Time y.Time ≤ (rC c).window) with
      | false =>
        simp only [cond_false]
        exact hno
      | true =>
        unfold ref08_coincide_3 ref08_coincide_4
        rw [cond_true, idx_nat, hai, bnd_eq, idx_nat, hy, bnd_eq, apd_ok (by simp; omega) (by omega), bnd_eq, up (by omega), ih _ (by simp; omega), w64_id (n := x.Loud + y.Loud) (by omega) (by omega), List.append_assoc]
        rfl
theorem rcoin1 (F : Nat) (hF : 256 < F) (a b : List S_api_Trigger) (c : S_ringdownref08_Clock) (ha : a.length ≤ 256) (hb : b.length ≤ 256) (hA : ∀ y ∈ a, okA y) (hB : ∀ y ∈ b, okA y) (hc : 0 ≤ c.Live ∧ c.Live ≤ 1073741824) : ∀ (k N i : Nat) (acc : List S_api_Pair), k = a.length - i → i ≤ a.length → k < N → acc.length ≤ i * 256 →
    ref08_coincide_1 F N a b i c acc = some (acc ++ prs (rC c) b i (a.drop i))
  | k, 0, i, acc, _, _, h, _ => by omega
  | 0, N + 1, i, acc, hk, hi, _, _ => by
    rw [ref08_coincide_1, bif_neg' (by omega : ¬ ((i : Int) < a.length)), List.drop_of_length_le (by omega), prs, List.append_nil]
  | k + 1, N + 1, i, acc, hk, hi, hN, hacc => by
    obtain ⟨x, hx⟩ := get_lt (l := a) (i := i) (by omega)
    have hl := rowP_len (rC c) i x b 0
    rw [ref08_coincide_1, bif_pos' (by omega : ((i : Int) < a.length)), drop_get hx, prs]
    have := rcoin2 F (ref08_coincide_1 F N) a b c x i (by omega) hb hx (hA x (List.mem_of_getElem? hx)) hB hc b.length F 0 acc rfl (Nat.zero_le _) (Nat.lt_of_le_of_lt hb hF) (Nat.le_trans hacc (Nat.le_add_right _ _))
    rw [List.drop_zero] at this
    refine this.trans ?_
    rw [up (by omega), rcoin1 F hF a b c ha hb hA hB hc k N (i + 1) _ (by omega) (by omega) (by omega) (by rw [List.length_append]; omega), List.append_assoc]
theorem rlou1 (F : Nat) (l : List S_api_Pair) (hl : l.length ≤ 65536) : ∀ (k N i : Nat) (m : Int), k = l.length - i → i ≤ l.length → k < N →
    ref08_loudest_1 F N l m i = some (louF m (l.drop i))
  | k, 0, i, m, _, _, h => by omega
  | 0, N + 1, i, m, hk, hi, _ => by
    rw [ref08_loudest_1, bif_neg' (by omega : ¬ ((i : Int) < l.length)), List.drop_of_length_le (by omega)]
    rfl
  | k + 1, N + 1, i, m, hk, hi, hN => by
    obtain ⟨x, hx⟩ := get_lt (l := l) (i := i) (by omega)
    rw [ref08_loudest_1, bif_pos' (by omega : ((i : Int) < l.length)), idx_nat, hx, bnd_eq, drop_get hx, up (by omega), rlou1 F l hl k N (i + 1) _ (by omega) (by omega) (by omega)]
    rfl
theorem rloudest_eq (F : Nat) (l : List S_api_Pair) (hl : l.length ≤ 65536) (hF : 65536 < F) : ref08_loudest F l = some (louF (-1) l) := by
  unfold ref08_loudest
  exact rlou1 F l hl l.length F 0 (-1) rfl (Nat.zero_le _) (by omega)
end Go.Ev.SearchCandidates
