/- SearchLouder. -/
import Derived.Test.YtgaofnakcccbkaaSearchLouderMath5
namespace Go.Ev.SearchLouder
open Go Go.Ev Go.Proofs
set_option linter.unusedVariables false
theorem lou3 (F : Nat) (hd : Int → (List S_api_Burst) → (List S_api_Burst) → Option (Bool)) (A B : List S_api_Burst) (hA : A.length ≤ 2000) (i : Nat) (hi : i ≤ 2000) (m : S_api_Burst) (hm : B[i]? = some m) : ∀ (k N j : Nat) (f : Bool), k = A.length - j → j ≤ A.length → k < N → (f = true ∨ ∃ q l, j ≤ q ∧ A[q]? = some l ∧ cov l m) →
    law08_SearchLouder_3 F hd N i f j A B = hd ((i + 1 : Nat) : Int) A B
  | k, 0, j, f, _, _, h, _ => by omega
  | 0, N + 1, j, f, hk, hj, _, hf => by
    have hf' : f = true := by
      rcases hf with h | ⟨q, l, h1, h2, _⟩
      · exact h
      · have := (List.getElem?_eq_some_iff.1 h2).1
        omega
    subst hf'
    rw [law08_SearchLouder_3, bif_neg' (by omega : ¬ ((j : Int) < A.length)), Bool.not_true, cond_false, up (by omega)]
  | k + 1, N + 1, j, f, hk, hj, hN, hf => by
    have hjl : j < A.length := by clear hf; omega
    have hk2 : k = A.length - (j + 1) := by clear hf; omega
    have hN2 : k < N := by clear hf; omega
    have hj2 : (j : Int) < A.length := by clear hf; omega
    obtain ⟨y, hy⟩ := get_lt (l := A) (i := j) hjl
    have ih := fun f' h => lou3 F hd A B hA i hi m hm k N (j + 1) f' hk2 hjl hN2 h
    have hno : ¬ cov y m → ∀ g : Bool, f = false → law08_SearchLouder_4 F (law08_SearchLouder_3 F hd N) i g j A B = hd ((i + 1 : Nat) : Int) A B := fun hc g hf0 => by
      unfold law08_SearchLouder_4
      rw [up (by clear hf; omega)]
      refine ih g ?_
      rcases hf with h | ⟨q, l, h1, h2, h3⟩
      · rw [hf0] at h; cases h
      · by_cases hq : q = j
        · subst hq
          rw [hy] at h2
          obtain rfl := Option.some.inj h2
          exact absurd h3 hc
        · exact .inr ⟨q, l, by omega, h2, h3⟩
    rw [law08_SearchLouder_3, bif_pos' hj2]
    cases f with
    | true =>
      rw [cond_true]
      unfold law08_SearchLouder_4
      rw [up (by omega)]
      exact ih true (.inl rfl)
    | false =>
      rw [cond_false]
      simp only [idx_nat, hy, hm, bnd_eq]
      by_cases c1 : y.From ≤ m.From
      · rw [bif_pos' c1]
        by_cases c2 : m.To ≤ y.To
        · rw [bif_pos' c2]
          by_cases c3 : m.Peak ≤ y.Peak
          · rw [decide_eq_true c3]
            unfold law08_SearchLouder_4
            rw [up (by clear hf; omega)]
            exact ih true (.inl rfl)
          · exact hno (fun h => c3 h.2.2) _ rfl
        · rw [bif_neg' c2]
          exact hno (fun h => c2 h.2.1) _ rfl
      · rw [bif_neg' c1]
        exact hno (fun h => c1 h.1) _ rfl
theorem lou2 (F : Nat) (hF : 2000 < F) (hw : works F = some true) (A B : List S_api_Burst) (hA : A.length ≤ 2000) (hB : B.length ≤ 2000) (hc : ∀ m ∈ B, ∃ l ∈ A, cov l m) : ∀ (k N i : Nat), k = B.length - i → i ≤ B.length → k < N → law08_SearchLouder_2 F N i A B = some true
  | k, 0, i, _, _, h => by omega
  | 0, N + 1, i, hk, hi, _ => by
    rw [law08_SearchLouder_2, bif_neg' (by omega : ¬ ((i : Int) < B.length)), hw]
    rfl
  | k + 1, N + 1, i, hk, hi, hN => by
    obtain ⟨m, hm⟩ := get_lt (l := B) (i := i) (by omega)
    obtain ⟨l, hl, hcl⟩ := hc m (List.mem_of_getElem? hm)
    obtain ⟨q, hq, hqe⟩ := List.getElem_of_mem hl
    rw [law08_SearchLouder_2, bif_pos' (by omega : ((i : Int) < B.length))]
    have := lou3 F (law08_SearchLouder_2 F N) A B hA i (by omega) m hm A.length F 0 false rfl (Nat.zero_le _) (by omega) (.inr ⟨q, l, Nat.zero_le _, by rw [List.getElem?_eq_getElem hq, hqe], hcl⟩)
    refine this.trans ?_
    exact lou2 F hF hw A B hA hB hc k N (i + 1) (by omega) (by omega) (by omega)
theorem errB_0 {x : List Int} {w thr : Int} (h : errB x w thr = 0) : isRec x = true ∧ 1 ≤ w ∧ w ≤ 1024 ∧ 1 ≤ thr ∧ thr ≤ 1152921504606846976 := by
  unfold errB at h
  cases e : isRec x with
  | false => rw [e, cond_false] at h; exact absurd h (by decide)
  | true =>
    rw [e, cond_true] at h
    cases e1 : inR 1 w 1024 with
    | false => rw [e1, Bool.false_and, cond_false] at h; exact absurd h (by decide)
    | true =>
      cases e2 : inR 1 thr 1152921504606846976 with
      | false => rw [e2, Bool.and_false, cond_false] at h; exact absurd h (by decide)
      | true =>
        have h1 := inR_iff.1 e1
        have h2 := inR_iff.1 e2
        exact ⟨rfl, h1.1, h1.2, h2.1, h2.2⟩
theorem errB_ok {x : List Int} {w thr : Int} (h0 : isRec x = true) (h1 : 1 ≤ w ∧ w ≤ 1024) (h2 : 1 ≤ thr ∧ thr ≤ 1152921504606846976) : errB x w thr = 0 := by
  unfold errB
  rw [h0, inR_iff.2 h1, inR_iff.2 h2]
  rfl
theorem burF_len {x : List Int} (hx : isRec x = true) (w : Nat) (thr : Int) : (burF x w thr).length ≤ 2000 := by
  have := (isRec_ok hx).1
  have h2 := brs_len x w thr (x.length + 1 - w) 0 []
  rw [burF]
  simp only [List.length_nil] at h2
  omega
theorem law_eq (F : Nat) (x : List Int) (w thr : Int) (hl : x.length ≤ 9223372036854775807) (hF : x.length + 2200 < F) (hw : works F = some true) : law08_SearchLouder F x w thr = some true := by
  unfold law08_SearchLouder
  rw [Bursts_eq F x w thr (by omega) hl, bnd_eq]
  cases e : (errB x w thr == 0) with
  | false => simp only [Bool.not_false, cond_true, law08_SearchLouder_1, hw, bnd_eq]
  | true =>
    have e' := e
    rw [beq_iff_eq] at e'
    obtain ⟨h1, h2, h3, h4, h5⟩ := errB_0 e'
    simp only [Bool.not_true, cond_false, cond_true]
    unfold law08_SearchLouder_1
    cases e2 : (thr == 1152921504606846976) with
    | true => simp only [cond_true, hw, bnd_eq]
    | false =>
      have hd : Int.tdiv thr 2 = thr / 2 := Int.tdiv_eq_ediv_of_nonneg (by omega)
      rw [cond_false, hd, w64_id (n := thr / 2) (by omega) (by omega), w64_id (n := thr + thr / 2) (by omega) (by omega), w64_id (n := thr + thr / 2 + 1) (by omega) (by omega), Bursts_eq F x w _ (by omega) hl, bnd_eq, errB_ok h1 ⟨h2, h3⟩ ⟨by omega, by omega⟩]
      simp only [beq_self_eq_true, Bool.not_true, cond_false, cond_true]
      exact lou2 F (by omega) hw _ _ (burF_len h1 _ _) (burF_len h1 _ _) (louder x _ thr _ (by omega)) _ F 0 rfl (Nat.zero_le _) (by have := burF_len h1 w.toNat (min 1152921504606846976 (thr + thr / 2 + 1)); omega)
end Go.Ev.SearchLouder
