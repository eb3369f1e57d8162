/- AlertSigned. -/
import Derived.Test.YtoobfmfgbcohcaaDoorAlertSignedMath7
namespace Go.Ev.AlertSigned
open Go Go.Ev Go.Proofs
set_option linter.unusedVariables false
theorem mod_eq (F m : Nat) (n : Int) (hm : 1 ≤ m) (hm1 : m ≤ 1073741824) : ∃ o : Nat, o < m ∧ ref00_Mod F n m = some (o : Int) := by
  have h1 := Int.tmod_lt_of_pos n (show (0 : Int) < m by omega)
  have h2 := Int.lt_tmod_of_pos n (show (0 : Int) < m by omega)
  unfold ref00_Mod ref00_Mod_1
  rw [bif_neg' (by omega), nz_ok (show (m : Int) ≠ 0 by omega), bnd_eq]
  by_cases h : Int.tmod n m < 0
  · rw [bif_pos' h, w64_id (by omega) (by omega)]
    exact ⟨(Int.tmod n m + m).toNat, by omega, by congr 1; omega⟩
  · rw [bif_neg' h]
    exact ⟨(Int.tmod n m).toNat, by omega, by congr 1; omega⟩
theorem law_eq (F : Nat) (n : S__3_int) (a : S_api_Alert) (other : Int) (hl : a.Cells.length ≤ 9223372036854775807) (hF : a.Cells.length + 70000 < F) (hw : works F = some true) : law10_AlertSigned F n a other = some true := by
  unfold law10_AlertSigned
  rw [makeKey_eq F (by omega), bnd_eq]
  unfold keyT
  cases hc : primeB n.e0 && (primeB n.e1 && (!(n.e0 == n.e1) && inR 3 n.e2 32749)) with
  | false =>
    show law10_AlertSigned_1 F true = _
    unfold law10_AlertSigned_1 law10_AlertSigned_2
    rw [cond_true, hw, bnd_eq]
  | true =>
    rw [cond_true]
    cases hf : firstK n.e2.toNat (lcmT (n.e0.toNat - 1) (n.e1.toNat - 1)) n.e2.toNat 0 with
    | none =>
      show law10_AlertSigned_1 F true = _
      unfold law10_AlertSigned_1 law10_AlertSigned_2
      rw [cond_true, hw, bnd_eq]
    | some k =>
      have hz := (first_some hf).2.2
      dsimp only
      simp only [Bool.and_eq_true, Bool.not_eq_true', beq_eq_false_iff_ne] at hc
      obtain ⟨hp, hq, hne, he⟩ := hc
      have h1 := inR_iff.1 (primeB_rng hp)
      have h2 := inR_iff.1 (primeB_rng hq)
      have h3 := inR_iff.1 he
      unfold primeB at hp hq
      rw [Bool.and_eq_true] at hp hq
      have hP := prime_of_trial (p := n.e0.toNat) (by omega) (trial_iff.1 hp.2)
      have hQ := prime_of_trial (p := n.e1.toNat) (by omega) (trial_iff.1 hq.2)
      have hPQ : n.e0.toNat ≠ n.e1.toNat := by omega
      have hm1 : n.e0.toNat * n.e1.toNat ≤ 32749 * 32749 := Nat.mul_le_mul (by omega) (by omega)
      have hm0 : 3 * 3 ≤ n.e0.toNat * n.e1.toNat := Nat.mul_le_mul (by omega) (by omega)
      have hrsa := fun d o ho => sign_only hP hQ hPQ hz d o ho
      generalize n.e0.toNat * n.e1.toNat = m at *
      generalize (k * lcmT (n.e0.toNat - 1) (n.e1.toNat - 1) + 1) / n.e2.toNat = s at *
      obtain ⟨x, hx⟩ : ∃ x : Nat, n.e2 = x := ⟨n.e2.toNat, by omega⟩
      rw [hx] at hrsa h3 ⊢
      rw [Int.toNat_natCast] at hrsa
      rw [show ((0 : Int) == 0) = true from rfl, Bool.not_true, cond_false, sign_eq F _ _ a hl (by omega) (by omega), bnd_eq]
      unfold signT
      cases hpl : plsB (S_api_Key.mk (m : Int) (x : Int)) with
      | false =>
        show bnd (works F) _ = _
        rw [hw, bnd_eq]
      | true =>
        cases hs : inR 1 (s : Int) 1073741824 with
        | false =>
          show bnd (works F) _ = _
          rw [hw, bnd_eq]
        | true =>
          cases hv : vldB a with
          | false =>
            show bnd (works F) _ = _
            rw [hw, bnd_eq]
          | true =>
            obtain ⟨o, ho, hoe⟩ := mod_eq F m other (by omega) (by omega)
            obtain ⟨g1, g2⟩ := hrsa (digT a) o ho
            have hsm : digT a ^ s % m < m := Nat.mod_lt _ (by omega)
            simp only [Bool.and_self, cond_true, Int.toNat_natCast]
            rw [show ((0 : Int) == 0) = true from rfl, Bool.not_true, cond_false, signed_eq F _ a _ hl (by omega) (by omega), bnd_eq, hoe, bnd_eq, signed_eq F _ a _ hl (by omega) (by omega), bnd_eq]
            unfold signedT
            rw [hpl, hv]
            simp only [cond_true, Int.toNat_natCast]
            have e1 : sigB m x (digT a) ((digT a ^ s % m : Nat) : Int) = true := by
              unfold sigB
              rw [Int.toNat_natCast, g1, inR_iff.2 (by omega)]
              simp
            have e2 : sigB m x (digT a) (o : Int) = ((o : Int) == ((digT a ^ s % m : Nat) : Int)) := by
              unfold sigB
              rw [Int.toNat_natCast, inR_iff.2 (by omega), Bool.true_and, natBeq, Bool.eq_iff_iff, beq_iff_eq, beq_iff_eq]
              exact g2
            rw [e1, e2, show ((0 : Int) == 0) = true from rfl]
            unfold law10_AlertSigned_4 law10_AlertSigned_5 law10_AlertSigned_6 law10_AlertSigned_7
            rw [hw]
            simp only [beq_self_eq_true, cond_true, bnd_eq]
end Go.Ev.AlertSigned
