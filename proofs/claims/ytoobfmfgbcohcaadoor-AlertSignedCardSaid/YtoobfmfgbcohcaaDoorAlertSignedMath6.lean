/- Signing, on both sides. -/
import Derived.Test.YtoobfmfgbcohcaaDoorAlertSignedMath5
namespace Go.Ev.AlertSigned
open Go Go.Ev Go.Proofs
set_option linter.unusedVariables false
theorem alert_eta (a : S_api_Alert) : S_api_Alert.mk a.Event a.Version a.Time (S_api_Chance.mk a.Chance.N a.Chance.Of) a.Grid a.Cells a.Withdrawn a.Before = a := rfl
def signT (k : S_api_Key) (s : Int) (a : S_api_Alert) : Int × Int := bif plsB k && inR 1 s 1073741824 then (bif vldB a then (((digT a ^ s.toNat % k.Modulus.toNat : Nat) : Int), 0) else (0, 101)) else (0, 100)
theorem sign_eq (F : Nat) (k : S_api_Key) (s : Int) (a : S_api_Alert) (hl : a.Cells.length ≤ 9223372036854775807) (hF : a.Cells.length < F) (hF1 : 20000 < F) : alert_Sign F k s a = some (signT k s a) := by
  unfold alert_Sign alert_Sign_1
  rw [plausible_eq, bnd_eq, isFrom_eq, bnd_eq, alert_eta, isAlert_eq F a (by omega) hl hF, bnd_eq]
  unfold signT
  cases hp : plsB k with
  | false => rfl
  | true =>
    cases hs : inR 1 s 1073741824 with
    | false => rfl
    | true =>
      cases hv : vldB a with
      | false => rfl
      | true =>
        have hs' := inR_iff.1 hs
        obtain ⟨m, x, rfl, h1, h2, _, _⟩ := pls_nat hp
        obtain ⟨v, rfl⟩ : ∃ v : Nat, s = v := ⟨s.toNat, by omega⟩
        simp only [Bool.not_true, cond_false, cond_true, Bool.and_true, Int.toNat_natCast]
        rw [digestOf_eq F hF1 (vld_fine hv), bnd_eq, power_eq F m (digT a) v x (by omega) h2 (by omega) (by omega), bnd_eq]
def signedT (k : S_api_Key) (a : S_api_Alert) (n : Int) : Bool × Int := bif plsB k then (bif vldB a then (sigB k.Modulus.toNat k.Exponent.toNat (digT a) n, 0) else (false, 101)) else (false, 100)
theorem signed_eq (F : Nat) (k : S_api_Key) (a : S_api_Alert) (n : Int) (hl : a.Cells.length ≤ 9223372036854775807) (hF : a.Cells.length < F) (hF1 : 20000 < F) : alert_Signed F k a n = some (signedT k a n) := by
  unfold alert_Signed
  rw [plausible_eq, bnd_eq, isAlert_eq F a (by omega) hl hF, bnd_eq]
  unfold signedT
  cases hp : plsB k with
  | false => rfl
  | true =>
    cases hv : vldB a with
    | false => rfl
    | true =>
      obtain ⟨m, x, rfl, h1, h2, _, h4⟩ := pls_nat hp
      simp only [Bool.not_true, cond_false, cond_true, Int.toNat_natCast]
      rw [digestOf_eq F hF1 (vld_fine hv), bnd_eq, isSigned_eq F m x (digT a) n h1 h2 h4 (by omega), bnd_eq]
end Go.Ev.AlertSigned
