/- AlertKeys. -/
import Derived.Test.YtoobfmfgbcohcaaDoorAlertKeysMath6
namespace Go.Ev.AlertKeys
open Go Go.Ev Go.Proofs
set_option linter.unusedVariables false
theorem law_eq (F : Nat) (n : S__3_int) (k : S_api_Key) (x : S_ringdownlaw10_Said) (hl : x.A.Cells.length ≤ 9223372036854775807) (hF : x.A.Cells.length + 70000 < F) (hw : works F = some true) : law10_AlertKeys F n k x = some true := by
  unfold law10_AlertKeys law10_AlertKeys_1 law10_AlertKeys_2 law10_AlertKeys_3 law10_AlertKeys_4 law10_AlertKeys_5
  rw [makeKey_eq F (by omega), bnd_eq, rmakeKey_eq F (by omega), bnd_eq, alert_eta, sign_eq F k x.Secret x.A hl (by omega) (by omega), bnd_eq, rsign_eq F k x.Secret x.A hl (by omega) (by omega), bnd_eq,
    signed_eq F k x.A x.Number hl (by omega) (by omega), bnd_eq, rsignedA_eq F k x.A x.Number hl (by omega) (by omega), bnd_eq, hw, bnd_eq]
  simp only [beq_self_eq_true, Bool.and_self, Bool.not_true, cond_false, cond_true]
end Go.Ev.AlertKeys
