/- AlertNotices. -/
import Derived.Test.YtoobfmfgbcohcaaDoorAlertNoticesMath7
namespace Go.Ev.AlertNotices
open Go Go.Ev Go.Proofs
set_option linter.unusedVariables false
theorem law_eq (F : Nat) (r : S_api_Roll) (n : S_api_Notice) (h1 : r.Keys.length ≤ 9223372036854775807) (h2 : r.Keys.length + 70000 < F) (h3 : n.Alert.Cells.length ≤ 9223372036854775807) (h4 : n.Alert.Cells.length + 70000 < F) (h5 : n.Signatures.length ≤ 9223372036854775807) (h6 : n.Signatures.length + 70000 < F) (hw : works F = some true) : law10_AlertNotices F r n = some true := by
  unfold law10_AlertNotices law10_AlertNotices_1
  have e : S_api_Notice.mk n.Alert n.Signatures = n := rfl
  rw [checkRoll_eq F (by omega), bnd_eq, rcheckRoll_eq F (by omega) r h1 (by omega), bnd_eq, e, checkNotice_eq F (by omega) r n h3 (by omega) h5 (by omega), bnd_eq, rcheckNotice_eq F (by omega) r n h1 (by omega) h3 (by omega) h5 (by omega), bnd_eq, hw, bnd_eq]
  simp only [beq_self_eq_true, cond_true]
end Go.Ev.AlertNotices
