/- Making keys, on both sides. -/
import Derived.Test.YtoobfmfgbcohcaaDoorAlertDraftsMath4
namespace Go.Ev.AlertDrafts
open Go Go.Ev Go.Proofs
set_option linter.unusedVariables false
end Go.Ev.AlertDrafts
