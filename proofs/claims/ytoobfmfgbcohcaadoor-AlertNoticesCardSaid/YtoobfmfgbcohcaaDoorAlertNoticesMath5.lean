/- Making keys, on both sides. -/
import Derived.Test.YtoobfmfgbcohcaaDoorAlertNoticesMath4
namespace Go.Ev.AlertNotices
open Go Go.Ev Go.Proofs
set_option linter.unusedVariables false
end Go.Ev.AlertNotices
