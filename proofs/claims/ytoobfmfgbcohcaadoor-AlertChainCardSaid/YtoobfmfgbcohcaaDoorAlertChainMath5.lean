/- Making keys, on both sides. -/
import Derived.Test.YtoobfmfgbcohcaaDoorAlertChainMath4
namespace Go.Ev.AlertChain
open Go Go.Ev Go.Proofs
set_option linter.unusedVariables false
end Go.Ev.AlertChain
