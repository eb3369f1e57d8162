/- Signing, on both sides. -/
import Derived.Test.YtoobfmfgbcohcaaDoorAlertChainMath5
namespace Go.Ev.AlertChain
open Go Go.Ev Go.Proofs
set_option linter.unusedVariables false
theorem alert_eta (a : S_api_Alert) : S_api_Alert.mk a.Event a.Version a.Time (S_api_Chance.mk a.Chance.N a.Chance.Of) a.Grid a.Cells a.Withdrawn a.Before = a := rfl
end Go.Ev.AlertChain
