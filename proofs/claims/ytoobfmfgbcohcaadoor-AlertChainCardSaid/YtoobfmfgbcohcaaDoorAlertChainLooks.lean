/- Two closed facts of the card. -/
import Derived.Test.YtoobfmfgbcohcaaDoorRows
import Derived.SevenTiedAt
import Derived.KernelRfl
namespace Go.Proofs.YtoobfmfgbcohcaaDoor.alertChain
open Go
theorem goesF : false = Rows.alertChainRow.goesBy Tryd.prog := by kernel_rfl
theorem standF : ([43, 66].all fun u => !Tryd.prog.wantsStandIn u) = true := by kernel_rfl
end Go.Proofs.YtoobfmfgbcohcaaDoor.alertChain
