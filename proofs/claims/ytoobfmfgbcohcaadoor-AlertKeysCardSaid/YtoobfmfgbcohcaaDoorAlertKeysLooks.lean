/- Two closed facts of the card. -/
import Derived.Test.YtoobfmfgbcohcaaDoorRows
import Derived.SevenTiedAt
import Derived.KernelRfl
namespace Go.Proofs.YtoobfmfgbcohcaaDoor.alertKeys
open Go
theorem goesF : false = Rows.alertKeysRow.goesBy Tryd.prog := by kernel_rfl
theorem standF : ([22, 24, 31].all fun u => !Tryd.prog.wantsStandIn u) = true := by kernel_rfl
end Go.Proofs.YtoobfmfgbcohcaaDoor.alertKeys
