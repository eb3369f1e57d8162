/- Two closed facts of the card. -/
import Derived.Test.YtoobfmfgbcohcaaDoorRows
import Derived.SevenTiedAt
import Derived.KernelRfl
namespace Go.Proofs.YtoobfmfgbcohcaaDoor.alertDrafts
open Go
theorem goesF : false = Rows.alertDraftsRow.goesBy Tryd.prog := by kernel_rfl
theorem standF : ([29, 55].all fun u => !Tryd.prog.wantsStandIn u) = true := by kernel_rfl
end Go.Proofs.YtoobfmfgbcohcaaDoor.alertDrafts
