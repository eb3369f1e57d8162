/- Two closed facts of the card. -/
import Derived.Test.YtoobfmfgbcohcaaDoorRows
import Derived.SevenTiedAt
import Derived.KernelRfl
namespace Go.Proofs.YtoobfmfgbcohcaaDoor.alertSigned
open Go
theorem goesF : false = Rows.alertSignedRow.goesBy Tryd.prog := by kernel_rfl
theorem standF : ([22, 29, 3].all fun u => !Tryd.prog.wantsStandIn u) = true := by kernel_rfl
end Go.Proofs.YtoobfmfgbcohcaaDoor.alertSigned
