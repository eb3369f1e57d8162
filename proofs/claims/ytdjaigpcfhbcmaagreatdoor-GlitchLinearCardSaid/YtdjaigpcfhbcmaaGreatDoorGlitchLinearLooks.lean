/- Two closed facts of the card. -/
import Derived.Test.YtdjaigpcfhbcmaaGreatDoorRows
import Derived.SevenTiedAt
import Derived.KernelRfl
namespace Go.Proofs.YtdjaigpcfhbcmaaGreatDoor.glitchLinear
open Go
theorem goesF : false = Rows.glitchLinearRow.goesBy Tryz.prog := by kernel_rfl
theorem standF : ([22, 22].all fun u => !Tryz.prog.wantsStandIn u) = true := by kernel_rfl
end Go.Proofs.YtdjaigpcfhbcmaaGreatDoor.glitchLinear
