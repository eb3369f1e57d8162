/- Two closed facts of the card. -/
import Derived.Test.YtdjaigpcfhbcmaaGreatDoorRows
import Derived.SevenTiedAt
import Derived.KernelRfl
namespace Go.Proofs.YtdjaigpcfhbcmaaGreatDoor.glitchSplits
open Go
theorem goesF : false = Rows.glitchSplitsRow.goesBy Tryz.prog := by kernel_rfl
theorem standF : ([22, 22].all fun u => !Tryz.prog.wantsStandIn u) = true := by kernel_rfl
end Go.Proofs.YtdjaigpcfhbcmaaGreatDoor.glitchSplits
