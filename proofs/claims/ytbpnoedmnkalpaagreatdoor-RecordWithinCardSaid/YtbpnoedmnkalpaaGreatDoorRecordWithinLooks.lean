/- Two closed facts of the card. -/
import Derived.Test.YtbpnoedmnkalpaaGreatDoorRows
import Derived.SevenTiedAt
import Derived.KernelRfl
namespace Go.Proofs.YtbpnoedmnkalpaaGreatDoor.recordWithin
open Go
theorem goesF : false = Rows.recordWithinRow.goesBy Tryz.prog := by kernel_rfl
theorem standF : ([90, 26, 26].all fun u => !Tryz.prog.wantsStandIn u) = true := by kernel_rfl
end Go.Proofs.YtbpnoedmnkalpaaGreatDoor.recordWithin
