/- Two closed facts of the card. -/
import Derived.Test.YtodkhehadlkbiaaGreatDoorRows
import Derived.SevenTiedAt
import Derived.KernelRfl
namespace Go.Proofs.YtodkhehadlkbiaaGreatDoor.recordStrains
open Go
theorem goesF : false = Rows.recordStrainsRow.goesBy Tryz.prog := by kernel_rfl
theorem standF : ([52, 24].all fun u => !Tryz.prog.wantsStandIn u) = true := by kernel_rfl
end Go.Proofs.YtodkhehadlkbiaaGreatDoor.recordStrains
