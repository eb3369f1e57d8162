/- Two closed facts of the card. -/
import Derived.Test.YtkmmplbbefijaaaGreatDoorRows
import Derived.SevenTiedAt
import Derived.KernelRfl
namespace Go.Proofs.YtkmmplbbefijaaaGreatDoor.skyHome
open Go
theorem goesF : false = Rows.skyHomeRow.goesBy Tryz.prog := by kernel_rfl
theorem standF : ([3, 57, 22].all fun u => !Tryz.prog.wantsStandIn u) = true := by kernel_rfl
end Go.Proofs.YtkmmplbbefijaaaGreatDoor.skyHome
