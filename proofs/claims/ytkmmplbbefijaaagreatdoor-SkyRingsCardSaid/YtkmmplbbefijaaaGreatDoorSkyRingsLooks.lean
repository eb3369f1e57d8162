/- Two closed facts of the card. -/
import Derived.Test.YtkmmplbbefijaaaGreatDoorRows
import Derived.SevenTiedAt
import Derived.KernelRfl
namespace Go.Proofs.YtkmmplbbefijaaaGreatDoor.skyRings
open Go
theorem goesF : false = Rows.skyRingsRow.goesBy Tryz.prog := by kernel_rfl
theorem standF : ([33, 34, 35].all fun u => !Tryz.prog.wantsStandIn u) = true := by kernel_rfl
end Go.Proofs.YtkmmplbbefijaaaGreatDoor.skyRings
