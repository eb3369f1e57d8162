/- Two closed facts of the card. -/
import Derived.Test.YtochmbjngflpiaaGreatDoorRows
import Derived.SevenTiedAt
import Derived.KernelRfl
namespace Go.Proofs.YtochmbjngflpiaaGreatDoor.runVetoed
open Go
theorem goesF : false = Rows.runVetoedRow.goesBy Tryz.prog := by kernel_rfl
theorem standF : ([38, 3].all fun u => !Tryz.prog.wantsStandIn u) = true := by kernel_rfl
end Go.Proofs.YtochmbjngflpiaaGreatDoor.runVetoed
