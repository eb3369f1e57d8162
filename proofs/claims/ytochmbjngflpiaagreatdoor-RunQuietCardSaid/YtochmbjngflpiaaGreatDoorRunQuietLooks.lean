/- Two closed facts of the card. -/
import Derived.Test.YtochmbjngflpiaaGreatDoorRows
import Derived.SevenTiedAt
import Derived.KernelRfl
namespace Go.Proofs.YtochmbjngflpiaaGreatDoor.runQuiet
open Go
theorem goesF : false = Rows.runQuietRow.goesBy Tryz.prog := by kernel_rfl
theorem standF : ([38, 46].all fun u => !Tryz.prog.wantsStandIn u) = true := by kernel_rfl
end Go.Proofs.YtochmbjngflpiaaGreatDoor.runQuiet
