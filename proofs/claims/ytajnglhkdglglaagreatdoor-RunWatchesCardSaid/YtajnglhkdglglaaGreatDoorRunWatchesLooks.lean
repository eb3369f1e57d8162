/- Two closed facts of the card. -/
import Derived.Test.YtajnglhkdglglaaGreatDoorRows
import Derived.SevenTiedAt
import Derived.KernelRfl
namespace Go.Proofs.YtajnglhkdglglaaGreatDoor.runWatches
open Go
theorem goesF : false = Rows.runWatchesRow.goesBy Tryz.prog := by kernel_rfl
theorem standF : ([38, 46].all fun u => !Tryz.prog.wantsStandIn u) = true := by kernel_rfl
end Go.Proofs.YtajnglhkdglglaaGreatDoor.runWatches
