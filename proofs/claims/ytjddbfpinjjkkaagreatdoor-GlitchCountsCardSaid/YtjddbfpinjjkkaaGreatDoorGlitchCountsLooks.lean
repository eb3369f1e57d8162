/- Two closed facts of the card. -/
import Derived.Test.YtjddbfpinjjkkaaGreatDoorRows
import Derived.SevenTiedAt
import Derived.KernelRfl
namespace Go.Proofs.YtjddbfpinjjkkaaGreatDoor.glitchCounts
open Go
theorem goesF : false = Rows.glitchCountsRow.goesBy Tryz.prog := by kernel_rfl
theorem standF : ([28, 3, 3].all fun u => !Tryz.prog.wantsStandIn u) = true := by kernel_rfl
end Go.Proofs.YtjddbfpinjjkkaaGreatDoor.glitchCounts
