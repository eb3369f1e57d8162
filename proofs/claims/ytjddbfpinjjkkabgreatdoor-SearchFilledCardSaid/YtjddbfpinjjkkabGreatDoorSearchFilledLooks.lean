/- Two closed facts of the card. -/
import Derived.Test.YtjddbfpinjjkkabGreatDoorRows
import Derived.SevenTiedAt
import Derived.KernelRfl
namespace Go.Proofs.YtjddbfpinjjkkabGreatDoor.searchFilled
open Go
theorem goesF : false = Rows.searchFilledRow.goesBy Tryz.prog := by kernel_rfl
theorem standF : ([27, 3, 3].all fun u => !Tryz.prog.wantsStandIn u) = true := by kernel_rfl
end Go.Proofs.YtjddbfpinjjkkabGreatDoor.searchFilled
