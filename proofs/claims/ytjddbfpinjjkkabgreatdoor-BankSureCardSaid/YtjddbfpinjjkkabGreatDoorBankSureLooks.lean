/- Two closed facts of the card. -/
import Derived.Test.YtjddbfpinjjkkabGreatDoorRows
import Derived.SevenTiedAt
import Derived.KernelRfl
namespace Go.Proofs.YtjddbfpinjjkkabGreatDoor.bankSure
open Go
theorem goesF : false = Rows.bankSureRow.goesBy Tryz.prog := by kernel_rfl
theorem standF : ([45].all fun u => !Tryz.prog.wantsStandIn u) = true := by kernel_rfl
end Go.Proofs.YtjddbfpinjjkkabGreatDoor.bankSure
