/- Two closed facts of the card. -/
import Derived.Test.YtjddbfpinjjkkaaGreatDoorRows
import Derived.SevenTiedAt
import Derived.KernelRfl
namespace Go.Proofs.YtjddbfpinjjkkaaGreatDoor.glitchVetoes
open Go
theorem goesF : false = Rows.glitchVetoesRow.goesBy Tryz.prog := by kernel_rfl
theorem standF : ([22, 40].all fun u => !Tryz.prog.wantsStandIn u) = true := by kernel_rfl
end Go.Proofs.YtjddbfpinjjkkaaGreatDoor.glitchVetoes
