/- Two closed facts of the card. -/
import Derived.Test.YtkoeamfomidldaaGreatDoorRows
import Derived.SevenTiedAt
import Derived.KernelRfl
namespace Go.Proofs.YtkoeamfomidldaaGreatDoor.bankLinear
open Go
theorem goesF : false = Rows.bankLinearRow.goesBy Tryz.prog := by kernel_rfl
theorem standF : ([3, 53, 69].all fun u => !Tryz.prog.wantsStandIn u) = true := by kernel_rfl
end Go.Proofs.YtkoeamfomidldaaGreatDoor.bankLinear
