/- Two closed facts of the card. -/
import Derived.Test.YtoobfmfgbcohcabGreatDoorRows
import Derived.SevenTiedAt
import Derived.KernelRfl
namespace Go.Proofs.YtoobfmfgbcohcabGreatDoor.alertBoards
open Go
theorem goesF : false = Rows.alertBoardsRow.goesBy Tryz.prog := by kernel_rfl
theorem standF : ([24, 25].all fun u => !Tryz.prog.wantsStandIn u) = true := by kernel_rfl
end Go.Proofs.YtoobfmfgbcohcabGreatDoor.alertBoards
