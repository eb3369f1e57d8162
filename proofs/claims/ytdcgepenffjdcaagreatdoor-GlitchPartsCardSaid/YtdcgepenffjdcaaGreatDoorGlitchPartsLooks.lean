/- Two closed facts of the card. -/
import Derived.Test.YtdcgepenffjdcaaGreatDoorRows
import Derived.SevenTiedAt
import Derived.KernelRfl
namespace Go.Proofs.YtdcgepenffjdcaaGreatDoor.glitchParts
open Go
theorem goesF : false = Rows.glitchPartsRow.goesBy Tryz.prog := by kernel_rfl
theorem standF : ([22, 31].all fun u => !Tryz.prog.wantsStandIn u) = true := by kernel_rfl
end Go.Proofs.YtdcgepenffjdcaaGreatDoor.glitchParts
