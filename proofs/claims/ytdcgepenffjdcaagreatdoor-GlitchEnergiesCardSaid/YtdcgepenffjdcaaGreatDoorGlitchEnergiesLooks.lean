/- Two closed facts of the card. -/
import Derived.Test.YtdcgepenffjdcaaGreatDoorRows
import Derived.SevenTiedAt
import Derived.KernelRfl
namespace Go.Proofs.YtdcgepenffjdcaaGreatDoor.glitchEnergies
open Go
theorem goesF : false = Rows.glitchEnergiesRow.goesBy Tryz.prog := by kernel_rfl
theorem standF : ([22].all fun u => !Tryz.prog.wantsStandIn u) = true := by kernel_rfl
end Go.Proofs.YtdcgepenffjdcaaGreatDoor.glitchEnergies
