/- Two closed facts of the card. -/
import Derived.Test.YtdcgepenffjdcaaGreatDoorRows
import Derived.SevenTiedAt
import Derived.KernelRfl
namespace Go.Proofs.YtdcgepenffjdcaaGreatDoor.glitchKnown
open Go
theorem goesF : false = Rows.glitchKnownRow.goesBy Tryz.prog := by kernel_rfl
theorem looksF : false = Tryz.prog.looks [] := by kernel_rfl
end Go.Proofs.YtdcgepenffjdcaaGreatDoor.glitchKnown
