/- Two closed facts of the card. -/
import Derived.Test.YtcfigcfaldjedaaGreatDoorRows
import Derived.SevenTiedAt
import Derived.KernelRfl
namespace Go.Proofs.YtcfigcfaldjedaaGreatDoor.numKnown
open Go
theorem goesF : false = Rows.numKnownRow.goesBy Tryz.prog := by kernel_rfl
theorem looksF : false = Tryz.prog.looks [] := by kernel_rfl
end Go.Proofs.YtcfigcfaldjedaaGreatDoor.numKnown
