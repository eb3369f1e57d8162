/- Two closed facts of the card. -/
import Derived.Test.YtodkhehadlkbiaaGreatDoorRows
import Derived.SevenTiedAt
import Derived.KernelRfl
namespace Go.Proofs.YtodkhehadlkbiaaGreatDoor.recordKnown
open Go
theorem goesF : false = Rows.recordKnownRow.goesBy Tryz.prog := by kernel_rfl
theorem looksF : false = Tryz.prog.looks [] := by kernel_rfl
end Go.Proofs.YtodkhehadlkbiaaGreatDoor.recordKnown
