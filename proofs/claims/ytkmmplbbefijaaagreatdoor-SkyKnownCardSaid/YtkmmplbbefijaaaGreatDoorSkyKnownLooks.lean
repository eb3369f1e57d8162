/- Two closed facts of the card. -/
import Derived.Test.YtkmmplbbefijaaaGreatDoorRows
import Derived.SevenTiedAt
import Derived.KernelRfl
namespace Go.Proofs.YtkmmplbbefijaaaGreatDoor.skyKnown
open Go
theorem goesF : false = Rows.skyKnownRow.goesBy Tryz.prog := by kernel_rfl
theorem looksF : false = Tryz.prog.looks [] := by kernel_rfl
end Go.Proofs.YtkmmplbbefijaaaGreatDoor.skyKnown
