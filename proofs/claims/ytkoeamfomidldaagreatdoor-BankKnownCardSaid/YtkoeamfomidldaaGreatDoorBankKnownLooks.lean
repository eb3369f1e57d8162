/- Two closed facts of the card. -/
import Derived.Test.YtkoeamfomidldaaGreatDoorRows
import Derived.SevenTiedAt
import Derived.KernelRfl
namespace Go.Proofs.YtkoeamfomidldaaGreatDoor.bankKnown
open Go
theorem goesF : false = Rows.bankKnownRow.goesBy Tryz.prog := by kernel_rfl
theorem looksF : true = Tryz.prog.looks [] := by kernel_rfl
end Go.Proofs.YtkoeamfomidldaaGreatDoor.bankKnown
