/- Two closed facts of the card. -/
import Derived.Test.YtbeeomfnfmebhaaGreatDoorRows
import Derived.SevenTiedAt
import Derived.KernelRfl
namespace Go.Proofs.YtbeeomfnfmebhaaGreatDoor.lockKnown
open Go
theorem goesF : false = Rows.lockKnownRow.goesBy Tryz.prog := by kernel_rfl
theorem looksF : true = Tryz.prog.looks [] := by kernel_rfl
end Go.Proofs.YtbeeomfnfmebhaaGreatDoor.lockKnown
