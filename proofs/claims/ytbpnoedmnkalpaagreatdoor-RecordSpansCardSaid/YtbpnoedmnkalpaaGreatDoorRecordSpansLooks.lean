/- Two closed facts of the card. -/
import Derived.Test.YtbpnoedmnkalpaaGreatDoorRows
import Derived.SevenTiedAt
import Derived.KernelRfl
namespace Go.Proofs.YtbpnoedmnkalpaaGreatDoor.recordSpans
open Go
theorem goesF : false = Rows.recordSpansRow.goesBy Tryz.prog := by kernel_rfl
theorem standF : ([70, 9, 50].all fun u => !Tryz.prog.wantsStandIn u) = true := by kernel_rfl
end Go.Proofs.YtbpnoedmnkalpaaGreatDoor.recordSpans
