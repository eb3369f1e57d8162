/- RecordSpans answers true whatever its arguments are, in every heap in which it is called, whatever the tape says, and its arguments read behind the call as before; the variables that its row lists are tied to the program's text. No condition. -/
import Derived.Test.YtbpnoedmnkalpaaGreatDoorRecordSpansOver
import Derived.Test.YtbpnoedmnkalpaaGreatDoorRecordSpansLooks
import Derived.Test.YtbpnoedmnkalpaaGreatDoorTie
import Derived.Test.YtbpnoedmnkalpaaGreatDoorCards
import Derived.SevenTiedAt
namespace Go.Proofs.YtbpnoedmnkalpaaGreatDoor.recordSpans
open Go.ChangeShapes Go.WideShapes Go.ChangeAt Go.RowKit
theorem proved : Rows.RecordSpansCardSaid :=
  Claim7.holds_tied_plain_at .later [] [.data, .data, .data] true (true, "f46b629707cf8164d4778931765af74bdb69858904378dddf360a5ff721157ad") true
    over (fun _ h => by cases h) (by kernel_rfl) (fun _ h => by cases h) recordSpans_row_tie rfl ⟨rfl, rfl⟩ (by kernel_rfl) rfl
    (fun f fn hf hfn2 => by
      obtain rfl : f = 7 := Option.some.inj (hfn.symm.trans hf) |>.symm
      obtain rfl : fn = Tryz.f7 := (Option.some.inj (Tryz.func7.symm.trans hfn2)).symm
      exact ⟨by kernel_rfl, fun j t ht => by
        rw [Tryz.params7] at ht
        have hm : t ∈ [70, 9, 50] := by simpa using Array.mem_of_getElem? ht
        exact (show Tryz.prog.wantsStandIn t = false by simpa using List.all_eq_true.1 standF t hm)⟩)
    goesF
#print axioms proved
end Go.Proofs.YtbpnoedmnkalpaaGreatDoor.recordSpans
