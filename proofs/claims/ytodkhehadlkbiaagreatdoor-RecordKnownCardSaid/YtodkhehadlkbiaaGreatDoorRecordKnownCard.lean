/- RecordKnown() answers true in every heap in which it is called, whatever the tape says; the variables that its row lists are tied to the program's text. No condition. -/
import Derived.Test.YtodkhehadlkbiaaGreatDoorRecordKnownOver
import Derived.Test.YtodkhehadlkbiaaGreatDoorRecordKnownLooks
import Derived.Test.YtodkhehadlkbiaaGreatDoorTie
import Derived.Test.YtodkhehadlkbiaaGreatDoorCards
import Derived.SevenTiedAt
namespace Go.Proofs.YtodkhehadlkbiaaGreatDoor.recordKnown
open Go.ChangeShapes Go.WideShapes Go.ChangeAt Go.RowKit
theorem proved : Rows.RecordKnownCardSaid :=
  Claim7.holds_tied_plain_at .later [] [.data, .data, .data] true (true, "2df9544ba61d7ce6c70ef5d3ee8a58d8e73a683584b2a8f11144c59b02926e71") false
    over (fun _ h => by cases h) (by kernel_rfl) (fun _ h => by cases h) recordKnown_row_tie rfl ⟨rfl, rfl⟩ (by kernel_rfl) rfl
    (fun f fn hf hfn2 => by
      obtain rfl : f = 3 := Option.some.inj (hfn.symm.trans hf) |>.symm
      obtain rfl : fn = Tryz.f3 := (Option.some.inj (Tryz.func3.symm.trans hfn2)).symm
      exact ⟨looksF, fun j t ht => by
        rw [Tryz.params3] at ht
        simp at ht⟩)
    goesF
#print axioms proved
end Go.Proofs.YtodkhehadlkbiaaGreatDoor.recordKnown
