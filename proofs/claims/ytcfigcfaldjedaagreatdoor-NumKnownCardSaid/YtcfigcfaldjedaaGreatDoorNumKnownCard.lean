/- NumKnown() answers true in every heap in which it is called, whatever the tape says; the variables that its row lists are tied to the program's text. No condition. -/
import Derived.Test.YtcfigcfaldjedaaGreatDoorNumKnownOver
import Derived.Test.YtcfigcfaldjedaaGreatDoorNumKnownLooks
import Derived.Test.YtcfigcfaldjedaaGreatDoorTie
import Derived.Test.YtcfigcfaldjedaaGreatDoorCards
import Derived.SevenTiedAt
namespace Go.Proofs.YtcfigcfaldjedaaGreatDoor.numKnown
open Go.ChangeShapes Go.WideShapes Go.ChangeAt Go.RowKit
theorem proved : Rows.NumKnownCardSaid :=
  Claim7.holds_tied_plain_at .later [] [.data, .data, .data] true (true, "61e1c5b1f624d1912912546c7de46f7f2eab0cd65baf93e1382643f1007ba4ba") false
    over (fun _ h => by cases h) (by kernel_rfl) (fun _ h => by cases h) numKnown_row_tie rfl ⟨rfl, rfl⟩ (by kernel_rfl) rfl
    (fun f fn hf hfn2 => by
      obtain rfl : f = 3 := Option.some.inj (hfn.symm.trans hf) |>.symm
      obtain rfl : fn = Tryz.f3 := (Option.some.inj (Tryz.func3.symm.trans hfn2)).symm
      exact ⟨looksF, fun j t ht => by
        rw [Tryz.params3] at ht
        simp at ht⟩)
    goesF
#print axioms proved
end Go.Proofs.YtcfigcfaldjedaaGreatDoor.numKnown
