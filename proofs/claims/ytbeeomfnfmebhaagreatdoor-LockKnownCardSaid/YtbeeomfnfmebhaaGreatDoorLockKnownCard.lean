/- LockKnown() answers true in every heap in which it is called, whatever the tape says; the variables that its row lists are tied to the program's text. No condition. -/
import Derived.Test.YtbeeomfnfmebhaaGreatDoorLockKnownOver
import Derived.Test.YtbeeomfnfmebhaaGreatDoorLockKnownLooks
import Derived.Test.YtbeeomfnfmebhaaGreatDoorTie
import Derived.Test.YtbeeomfnfmebhaaGreatDoorCards
import Derived.SevenTiedAt
namespace Go.Proofs.YtbeeomfnfmebhaaGreatDoor.lockKnown
open Go.ChangeShapes Go.WideShapes Go.ChangeAt Go.RowKit
theorem proved : Rows.LockKnownCardSaid :=
  Claim7.holds_tied_plain_at .later [] [.data, .data, .data, .sentinel, .sentinel] true (true, "a7b6ccbdf4564598deff9b720d1faf3681e7a67d34296e55bd43237cceee9cb1") true
    over (fun _ h => by cases h) (by kernel_rfl) (fun _ h => by cases h) lockKnown_row_tie rfl ⟨rfl, rfl⟩ (by kernel_rfl) rfl
    (fun f fn hf hfn2 => by
      obtain rfl : f = 3 := Option.some.inj (hfn.symm.trans hf) |>.symm
      obtain rfl : fn = Tryz.f3 := (Option.some.inj (Tryz.func3.symm.trans hfn2)).symm
      exact ⟨looksF, fun j t ht => by
        rw [Tryz.params3] at ht
        simp at ht⟩)
    goesF
#print axioms proved
end Go.Proofs.YtbeeomfnfmebhaaGreatDoor.lockKnown
