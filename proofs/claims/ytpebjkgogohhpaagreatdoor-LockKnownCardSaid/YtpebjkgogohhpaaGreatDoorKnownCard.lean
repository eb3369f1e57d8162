/- LockKnown() answers true in every heap in which it is called, whatever the tape says; the variables that its row lists are tied to the program's text. No condition. -/
import Derived.Test.YtpebjkgogohhpaaGreatDoorKnownOver
import Derived.Test.YtpebjkgogohhpaaGreatDoorKnownLooks
import Derived.Test.YtpebjkgogohhpaaGreatDoorTie
import Derived.Test.YtpebjkgogohhpaaGreatDoorCards
import Derived.SevenTiedAt
namespace Go.Proofs.YtpebjkgogohhpaaGreatDoor.lockKnown
open Go.ChangeShapes Go.WideShapes Go.ChangeAt Go.RowKit
theorem proved : Rows.LockKnownCardSaid :=
  Claim7.holds_tied_plain_at .later [] [.data, .data, .data, .sentinel, .sentinel] true (true, "67e1d4003002d08c982a83fd63775fe81ef1c118dfffd5761577157f6bf19daf") true
    over (fun _ h => by cases h) (by kernel_rfl) (fun _ h => by cases h) lockKnown_row_tie rfl ⟨rfl, rfl⟩ (by kernel_rfl) rfl
    (fun f fn hf hfn2 => by
      obtain rfl : f = 7 := Option.some.inj (hfn.symm.trans hf) |>.symm
      obtain rfl : fn = Tryz.f7 := (Option.some.inj (Tryz.func7.symm.trans hfn2)).symm
      exact ⟨looksF, fun j t ht => by
        rw [Tryz.params7] at ht
        simp at ht⟩)
    goesF
#print axioms proved
end Go.Proofs.YtpebjkgogohhpaaGreatDoor.lockKnown
