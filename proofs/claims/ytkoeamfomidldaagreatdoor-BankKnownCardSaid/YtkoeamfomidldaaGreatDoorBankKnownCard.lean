/- BankKnown() answers true in every heap in which it is called, whatever the tape says; the variables that its row lists are tied to the program's text. No condition. -/
import Derived.Test.YtkoeamfomidldaaGreatDoorBankKnownOver
import Derived.Test.YtkoeamfomidldaaGreatDoorBankKnownLooks
import Derived.Test.YtkoeamfomidldaaGreatDoorTie
import Derived.Test.YtkoeamfomidldaaGreatDoorCards
import Derived.SevenTiedAt
namespace Go.Proofs.YtkoeamfomidldaaGreatDoor.bankKnown
open Go.ChangeShapes Go.WideShapes Go.ChangeAt Go.RowKit
theorem proved : Rows.BankKnownCardSaid :=
  Claim7.holds_tied_plain_at .later [] [.data, .data, .data, .sentinel, .sentinel, .data] true (true, "11cba940150defe5c9acde603eb5b645d11a1ee86ee6e536f2d453643589bb2f") true
    over (fun _ h => by cases h) (by kernel_rfl) (fun _ h => by cases h) bankKnown_row_tie rfl ⟨rfl, rfl⟩ (by kernel_rfl) rfl
    (fun f fn hf hfn2 => by
      obtain rfl : f = 14 := Option.some.inj (hfn.symm.trans hf) |>.symm
      obtain rfl : fn = Tryz.f14 := (Option.some.inj (Tryz.func14.symm.trans hfn2)).symm
      exact ⟨looksF, fun j t ht => by
        rw [Tryz.params14] at ht
        simp at ht⟩)
    goesF
#print axioms proved
end Go.Proofs.YtkoeamfomidldaaGreatDoor.bankKnown
