/- BankLinear answers true whatever its arguments are, in every heap in which it is called, whatever the tape says, and its arguments read behind the call as before; the variables that its row lists are tied to the program's text. No condition. -/
import Derived.Test.YtkoeamfomidldaaGreatDoorBankLinearOver
import Derived.Test.YtkoeamfomidldaaGreatDoorBankLinearLooks
import Derived.Test.YtkoeamfomidldaaGreatDoorTie
import Derived.Test.YtkoeamfomidldaaGreatDoorCards
import Derived.SevenTiedAt
namespace Go.Proofs.YtkoeamfomidldaaGreatDoor.bankLinear
open Go.ChangeShapes Go.WideShapes Go.ChangeAt Go.RowKit
theorem proved : Rows.BankLinearCardSaid :=
  Claim7.holds_tied_plain_at .later [] [.data, .data, .data, .data] true (true, "11cba940150defe5c9acde603eb5b645d11a1ee86ee6e536f2d453643589bb2f") true
    over (fun _ h => by cases h) (by kernel_rfl) (fun _ h => by cases h) bankLinear_row_tie rfl ⟨rfl, rfl⟩ (by kernel_rfl) rfl
    (fun f fn hf hfn2 => by
      obtain rfl : f = 10 := Option.some.inj (hfn.symm.trans hf) |>.symm
      obtain rfl : fn = Tryz.f10 := (Option.some.inj (Tryz.func10.symm.trans hfn2)).symm
      exact ⟨by kernel_rfl, fun j t ht => by
        rw [Tryz.params10] at ht
        have hm : t ∈ [3, 53, 69] := by simpa using Array.mem_of_getElem? ht
        exact (show Tryz.prog.wantsStandIn t = false by simpa using List.all_eq_true.1 standF t hm)⟩)
    goesF
#print axioms proved
end Go.Proofs.YtkoeamfomidldaaGreatDoor.bankLinear
