/- SearchFilled answers true whatever its arguments are, in every heap in which it is called, whatever the tape says, and its arguments read behind the call as before; the variables that its row lists are tied to the program's text. No condition. -/
import Derived.Test.YtjddbfpinjjkkabGreatDoorSearchFilledOver
import Derived.Test.YtjddbfpinjjkkabGreatDoorSearchFilledLooks
import Derived.Test.YtjddbfpinjjkkabGreatDoorTie
import Derived.Test.YtjddbfpinjjkkabGreatDoorCards
import Derived.SevenTiedAt
namespace Go.Proofs.YtjddbfpinjjkkabGreatDoor.searchFilled
open Go.ChangeShapes Go.WideShapes Go.ChangeAt Go.RowKit
theorem proved : Rows.SearchFilledCardSaid :=
  Claim7.holds_tied_plain_at .later [] [.data] true (true, "90eda6ba73e2c00c46a2201e48ddeab636ed9c7c516c5d5d4928c07cdcce286f") false
    over (fun _ h => by cases h) (by kernel_rfl) (fun _ h => by cases h) searchFilled_row_tie rfl ⟨rfl, rfl⟩ (by kernel_rfl) rfl
    (fun f fn hf hfn2 => by
      obtain rfl : f = 5 := Option.some.inj (hfn.symm.trans hf) |>.symm
      obtain rfl : fn = Tryz.f5 := (Option.some.inj (Tryz.func5.symm.trans hfn2)).symm
      exact ⟨by kernel_rfl, fun j t ht => by
        rw [Tryz.params5] at ht
        have hm : t ∈ [27, 3, 3] := by simpa using Array.mem_of_getElem? ht
        exact (show Tryz.prog.wantsStandIn t = false by simpa using List.all_eq_true.1 standF t hm)⟩)
    goesF
#print axioms proved
end Go.Proofs.YtjddbfpinjjkkabGreatDoor.searchFilled
