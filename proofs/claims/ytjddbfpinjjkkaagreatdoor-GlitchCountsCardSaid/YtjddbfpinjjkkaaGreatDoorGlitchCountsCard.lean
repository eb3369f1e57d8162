/- GlitchCounts answers true whatever its arguments are, in every heap in which it is called, whatever the tape says, and its arguments read behind the call as before; the variables that its row lists are tied to the program's text. No condition. -/
import Derived.Test.YtjddbfpinjjkkaaGreatDoorGlitchCountsOver
import Derived.Test.YtjddbfpinjjkkaaGreatDoorGlitchCountsLooks
import Derived.Test.YtjddbfpinjjkkaaGreatDoorTie
import Derived.Test.YtjddbfpinjjkkaaGreatDoorCards
import Derived.SevenTiedAt
namespace Go.Proofs.YtjddbfpinjjkkaaGreatDoor.glitchCounts
open Go.ChangeShapes Go.WideShapes Go.ChangeAt Go.RowKit
theorem proved : Rows.GlitchCountsCardSaid :=
  Claim7.holds_tied_plain_at .later [] [.data, .data, .data] true (true, "1131d1ac864a37fe8b818f21c624006207e63fb412855a0e2199f199590859db") false
    over (fun _ h => by cases h) (by kernel_rfl) (fun _ h => by cases h) glitchCounts_row_tie rfl ⟨rfl, rfl⟩ (by kernel_rfl) rfl
    (fun f fn hf hfn2 => by
      obtain rfl : f = 6 := Option.some.inj (hfn.symm.trans hf) |>.symm
      obtain rfl : fn = Tryz.f6 := (Option.some.inj (Tryz.func6.symm.trans hfn2)).symm
      exact ⟨by kernel_rfl, fun j t ht => by
        rw [Tryz.params6] at ht
        have hm : t ∈ [28, 3, 3] := by simpa using Array.mem_of_getElem? ht
        exact (show Tryz.prog.wantsStandIn t = false by simpa using List.all_eq_true.1 standF t hm)⟩)
    goesF
#print axioms proved
end Go.Proofs.YtjddbfpinjjkkaaGreatDoor.glitchCounts
