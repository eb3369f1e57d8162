/- GlitchKnown() answers true in every heap in which it is called, whatever the tape says; the variables that its row lists are tied to the program's text. No condition. -/
import Derived.Test.YtdcgepenffjdcaaGreatDoorGlitchKnownOver
import Derived.Test.YtdcgepenffjdcaaGreatDoorGlitchKnownLooks
import Derived.Test.YtdcgepenffjdcaaGreatDoorTie
import Derived.Test.YtdcgepenffjdcaaGreatDoorCards
import Derived.SevenTiedAt
namespace Go.Proofs.YtdcgepenffjdcaaGreatDoor.glitchKnown
open Go.ChangeShapes Go.WideShapes Go.ChangeAt Go.RowKit
theorem proved : Rows.GlitchKnownCardSaid :=
  Claim7.holds_tied_plain_at .later [] [.data, .data, .data] true (true, "77a50dff94a748116c9f879ac43f8c4f218d277594e2838f87f593c4f20d0ae8") false
    over (fun _ h => by cases h) (by kernel_rfl) (fun _ h => by cases h) glitchKnown_row_tie rfl ⟨rfl, rfl⟩ (by kernel_rfl) rfl
    (fun f fn hf hfn2 => by
      obtain rfl : f = 14 := Option.some.inj (hfn.symm.trans hf) |>.symm
      obtain rfl : fn = Tryz.f14 := (Option.some.inj (Tryz.func14.symm.trans hfn2)).symm
      exact ⟨looksF, fun j t ht => by
        rw [Tryz.params14] at ht
        simp at ht⟩)
    goesF
#print axioms proved
end Go.Proofs.YtdcgepenffjdcaaGreatDoor.glitchKnown
