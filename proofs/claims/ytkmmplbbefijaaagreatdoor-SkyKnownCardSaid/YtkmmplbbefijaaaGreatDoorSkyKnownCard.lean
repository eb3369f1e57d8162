/- SkyKnown() answers true in every heap in which it is called, whatever the tape says; the variables that its row lists are tied to the program's text. No condition. -/
import Derived.Test.YtkmmplbbefijaaaGreatDoorSkyKnownOver
import Derived.Test.YtkmmplbbefijaaaGreatDoorSkyKnownLooks
import Derived.Test.YtkmmplbbefijaaaGreatDoorTie
import Derived.Test.YtkmmplbbefijaaaGreatDoorCards
import Derived.SevenTiedAt
namespace Go.Proofs.YtkmmplbbefijaaaGreatDoor.skyKnown
open Go.ChangeShapes Go.WideShapes Go.ChangeAt Go.RowKit
theorem proved : Rows.SkyKnownCardSaid :=
  Claim7.holds_tied_plain_at .later [] [.data, .data, .data] true (true, "2f34fb26bde210d4ff3d6e0f53471a5c6b1b49e1be5546d35936707c1302da0f") false
    over (fun _ h => by cases h) (by kernel_rfl) (fun _ h => by cases h) skyKnown_row_tie rfl ⟨rfl, rfl⟩ (by kernel_rfl) rfl
    (fun f fn hf hfn2 => by
      obtain rfl : f = 11 := Option.some.inj (hfn.symm.trans hf) |>.symm
      obtain rfl : fn = Tryz.f11 := (Option.some.inj (Tryz.func11.symm.trans hfn2)).symm
      exact ⟨looksF, fun j t ht => by
        rw [Tryz.params11] at ht
        simp at ht⟩)
    goesF
#print axioms proved
end Go.Proofs.YtkmmplbbefijaaaGreatDoor.skyKnown
