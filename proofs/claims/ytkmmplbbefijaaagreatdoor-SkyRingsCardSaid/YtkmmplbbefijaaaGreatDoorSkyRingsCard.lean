/- SkyRings answers true whatever its arguments are, in every heap in which it is called, whatever the tape says, and its arguments read behind the call as before; the variables that its row lists are tied to the program's text. No condition. -/
import Derived.Test.YtkmmplbbefijaaaGreatDoorSkyRingsOver
import Derived.Test.YtkmmplbbefijaaaGreatDoorSkyRingsLooks
import Derived.Test.YtkmmplbbefijaaaGreatDoorTie
import Derived.Test.YtkmmplbbefijaaaGreatDoorCards
import Derived.SevenTiedAt
namespace Go.Proofs.YtkmmplbbefijaaaGreatDoor.skyRings
open Go.ChangeShapes Go.WideShapes Go.ChangeAt Go.RowKit
theorem proved : Rows.SkyRingsCardSaid :=
  Claim7.holds_tied_plain_at .later [] [.data, .data, .data] true (true, "2f34fb26bde210d4ff3d6e0f53471a5c6b1b49e1be5546d35936707c1302da0f") false
    over (fun _ h => by cases h) (by kernel_rfl) (fun _ h => by cases h) skyRings_row_tie rfl ⟨rfl, rfl⟩ (by kernel_rfl) rfl
    (fun f fn hf hfn2 => by
      obtain rfl : f = 4 := Option.some.inj (hfn.symm.trans hf) |>.symm
      obtain rfl : fn = Tryz.f4 := (Option.some.inj (Tryz.func4.symm.trans hfn2)).symm
      exact ⟨by kernel_rfl, fun j t ht => by
        rw [Tryz.params4] at ht
        have hm : t ∈ [33, 34, 35] := by simpa using Array.mem_of_getElem? ht
        exact (show Tryz.prog.wantsStandIn t = false by simpa using List.all_eq_true.1 standF t hm)⟩)
    goesF
#print axioms proved
end Go.Proofs.YtkmmplbbefijaaaGreatDoor.skyRings
