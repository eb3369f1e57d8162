/- RunWatches answers true whatever its arguments are, in every heap in which it is called, whatever the tape says, and its arguments read behind the call as before; the variables that its row lists are tied to the program's text. No condition. -/
import Derived.Test.YtajnglhkdglglaaGreatDoorRunWatchesOver
import Derived.Test.YtajnglhkdglglaaGreatDoorRunWatchesLooks
import Derived.Test.YtajnglhkdglglaaGreatDoorTie
import Derived.Test.YtajnglhkdglglaaGreatDoorCards
import Derived.SevenTiedAt
namespace Go.Proofs.YtajnglhkdglglaaGreatDoor.runWatches
open Go.ChangeShapes Go.WideShapes Go.ChangeAt Go.RowKit
theorem proved : Rows.RunWatchesCardSaid :=
 Claim7.holds_tied_plain_at .later [] [.data, .data, .data, .data] true (true, "1398f525590cb951cccab54cc32b86f001b47aac426323958e7845ccea58699e") false
  over (fun _ h => by cases h) (by kernel_rfl) (fun _ h => by cases h) runWatches_row_tie rfl ⟨rfl, rfl⟩ (by kernel_rfl) rfl
  (fun f fn hf hfn2 => by
   obtain rfl : f = 7 := Option.some.inj (hfn.symm.trans hf) |>.symm
   obtain rfl : fn = Tryz.f7 := (Option.some.inj (Tryz.func7.symm.trans hfn2)).symm
   exact ⟨by kernel_rfl, fun j t ht => by
    rw [Tryz.params7] at ht
    have hm : t ∈ [38, 46] := by simpa using Array.mem_of_getElem? ht
    exact (show Tryz.prog.wantsStandIn t = false by simpa using List.all_eq_true.1 standF t hm)⟩)
  goesF
#print axioms proved
end Go.Proofs.YtajnglhkdglglaaGreatDoor.runWatches
