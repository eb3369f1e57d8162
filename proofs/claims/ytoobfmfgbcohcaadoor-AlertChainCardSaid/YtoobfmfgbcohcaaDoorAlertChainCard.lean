/- AlertChain answers true whatever its arguments are, in every heap in which it is called, whatever the tape says, and its arguments read behind the call as before; the variables that its row lists are tied to the program's text. No condition. -/
import Derived.Test.YtoobfmfgbcohcaaDoorAlertChainOver
import Derived.Test.YtoobfmfgbcohcaaDoorAlertChainLooks
import Derived.Test.YtoobfmfgbcohcaaDoorTie
import Derived.Test.YtoobfmfgbcohcaaDoorCards
import Derived.SevenTiedAt
namespace Go.Proofs.YtoobfmfgbcohcaaDoor.alertChain
open Go.ChangeShapes Go.WideShapes Go.ChangeAt Go.RowKit
theorem proved : Rows.AlertChainCardSaid :=
  Claim7.holds_tied_plain_at .later [] [.data, .data, .data] true (true, "6bc988b0ee4e6515477794f583681703f035748c56cf5adb0b427646f730c180") false
    over (fun _ h => by cases h) (by kernel_rfl) (fun _ h => by cases h) alertChain_row_tie rfl ⟨rfl, rfl⟩ (by kernel_rfl) rfl
    (fun f fn hf hfn2 => by
      obtain rfl : f = 7 := Option.some.inj (hfn.symm.trans hf) |>.symm
      obtain rfl : fn = Tryd.f7 := (Option.some.inj (Tryd.func7.symm.trans hfn2)).symm
      exact ⟨by kernel_rfl, fun j t ht => by
        rw [Tryd.params7] at ht
        have hm : t ∈ [43, 66] := by simpa using Array.mem_of_getElem? ht
        exact (show Tryd.prog.wantsStandIn t = false by simpa using List.all_eq_true.1 standF t hm)⟩)
    goesF
#print axioms proved
end Go.Proofs.YtoobfmfgbcohcaaDoor.alertChain
