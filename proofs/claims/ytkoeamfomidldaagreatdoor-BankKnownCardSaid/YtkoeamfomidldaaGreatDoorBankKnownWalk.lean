/- BankKnown() answers true in every world in which the listed tables hold what the program's text lays in them. -/
import Derived.Test.YtkoeamfomidldaaGreatDoorBankKnownRun0
namespace Go.Proofs.YtkoeamfomidldaaGreatDoor.bankKnown
open Go.Ev Go.RowKit

set_option maxRecDepth 1000000
theorem bk_end : endsTrue (runS noneKnown Dn Tryz.prog 10 bk8.f bk8.cs bk8.M) = true := by kernel_rfl
theorem bk_way (hI : ∀ B, Sound Tryz.prog B noneKnown) (hD : ∀ B, Sound Tryz.prog B Dn) (hmix : Tryz.prog.follows .mixedOrders = true) : Go.Ev.Way Tryz.prog bk0 bk8 :=
  (Go.Ev.way_next hI hD hmix 13 bk1_from).trans ((Go.Ev.way_next hI hD hmix 12 bk2_from).trans ((Go.Ev.way_next hI hD hmix 11 bk3_from).trans ((Go.Ev.way_next hI hD hmix 11 bk4_from).trans ((Go.Ev.way_next hI hD hmix 11 bk5_from).trans ((Go.Ev.way_next hI hD hmix 11 bk6_from).trans ((Go.Ev.way_next hI hD hmix 10 bk7_from).trans ((Go.Ev.way_next hI hD hmix 10 bk8_from).trans (Go.Ev.Way.refl _))))))))
theorem known_true {w : World} (h : FixOK w fixes) : Calls Tryz.prog 14 #[] w fun e w' => e = .returned (.bool true) ∧ Below w.heap.size w w' :=
  call_way_mem sound0 soundDn mixed 10 enterF (bk_way sound0 soundDn mixed) bk_end (memFix_rel 300 fixes (by kernel_rfl) h)
end Go.Proofs.YtkoeamfomidldaaGreatDoor.bankKnown
