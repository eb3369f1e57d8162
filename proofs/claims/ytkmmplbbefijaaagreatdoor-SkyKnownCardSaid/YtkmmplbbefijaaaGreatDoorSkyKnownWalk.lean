/- SkyKnown() answers true in every world in which the listed tables hold what the program's text lays in them. -/
import Derived.Test.YtkmmplbbefijaaaGreatDoorSkyKnownRun9
namespace Go.Proofs.YtkmmplbbefijaaaGreatDoor.skyKnown
open Go.Ev Go.RowKit

set_option maxRecDepth 1000000
theorem kk_end : endsTrue (runS cellK Dn Tryz.prog 11 kk16.f kk16.cs kk16.M) = true := by kernel_rfl
theorem kk_way (hI : ∀ B, Sound Tryz.prog B cellK) (hD : ∀ B, Sound Tryz.prog B Dn) (hmix : Tryz.prog.follows .mixedOrders = true) : Go.Ev.Way Tryz.prog kk0 kk16 :=
  (Go.Ev.way_next hI hD hmix 13 kk1_from).trans ((Go.Ev.way_next hI hD hmix 12 kk2_from).trans ((Go.Ev.way_next hI hD hmix 12 kk3_from).trans ((Go.Ev.way_next hI hD hmix 12 kk4_from).trans ((Go.Ev.way_next hI hD hmix 12 kk5_from).trans ((Go.Ev.way_next hI hD hmix 12 kk6_from).trans ((Go.Ev.way_next hI hD hmix 12 kk7_from).trans ((Go.Ev.way_next hI hD hmix 11 kk8_from).trans ((Go.Ev.way_next hI hD hmix 11 kk9_from).trans ((Go.Ev.way_next hI hD hmix 11 kk10_from).trans ((Go.Ev.way_next hI hD hmix 11 kk11_from).trans ((Go.Ev.way_next hI hD hmix 12 kk12_from).trans ((Go.Ev.way_next hI hD hmix 12 kk13_from).trans ((Go.Ev.way_next hI hD hmix 11 kk14_from).trans ((Go.Ev.way_next hI hD hmix 11 kk15_from).trans ((Go.Ev.way_next hI hD hmix 11 kk16_from).trans (Go.Ev.Way.refl _))))))))))))))))
theorem known_true {w : World} (h : FixOK w fixes) : Calls Tryz.prog 11 #[] w fun e w' => e = .returned (.bool true) ∧ Below w.heap.size w w' :=
  call_way_mem sound0 soundDn mixed 11 enterF (kk_way sound0 soundDn mixed) kk_end (memFix_rel 300 fixes (by kernel_rfl) h)
end Go.Proofs.YtkmmplbbefijaaaGreatDoor.skyKnown
