/- NumKnown() answers true in every world in which the listed tables hold what the program's text lays in them. -/
import Derived.Test.YtcfigcfaldjedaaGreatDoorNumKnownRun1
namespace Go.Proofs.YtcfigcfaldjedaaGreatDoor.numKnown
open Go.Ev Go.RowKit

set_option maxRecDepth 1000000
theorem nk_end : endsTrue (runS bitsP Dn Tryz.prog 12 nk24.f nk24.cs nk24.M) = true := by kernel_rfl
theorem nk_way (hI : ∀ B, Sound Tryz.prog B bitsP) (hD : ∀ B, Sound Tryz.prog B Dn) (hmix : Tryz.prog.follows .mixedOrders = true) : Go.Ev.Way Tryz.prog nk0 nk24 :=
  (Go.Ev.way_next hI hD hmix 11 nk1_from).trans ((Go.Ev.way_next hI hD hmix 12 nk2_from).trans ((Go.Ev.way_next hI hD hmix 13 nk3_from).trans ((Go.Ev.way_next hI hD hmix 12 nk4_from).trans ((Go.Ev.way_next hI hD hmix 11 nk5_from).trans ((Go.Ev.way_next hI hD hmix 12 nk6_from).trans ((Go.Ev.way_next hI hD hmix 12 nk7_from).trans ((Go.Ev.way_next hI hD hmix 12 nk8_from).trans ((Go.Ev.way_next hI hD hmix 12 nk9_from).trans ((Go.Ev.way_next hI hD hmix 13 nk10_from).trans ((Go.Ev.way_next hI hD hmix 12 nk11_from).trans ((Go.Ev.way_next hI hD hmix 13 nk12_from).trans ((Go.Ev.way_next hI hD hmix 12 nk13_from).trans ((Go.Ev.way_next hI hD hmix 11 nk14_from).trans ((Go.Ev.way_next hI hD hmix 11 nk15_from).trans ((Go.Ev.way_next hI hD hmix 12 nk16_from).trans ((Go.Ev.way_next hI hD hmix 13 nk17_from).trans ((Go.Ev.way_next hI hD hmix 12 nk18_from).trans ((Go.Ev.way_next hI hD hmix 12 nk19_from).trans ((Go.Ev.way_next hI hD hmix 12 nk20_from).trans ((Go.Ev.way_next hI hD hmix 12 nk21_from).trans ((Go.Ev.way_next hI hD hmix 11 nk22_from).trans ((Go.Ev.way_next hI hD hmix 12 nk23_from).trans ((Go.Ev.way_next hI hD hmix 11 nk24_from).trans (Go.Ev.Way.refl _))))))))))))))))))))))))
theorem known_true {w : World} (h : FixOK w fixes) : Calls Tryz.prog 3 #[] w fun e w' => e = .returned (.bool true) ∧ Below w.heap.size w w' :=
  call_way_mem sound0 soundDn mixed 12 enterF (nk_way sound0 soundDn mixed) nk_end (memFix_rel 300 fixes (by kernel_rfl) h)
end Go.Proofs.YtcfigcfaldjedaaGreatDoor.numKnown
