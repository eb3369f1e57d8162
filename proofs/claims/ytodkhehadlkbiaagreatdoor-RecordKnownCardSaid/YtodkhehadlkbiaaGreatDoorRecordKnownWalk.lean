/- RecordKnown() answers true in every world in which the listed tables hold what the program's text lays in them. -/
import Derived.Test.YtodkhehadlkbiaaGreatDoorRecordKnownRun0
namespace Go.Proofs.YtodkhehadlkbiaaGreatDoor.recordKnown
open Go.Ev Go.RowKit

set_option maxRecDepth 1000000
theorem rk_end : endsTrue (runS Kw Dn Tryz.prog 12 rk5.f rk5.cs rk5.M) = true := by kernel_rfl
theorem rk_way (hI : ∀ B, Sound Tryz.prog B Kw) (hD : ∀ B, Sound Tryz.prog B Dn) (hmix : Tryz.prog.follows .mixedOrders = true) : Go.Ev.Way Tryz.prog rk0 rk5 :=
  (Go.Ev.way_next hI hD hmix 11 rk1_from).trans ((Go.Ev.way_next hI hD hmix 12 rk2_from).trans ((Go.Ev.way_next hI hD hmix 13 rk3_from).trans ((Go.Ev.way_next hI hD hmix 12 rk4_from).trans ((Go.Ev.way_next hI hD hmix 11 rk5_from).trans (Go.Ev.Way.refl _)))))
theorem known_true {w : World} (h : FixOK w fixes) : Calls Tryz.prog 3 #[] w fun e w' => e = .returned (.bool true) ∧ Below w.heap.size w w' :=
  call_way_mem sound0 soundDn mixed 12 enterF (rk_way sound0 soundDn mixed) rk_end (memFix_rel 300 fixes (by kernel_rfl) h)
end Go.Proofs.YtodkhehadlkbiaaGreatDoor.recordKnown
