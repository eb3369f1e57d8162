/- LockKnown() answers true in every world in which the listed tables hold what the program's text lays in them. -/
import Derived.Test.YtbeeomfnfmebhaaGreatDoorLockKnownRun0
import Derived.Test.YtbeeomfnfmebhaaGreatDoorLockKnownRun1
import Derived.Test.YtbeeomfnfmebhaaGreatDoorLockKnownRun2
import Derived.Test.YtbeeomfnfmebhaaGreatDoorLockKnownRun3
import Derived.Test.YtbeeomfnfmebhaaGreatDoorLockKnownRun4
import Derived.Test.YtbeeomfnfmebhaaGreatDoorLockKnownRun5
import Derived.Test.YtbeeomfnfmebhaaGreatDoorLockKnownRun6
import Derived.Test.YtbeeomfnfmebhaaGreatDoorLockKnownRun7
namespace Go.Proofs.YtbeeomfnfmebhaaGreatDoor.lockKnown
open Go.Ev Go.RowKit

set_option maxRecDepth 1000000
set_option linter.unusedVariables false
theorem kn_end : endsTrue (Go.Ev.runST noneKnown Dn Tryz.prog 13 kn8.f kn8.cs kn8.M) = true := by kernel_rfl
theorem kn_way (hI : ∀ B, Sound Tryz.prog B noneKnown) (hD : ∀ B, Sound Tryz.prog B Dn) (hmix : Tryz.prog.follows .mixedOrders = true) : Go.Ev.Way Tryz.prog kn0 kn8 :=
  (Go.Ev.way_nextT hI hD hmix 11 kn1_from).trans ((Go.Ev.way_nextT hI hD hmix 12 kn2_from).trans ((Go.Ev.way_nextT hI hD hmix 13 kn3_from).trans ((Go.Ev.way_nextT hI hD hmix 13 kn4_from).trans ((Go.Ev.way_nextT hI hD hmix 13 kn5_from).trans ((Go.Ev.way_nextT hI hD hmix 13 kn6_from).trans ((Go.Ev.way_nextT hI hD hmix 13 kn7_from).trans ((Go.Ev.way_nextT hI hD hmix 13 kn8_from).trans (Go.Ev.Way.refl _))))))))
theorem known_true {w : World} (h : FixOK w fixes) : Calls Tryz.prog 3 #[] w fun e w' => e = .returned (.bool true) ∧ Below w.heap.size w w' :=
  call_way_memT sound0 soundDn mixed 13 enterF (kn_way sound0 soundDn mixed) kn_end (memFix_rel 600 fixes (by kernel_rfl) h)
end Go.Proofs.YtbeeomfnfmebhaaGreatDoor.lockKnown
