/- The closed call works() answers true, whatever the tape says, in every world in which the listed tables hold what the program's text lays in them, and nothing that was there is touched: run by the small machine, in pieces. -/
import Derived.Test.YtjddbfpinjjkkaaGreatDoorWorksRun0
import Derived.Test.YtjddbfpinjjkkaaGreatDoorWorksRun1
import Derived.Test.YtjddbfpinjjkkaaGreatDoorWorksRun2
import Derived.Test.YtjddbfpinjjkkaaGreatDoorWorksRun3
namespace Go.Proofs.YtjddbfpinjjkkaaGreatDoor.works
open Go.Ev Go.RowKit
set_option maxRecDepth 1000000
set_option linter.unusedVariables false
theorem wk_end : endsTrue (Go.Ev.runST bitsP Dn Tryz.prog 14 wk10.f wk10.cs wk10.M) = true := by kernel_rfl
theorem wk_way (hI : ∀ B, Sound Tryz.prog B bitsP) (hD : ∀ B, Sound Tryz.prog B Dn) (hmix : Tryz.prog.follows .mixedOrders = true) : Go.Ev.Way Tryz.prog wk0 wk10 :=
  (Go.Ev.way_nextT hI hD hmix 11 wk1_from).trans ((Go.Ev.way_nextT hI hD hmix 12 wk2_from).trans ((Go.Ev.way_nextT hI hD hmix 13 wk3_from).trans ((Go.Ev.way_nextT hI hD hmix 14 wk4_from).trans ((Go.Ev.way_nextT hI hD hmix 14 wk5_from).trans ((Go.Ev.way_nextT hI hD hmix 14 wk6_from).trans ((Go.Ev.way_nextT hI hD hmix 14 wk7_from).trans ((Go.Ev.way_nextT hI hD hmix 14 wk8_from).trans ((Go.Ev.way_nextT hI hD hmix 14 wk9_from).trans ((Go.Ev.way_nextT hI hD hmix 14 wk10_from).trans (Go.Ev.Way.refl _))))))))))
theorem works_true (w : World) (m : Map) (h : MRel w.heap.size m (memFix 600 fixes) w) : Calls Tryz.prog 11 #[] w fun e w' => e = .returned (.bool true) ∧ Below w.heap.size w w' :=
  call_way_memT sound0 soundDn mixed 14 enterF (wk_way sound0 soundDn mixed) wk_end h
end Go.Proofs.YtjddbfpinjjkkaaGreatDoor.works
