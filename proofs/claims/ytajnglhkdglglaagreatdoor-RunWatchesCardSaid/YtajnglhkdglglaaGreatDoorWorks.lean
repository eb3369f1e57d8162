/- The closed call works() answers true, whatever the tape says, in every world in which the listed tables hold what the program's text lays in them, and nothing that was there is touched: run by the small machine, in pieces. -/
import Derived.Test.YtajnglhkdglglaaGreatDoorWorksRun0
import Derived.Test.YtajnglhkdglglaaGreatDoorWorksRun1
import Derived.Test.YtajnglhkdglglaaGreatDoorWorksRun2
import Derived.Test.YtajnglhkdglglaaGreatDoorWorksRun3
namespace Go.Proofs.YtajnglhkdglglaaGreatDoor.works
open Go.Ev Go.RowKit
set_option maxRecDepth 1000000
set_option linter.unusedVariables false
theorem wk_end : Vj (Go.Ev.runST Qt Dn Tryz.prog 11 wk11.f wk11.cs wk11.M) = true := by kernel_rfl
theorem wk_way (hI : ∀ B, Kz Tryz.prog B Qt) (hD : ∀ B, Kz Tryz.prog B Dn) (hmix : Tryz.prog.follows .mixedOrders = true) : Go.Ev.Way Tryz.prog wk0 wk11 :=
 (Go.Ev.way_nextT hI hD hmix 12 wk1_from).trans ((Go.Ev.way_nextT hI hD hmix 13 wk2_from).trans ((Go.Ev.way_nextT hI hD hmix 13 wk3_from).trans ((Go.Ev.way_nextT hI hD hmix 13 wk4_from).trans ((Go.Ev.way_nextT hI hD hmix 13 wk5_from).trans ((Go.Ev.way_nextT hI hD hmix 11 wk6_from).trans ((Go.Ev.way_nextT hI hD hmix 11 wk7_from).trans ((Go.Ev.way_nextT hI hD hmix 11 wk8_from).trans ((Go.Ev.way_nextT hI hD hmix 11 wk9_from).trans ((Go.Ev.way_nextT hI hD hmix 11 wk10_from).trans ((Go.Ev.way_nextT hI hD hmix 11 wk11_from).trans (Go.Ev.Way.refl _)))))))))))
theorem works_true (w : World) (m : Map) (h : MRel w.heap.size m (Vp 600 fixes) w) : Calls Tryz.prog 9 #[] w fun e w' => e = .returned (.bool true) ∧ Below w.heap.size w w' :=
 W1 X7 soundDn mixed 11 enterF (wk_way X7 soundDn mixed) wk_end h
end Go.Proofs.YtajnglhkdglglaaGreatDoor.works
