/- The closed call works() answers true, whatever the tape says, in every world in which the listed tables hold what the program's text lays in them, and nothing that was there is touched: run by the small machine, in pieces. -/
import Derived.Test.YtjddbfpinjjkkabGreatDoorWorksRun0
namespace Go.Proofs.YtjddbfpinjjkkabGreatDoor.works
open Go.Ev Go.RowKit
set_option maxRecDepth 1000000
set_option linter.unusedVariables false
theorem wk_end : endsTrue (Go.Ev.runST noneKnown Dn Tryz.prog 13 wk2.f wk2.cs wk2.M) = true := by kernel_rfl
theorem wk_way (hI : ∀ B, Sound Tryz.prog B noneKnown) (hD : ∀ B, Sound Tryz.prog B Dn) (hmix : Tryz.prog.follows .mixedOrders = true) : Go.Ev.Way Tryz.prog wk0 wk2 :=
  (Go.Ev.way_nextT hI hD hmix 11 wk1_from).trans ((Go.Ev.way_nextT hI hD hmix 12 wk2_from).trans (Go.Ev.Way.refl _))
theorem works_true (w : World) (m : Map) (h : MRel w.heap.size m (memFix 600 fixes) w) : Calls Tryz.prog 19 #[] w fun e w' => e = .returned (.bool true) ∧ Below w.heap.size w w' :=
  call_way_memT sound0 soundDn mixed 13 enterF (wk_way sound0 soundDn mixed) wk_end h
end Go.Proofs.YtjddbfpinjjkkabGreatDoor.works
