/- The closed call works() answers true, whatever the tape says, in every world in which the listed tables hold what the program's text lays in them, and nothing that was there is touched: run by the small machine, in pieces. -/
import Derived.Test.YtoobfmfgbcohcabGreatDoorWorksBase
namespace Go.Proofs.YtoobfmfgbcohcabGreatDoor.works
open Go.Ev Go.RowKit
set_option maxRecDepth 1000000
set_option linter.unusedVariables false
theorem wk_end : endsTrue (runS noneKnown Dn Tryz.prog 13 wk0.f wk0.cs wk0.M) = true := by kernel_rfl
theorem wk_way (hI : ∀ B, Sound Tryz.prog B noneKnown) (hD : ∀ B, Sound Tryz.prog B Dn) (hmix : Tryz.prog.follows .mixedOrders = true) : Go.Ev.Way Tryz.prog wk0 wk0 :=
  Go.Ev.Way.refl _
theorem works_true (w : World) (m : Map) (h : MRel w.heap.size m (memFix 300 fixes) w) : Calls Tryz.prog 14 #[] w fun e w' => e = .returned (.bool true) ∧ Below w.heap.size w w' :=
  call_way_mem sound0 soundDn mixed 13 enterF (wk_way sound0 soundDn mixed) wk_end h
end Go.Proofs.YtoobfmfgbcohcabGreatDoor.works
