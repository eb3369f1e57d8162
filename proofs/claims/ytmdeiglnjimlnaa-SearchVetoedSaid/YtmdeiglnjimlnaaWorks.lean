/- The closed call works() answers true, whatever the tape says, in every world in which the listed tables hold what the program's text lays in them, and nothing that was there is touched: run by the small machine, in pieces. -/
import Derived.Test.YtmdeiglnjimlnaaWorksRun0
namespace Go.Proofs.Ytmdeiglnjimlnaa.works
open Go.Ev Go.RowKit
set_option maxRecDepth 1000000
theorem wk_end : endsTrue (runS noneKnown Dn Try.prog 12 wk1.f wk1.cs wk1.M) = true := by kernel_rfl
theorem wk_way (hI : ∀ B, Sound Try.prog B noneKnown) (hD : ∀ B, Sound Try.prog B Dn) (hmix : Try.prog.follows .mixedOrders = true) : Go.Ev.Way Try.prog wk0 wk1 :=
  (Go.Ev.way_next hI hD hmix 13 wk1_from).trans (Go.Ev.Way.refl _)
theorem works_true (w : World) (m : Map) (h : MRel w.heap.size m (memFix 300 fixes) w) : Calls Try.prog 6 #[] w fun e w' => e = .returned (.bool true) ∧ Below w.heap.size w w' :=
  call_way_mem sound0 soundDn mixed 12 enterF (wk_way sound0 soundDn mixed) wk_end h
end Go.Proofs.Ytmdeiglnjimlnaa.works
