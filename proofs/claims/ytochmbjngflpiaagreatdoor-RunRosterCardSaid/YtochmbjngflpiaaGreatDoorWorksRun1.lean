/- Pieces of the closed run of works(). -/
import Derived.Test.YtochmbjngflpiaaGreatDoorWorksBase
namespace Go.Proofs.YtochmbjngflpiaaGreatDoor.works
open Go.Ev Go.RowKit
set_option maxRecDepth 1000000
theorem wk9_from : nextST noneKnown Dn Tryz.prog 11 wk9 wk8 = some wk9 := by kernel_rfl
theorem wk10_from : nextST noneKnown Dn Tryz.prog 10 wk10 wk9 = some wk10 := by kernel_rfl
theorem wk11_from : nextST noneKnown Dn Tryz.prog 10 wk11 wk10 = some wk11 := by kernel_rfl
theorem wk12_from : nextST noneKnown Dn Tryz.prog 11 wk12 wk11 = some wk12 := by kernel_rfl
theorem wk13_from : nextST noneKnown Dn Tryz.prog 10 wk13 wk12 = some wk13 := by kernel_rfl
theorem wk14_from : nextST noneKnown Dn Tryz.prog 11 wk14 wk13 = some wk14 := by kernel_rfl
theorem wk15_from : nextST noneKnown Dn Tryz.prog 11 wk15 wk14 = some wk15 := by kernel_rfl
theorem wk16_from : nextST noneKnown Dn Tryz.prog 8 wk16 wk15 = some wk16 := by kernel_rfl
end Go.Proofs.YtochmbjngflpiaaGreatDoor.works
