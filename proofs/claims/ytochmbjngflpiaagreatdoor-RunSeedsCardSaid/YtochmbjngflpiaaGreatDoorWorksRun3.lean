/- Pieces of the closed run of works(). -/
import Derived.Test.YtochmbjngflpiaaGreatDoorWorksBase
namespace Go.Proofs.YtochmbjngflpiaaGreatDoor.works
open Go.Ev Go.RowKit
set_option maxRecDepth 1000000
theorem wk25_from : nextST noneKnown Dn Tryz.prog 6 wk25 wk24 = some wk25 := by kernel_rfl
theorem wk26_from : nextST noneKnown Dn Tryz.prog 7 wk26 wk25 = some wk26 := by kernel_rfl
theorem wk27_from : nextST noneKnown Dn Tryz.prog 8 wk27 wk26 = some wk27 := by kernel_rfl
theorem wk28_from : nextST noneKnown Dn Tryz.prog 9 wk28 wk27 = some wk28 := by kernel_rfl
theorem wk29_from : nextST noneKnown Dn Tryz.prog 10 wk29 wk28 = some wk29 := by kernel_rfl
theorem wk30_from : nextST noneKnown Dn Tryz.prog 11 wk30 wk29 = some wk30 := by kernel_rfl
theorem wk31_from : nextST noneKnown Dn Tryz.prog 10 wk31 wk30 = some wk31 := by kernel_rfl
theorem wk32_from : nextST noneKnown Dn Tryz.prog 10 wk32 wk31 = some wk32 := by kernel_rfl
end Go.Proofs.YtochmbjngflpiaaGreatDoor.works
