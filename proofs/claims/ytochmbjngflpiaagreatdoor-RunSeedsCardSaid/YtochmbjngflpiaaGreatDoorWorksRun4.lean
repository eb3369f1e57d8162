/- Pieces of the closed run of works(). -/
import Derived.Test.YtochmbjngflpiaaGreatDoorWorksBase
namespace Go.Proofs.YtochmbjngflpiaaGreatDoor.works
open Go.Ev Go.RowKit
set_option maxRecDepth 1000000
theorem wk33_from : nextST noneKnown Dn Tryz.prog 11 wk33 wk32 = some wk33 := by kernel_rfl
theorem wk34_from : nextST noneKnown Dn Tryz.prog 8 wk34 wk33 = some wk34 := by kernel_rfl
theorem wk35_from : nextST noneKnown Dn Tryz.prog 9 wk35 wk34 = some wk35 := by kernel_rfl
theorem wk36_from : nextST noneKnown Dn Tryz.prog 10 wk36 wk35 = some wk36 := by kernel_rfl
theorem wk37_from : nextST noneKnown Dn Tryz.prog 10 wk37 wk36 = some wk37 := by kernel_rfl
theorem wk38_from : nextST noneKnown Dn Tryz.prog 8 wk38 wk37 = some wk38 := by kernel_rfl
theorem wk39_from : nextST noneKnown Dn Tryz.prog 9 wk39 wk38 = some wk39 := by kernel_rfl
theorem wk40_from : nextST noneKnown Dn Tryz.prog 10 wk40 wk39 = some wk40 := by kernel_rfl
end Go.Proofs.YtochmbjngflpiaaGreatDoor.works
