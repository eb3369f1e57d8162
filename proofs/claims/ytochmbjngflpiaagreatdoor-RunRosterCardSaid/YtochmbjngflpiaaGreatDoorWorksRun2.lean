/- Pieces of the closed run of works(). -/
import Derived.Test.YtochmbjngflpiaaGreatDoorWorksBase
namespace Go.Proofs.YtochmbjngflpiaaGreatDoor.works
open Go.Ev Go.RowKit
set_option maxRecDepth 1000000
theorem wk17_from : nextST noneKnown Dn Tryz.prog 9 wk17 wk16 = some wk17 := by kernel_rfl
theorem wk18_from : nextST noneKnown Dn Tryz.prog 4 wk18 wk17 = some wk18 := by kernel_rfl
theorem wk19_from : nextST noneKnown Dn Tryz.prog 2 wk19 wk18 = some wk19 := by kernel_rfl
theorem wk20_from : nextST noneKnown Dn Tryz.prog 1 wk20 wk19 = some wk20 := by kernel_rfl
theorem wk21_from : nextST noneKnown Dn Tryz.prog 2 wk21 wk20 = some wk21 := by kernel_rfl
theorem wk22_from : nextST noneKnown Dn Tryz.prog 3 wk22 wk21 = some wk22 := by kernel_rfl
theorem wk23_from : nextST noneKnown Dn Tryz.prog 4 wk23 wk22 = some wk23 := by kernel_rfl
theorem wk24_from : nextST noneKnown Dn Tryz.prog 5 wk24 wk23 = some wk24 := by kernel_rfl
end Go.Proofs.YtochmbjngflpiaaGreatDoor.works
