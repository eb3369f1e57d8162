/- Pieces of the closed run of works(). -/
import Derived.Test.YtochmbjngflpiaaGreatDoorWorksBase
namespace Go.Proofs.YtochmbjngflpiaaGreatDoor.works
open Go.Ev Go.RowKit
set_option maxRecDepth 1000000
theorem wk1_from : nextST noneKnown Dn Tryz.prog 11 wk1 wk0 = some wk1 := by kernel_rfl
theorem wk2_from : nextST noneKnown Dn Tryz.prog 12 wk2 wk1 = some wk2 := by kernel_rfl
theorem wk3_from : nextST noneKnown Dn Tryz.prog 13 wk3 wk2 = some wk3 := by kernel_rfl
theorem wk4_from : nextST noneKnown Dn Tryz.prog 12 wk4 wk3 = some wk4 := by kernel_rfl
theorem wk5_from : nextST noneKnown Dn Tryz.prog 11 wk5 wk4 = some wk5 := by kernel_rfl
theorem wk6_from : nextST noneKnown Dn Tryz.prog 11 wk6 wk5 = some wk6 := by kernel_rfl
theorem wk7_from : nextST noneKnown Dn Tryz.prog 10 wk7 wk6 = some wk7 := by kernel_rfl
theorem wk8_from : nextST noneKnown Dn Tryz.prog 11 wk8 wk7 = some wk8 := by kernel_rfl
end Go.Proofs.YtochmbjngflpiaaGreatDoor.works
