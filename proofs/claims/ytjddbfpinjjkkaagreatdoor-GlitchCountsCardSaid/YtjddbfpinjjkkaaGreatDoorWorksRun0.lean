/- Pieces of the closed run of works(). -/
import Derived.Test.YtjddbfpinjjkkaaGreatDoorWorksBase
namespace Go.Proofs.YtjddbfpinjjkkaaGreatDoor.works
open Go.Ev Go.RowKit
set_option maxRecDepth 1000000
theorem wk1_from : nextST bitsP Dn Tryz.prog 11 wk1 wk0 = some wk1 := by kernel_rfl
theorem wk2_from : nextST bitsP Dn Tryz.prog 12 wk2 wk1 = some wk2 := by kernel_rfl
theorem wk3_from : nextST bitsP Dn Tryz.prog 13 wk3 wk2 = some wk3 := by kernel_rfl
end Go.Proofs.YtjddbfpinjjkkaaGreatDoor.works
