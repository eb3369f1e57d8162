/- Pieces of the closed run of works(). -/
import Derived.Test.YtjddbfpinjjkkaaGreatDoorWorksBase
namespace Go.Proofs.YtjddbfpinjjkkaaGreatDoor.works
open Go.Ev Go.RowKit
set_option maxRecDepth 1000000
theorem wk4_from : nextST bitsP Dn Tryz.prog 14 wk4 wk3 = some wk4 := by kernel_rfl
theorem wk5_from : nextST bitsP Dn Tryz.prog 14 wk5 wk4 = some wk5 := by kernel_rfl
theorem wk6_from : nextST bitsP Dn Tryz.prog 14 wk6 wk5 = some wk6 := by kernel_rfl
end Go.Proofs.YtjddbfpinjjkkaaGreatDoor.works
