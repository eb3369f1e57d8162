/- Pieces of the closed run of works(). -/
import Derived.Test.YtjddbfpinjjkkaaGreatDoorWorksBase
namespace Go.Proofs.YtjddbfpinjjkkaaGreatDoor.works
open Go.Ev Go.RowKit
set_option maxRecDepth 1000000
theorem wk7_from : nextST bitsP Dn Tryz.prog 14 wk7 wk6 = some wk7 := by kernel_rfl
theorem wk8_from : nextST bitsP Dn Tryz.prog 14 wk8 wk7 = some wk8 := by kernel_rfl
theorem wk9_from : nextST bitsP Dn Tryz.prog 14 wk9 wk8 = some wk9 := by kernel_rfl
end Go.Proofs.YtjddbfpinjjkkaaGreatDoor.works
