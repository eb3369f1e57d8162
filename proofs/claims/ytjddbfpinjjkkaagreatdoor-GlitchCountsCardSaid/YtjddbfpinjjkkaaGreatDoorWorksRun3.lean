/- Pieces of the closed run of works(). -/
import Derived.Test.YtjddbfpinjjkkaaGreatDoorWorksBase
namespace Go.Proofs.YtjddbfpinjjkkaaGreatDoor.works
open Go.Ev Go.RowKit
set_option maxRecDepth 1000000
theorem wk10_from : nextST bitsP Dn Tryz.prog 14 wk10 wk9 = some wk10 := by kernel_rfl
end Go.Proofs.YtjddbfpinjjkkaaGreatDoor.works
