/- Pieces of the closed run of works(). -/
import Derived.Test.YtajnglhkdglglaaGreatDoorWorksBase
namespace Go.Proofs.YtajnglhkdglglaaGreatDoor.works
open Go.Ev Go.RowKit
set_option maxRecDepth 1000000
theorem wk10_from : Z9 Qt Dn Tryz.prog 11 wk10 wk9 = some wk10 := by kernel_rfl
theorem wk11_from : Z9 Qt Dn Tryz.prog 11 wk11 wk10 = some wk11 := by kernel_rfl
end Go.Proofs.YtajnglhkdglglaaGreatDoor.works
