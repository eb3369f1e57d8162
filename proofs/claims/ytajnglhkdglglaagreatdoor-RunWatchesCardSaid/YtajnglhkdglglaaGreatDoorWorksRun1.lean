/- Pieces of the closed run of works(). -/
import Derived.Test.YtajnglhkdglglaaGreatDoorWorksBase
namespace Go.Proofs.YtajnglhkdglglaaGreatDoor.works
open Go.Ev Go.RowKit
set_option maxRecDepth 1000000
theorem wk4_from : Z9 Qt Dn Tryz.prog 13 wk4 wk3 = some wk4 := by kernel_rfl
theorem wk5_from : Z9 Qt Dn Tryz.prog 13 wk5 wk4 = some wk5 := by kernel_rfl
theorem wk6_from : Z9 Qt Dn Tryz.prog 11 wk6 wk5 = some wk6 := by kernel_rfl
end Go.Proofs.YtajnglhkdglglaaGreatDoor.works
