/- Pieces of the closed run of works(). -/
import Derived.Test.YtajnglhkdglglaaGreatDoorWorksBase
namespace Go.Proofs.YtajnglhkdglglaaGreatDoor.works
open Go.Ev Go.RowKit
set_option maxRecDepth 1000000
theorem wk7_from : Z9 Qt Dn Tryz.prog 11 wk7 wk6 = some wk7 := by kernel_rfl
theorem wk8_from : Z9 Qt Dn Tryz.prog 11 wk8 wk7 = some wk8 := by kernel_rfl
theorem wk9_from : Z9 Qt Dn Tryz.prog 11 wk9 wk8 = some wk9 := by kernel_rfl
end Go.Proofs.YtajnglhkdglglaaGreatDoor.works
