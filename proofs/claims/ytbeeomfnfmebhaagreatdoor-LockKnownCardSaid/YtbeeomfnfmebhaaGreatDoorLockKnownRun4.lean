/- Pieces of the closed run of LockKnown(). -/
import Derived.Test.YtbeeomfnfmebhaaGreatDoorLockKnownSt0
namespace Go.Proofs.YtbeeomfnfmebhaaGreatDoor.lockKnown
open Go.Ev Go.RowKit
set_option maxRecDepth 1000000
theorem kn5_from : nextST noneKnown Dn Tryz.prog 13 kn5 kn4 = some kn5 := by kernel_rfl
end Go.Proofs.YtbeeomfnfmebhaaGreatDoor.lockKnown
