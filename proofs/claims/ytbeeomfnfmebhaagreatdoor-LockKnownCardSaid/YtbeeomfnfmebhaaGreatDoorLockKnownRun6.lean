/- Pieces of the closed run of LockKnown(). -/
import Derived.Test.YtbeeomfnfmebhaaGreatDoorLockKnownSt0
namespace Go.Proofs.YtbeeomfnfmebhaaGreatDoor.lockKnown
open Go.Ev Go.RowKit
set_option maxRecDepth 1000000
theorem kn7_from : nextST noneKnown Dn Tryz.prog 13 kn7 kn6 = some kn7 := by kernel_rfl
end Go.Proofs.YtbeeomfnfmebhaaGreatDoor.lockKnown
