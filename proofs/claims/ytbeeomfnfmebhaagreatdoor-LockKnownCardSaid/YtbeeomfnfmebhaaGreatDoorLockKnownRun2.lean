/- Pieces of the closed run of LockKnown(). -/
import Derived.Test.YtbeeomfnfmebhaaGreatDoorLockKnownSt0
namespace Go.Proofs.YtbeeomfnfmebhaaGreatDoor.lockKnown
open Go.Ev Go.RowKit
set_option maxRecDepth 1000000
theorem kn3_from : nextST noneKnown Dn Tryz.prog 13 kn3 kn2 = some kn3 := by kernel_rfl
end Go.Proofs.YtbeeomfnfmebhaaGreatDoor.lockKnown
