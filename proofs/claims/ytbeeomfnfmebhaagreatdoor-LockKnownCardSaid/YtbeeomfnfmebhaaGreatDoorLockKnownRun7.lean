/- Pieces of the closed run of LockKnown(). -/
import Derived.Test.YtbeeomfnfmebhaaGreatDoorLockKnownSt0
namespace Go.Proofs.YtbeeomfnfmebhaaGreatDoor.lockKnown
open Go.Ev Go.RowKit
set_option maxRecDepth 1000000
theorem kn8_from : nextST noneKnown Dn Tryz.prog 13 kn8 kn7 = some kn8 := by kernel_rfl
end Go.Proofs.YtbeeomfnfmebhaaGreatDoor.lockKnown
