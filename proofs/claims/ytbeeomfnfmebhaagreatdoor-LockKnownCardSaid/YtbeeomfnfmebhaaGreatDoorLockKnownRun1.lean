/- Pieces of the closed run of LockKnown(). -/
import Derived.Test.YtbeeomfnfmebhaaGreatDoorLockKnownSt0
namespace Go.Proofs.YtbeeomfnfmebhaaGreatDoor.lockKnown
open Go.Ev Go.RowKit
set_option maxRecDepth 1000000
theorem kn2_from : nextST noneKnown Dn Tryz.prog 12 kn2 kn1 = some kn2 := by kernel_rfl
end Go.Proofs.YtbeeomfnfmebhaaGreatDoor.lockKnown
