/- Pieces of the closed run of SearchKnown(). -/
import Derived.Test.YtcifnjdjnoadfaaSearchKnownBase
namespace Go.Proofs.Ytcifnjdjnoadfaa.searchKnown
open Go.Ev Go.RowKit
set_option maxRecDepth 1000000
theorem kn1_from : nextS noneKnown Dn Try.prog 10 kn1 kn0 = some kn1 := by kernel_rfl
theorem kn2_from : nextS noneKnown Dn Try.prog 11 kn2 kn1 = some kn2 := by kernel_rfl
theorem kn3_from : nextS noneKnown Dn Try.prog 11 kn3 kn2 = some kn3 := by kernel_rfl
end Go.Proofs.Ytcifnjdjnoadfaa.searchKnown
