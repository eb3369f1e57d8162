/- Pieces of the closed run of works(). -/
import Derived.Test.YtdcgepenffjdcaaGreatDoorWorksBase
namespace Go.Proofs.YtdcgepenffjdcaaGreatDoor.works
open Go.Ev Go.RowKit
set_option maxRecDepth 1000000
theorem wk41_from : nextS bitsP Dn Tryz.prog 11 wk41 wk40 = some wk41 := by kernel_rfl
theorem wk42_from : nextS bitsP Dn Tryz.prog 11 wk42 wk41 = some wk42 := by kernel_rfl
end Go.Proofs.YtdcgepenffjdcaaGreatDoor.works
