/- Pieces of the closed run of works(). -/
import Derived.Test.YtdjaigpcfhbcmaaGreatDoorWorksBase
namespace Go.Proofs.YtdjaigpcfhbcmaaGreatDoor.works
open Go.Ev Go.RowKit
set_option maxRecDepth 1000000
theorem wk41_from : nextS bitsP Dn Tryz.prog 11 wk41 wk40 = some wk41 := by kernel_rfl
theorem wk42_from : nextS bitsP Dn Tryz.prog 10 wk42 wk41 = some wk42 := by kernel_rfl
theorem wk43_from : nextS bitsP Dn Tryz.prog 11 wk43 wk42 = some wk43 := by kernel_rfl
theorem wk44_from : nextS bitsP Dn Tryz.prog 11 wk44 wk43 = some wk44 := by kernel_rfl
theorem wk45_from : nextS bitsP Dn Tryz.prog 11 wk45 wk44 = some wk45 := by kernel_rfl
theorem wk46_from : nextS bitsP Dn Tryz.prog 11 wk46 wk45 = some wk46 := by kernel_rfl
theorem wk47_from : nextS bitsP Dn Tryz.prog 10 wk47 wk46 = some wk47 := by kernel_rfl
theorem wk48_from : nextS bitsP Dn Tryz.prog 10 wk48 wk47 = some wk48 := by kernel_rfl
end Go.Proofs.YtdjaigpcfhbcmaaGreatDoor.works
