/- Pieces of the closed run of works(). -/
import Derived.Test.YtdjaigpcfhbcmaaGreatDoorWorksBase
namespace Go.Proofs.YtdjaigpcfhbcmaaGreatDoor.works
open Go.Ev Go.RowKit
set_option maxRecDepth 1000000
theorem wk17_from : nextS bitsP Dn Tryz.prog 11 wk17 wk16 = some wk17 := by kernel_rfl
theorem wk18_from : nextS bitsP Dn Tryz.prog 10 wk18 wk17 = some wk18 := by kernel_rfl
theorem wk19_from : nextS bitsP Dn Tryz.prog 11 wk19 wk18 = some wk19 := by kernel_rfl
theorem wk20_from : nextS bitsP Dn Tryz.prog 10 wk20 wk19 = some wk20 := by kernel_rfl
theorem wk21_from : nextS bitsP Dn Tryz.prog 11 wk21 wk20 = some wk21 := by kernel_rfl
theorem wk22_from : nextS bitsP Dn Tryz.prog 11 wk22 wk21 = some wk22 := by kernel_rfl
theorem wk23_from : nextS bitsP Dn Tryz.prog 11 wk23 wk22 = some wk23 := by kernel_rfl
theorem wk24_from : nextS bitsP Dn Tryz.prog 11 wk24 wk23 = some wk24 := by kernel_rfl
end Go.Proofs.YtdjaigpcfhbcmaaGreatDoor.works
