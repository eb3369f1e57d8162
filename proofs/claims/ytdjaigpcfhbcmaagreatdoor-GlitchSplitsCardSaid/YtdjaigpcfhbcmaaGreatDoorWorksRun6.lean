/- Pieces of the closed run of works(). -/
import Derived.Test.YtdjaigpcfhbcmaaGreatDoorWorksBase
namespace Go.Proofs.YtdjaigpcfhbcmaaGreatDoor.works
open Go.Ev Go.RowKit
set_option maxRecDepth 1000000
theorem wk49_from : nextS bitsP Dn Tryz.prog 10 wk49 wk48 = some wk49 := by kernel_rfl
theorem wk50_from : nextS bitsP Dn Tryz.prog 10 wk50 wk49 = some wk50 := by kernel_rfl
theorem wk51_from : nextS bitsP Dn Tryz.prog 9 wk51 wk50 = some wk51 := by kernel_rfl
theorem wk52_from : nextS bitsP Dn Tryz.prog 9 wk52 wk51 = some wk52 := by kernel_rfl
theorem wk53_from : nextS bitsP Dn Tryz.prog 10 wk53 wk52 = some wk53 := by kernel_rfl
theorem wk54_from : nextS bitsP Dn Tryz.prog 11 wk54 wk53 = some wk54 := by kernel_rfl
theorem wk55_from : nextS bitsP Dn Tryz.prog 11 wk55 wk54 = some wk55 := by kernel_rfl
end Go.Proofs.YtdjaigpcfhbcmaaGreatDoor.works
