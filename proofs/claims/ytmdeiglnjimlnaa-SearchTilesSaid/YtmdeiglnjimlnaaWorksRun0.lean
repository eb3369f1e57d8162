/- Pieces of the closed run of works(). -/
import Derived.Test.YtmdeiglnjimlnaaWorksBase
namespace Go.Proofs.Ytmdeiglnjimlnaa.works
open Go.Ev Go.RowKit
set_option maxRecDepth 1000000
theorem wk1_from : nextS noneKnown Dn Try.prog 13 wk1 wk0 = some wk1 := by kernel_rfl
end Go.Proofs.Ytmdeiglnjimlnaa.works
