/- SearchVetoed answers true whatever its arguments are, in every heap in which it is called, whatever the tape says, and its arguments read behind the call as before. No condition. -/
import Derived.Test.YtmdeiglnjimlnaaSearchVetoedOver
namespace Go.Proofs.Ytmdeiglnjimlnaa.searchVetoed
theorem proved : Rows.SearchVetoedSaid := over
#print axioms proved
end Go.Proofs.Ytmdeiglnjimlnaa.searchVetoed
