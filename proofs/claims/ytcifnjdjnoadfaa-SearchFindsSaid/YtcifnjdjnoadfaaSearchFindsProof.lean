/- SearchFinds answers true whatever its arguments are, in every heap in which it is called, whatever the tape says, and its arguments read behind the call as before. No condition. -/
import Derived.Test.YtcifnjdjnoadfaaSearchFindsOver
namespace Go.Proofs.Ytcifnjdjnoadfaa.searchFinds
theorem proved : Rows.SearchFindsSaid := over
#print axioms proved
end Go.Proofs.Ytcifnjdjnoadfaa.searchFinds
