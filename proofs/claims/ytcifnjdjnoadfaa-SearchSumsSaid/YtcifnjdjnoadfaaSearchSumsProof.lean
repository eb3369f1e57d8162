/- SearchSums answers true whatever its arguments are, in every heap in which it is called, whatever the tape says, and its arguments read behind the call as before. No condition. -/
import Derived.Test.YtcifnjdjnoadfaaSearchSumsOver
namespace Go.Proofs.Ytcifnjdjnoadfaa.searchSums
theorem proved : Rows.SearchSumsSaid := over
#print axioms proved
end Go.Proofs.Ytcifnjdjnoadfaa.searchSums
