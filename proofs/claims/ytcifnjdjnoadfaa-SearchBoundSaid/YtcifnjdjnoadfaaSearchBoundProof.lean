/- SearchBound answers true whatever its arguments are, in every heap in which it is called, whatever the tape says, and its arguments read behind the call as before. No condition. -/
import Derived.Test.YtcifnjdjnoadfaaSearchBoundOver
namespace Go.Proofs.Ytcifnjdjnoadfaa.searchBound
theorem proved : Rows.SearchBoundSaid := over
#print axioms proved
end Go.Proofs.Ytcifnjdjnoadfaa.searchBound
