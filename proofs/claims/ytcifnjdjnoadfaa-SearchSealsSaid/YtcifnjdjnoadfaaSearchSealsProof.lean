/- SearchSeals answers true whatever its arguments are, in every heap in which it is called, whatever the tape says, and its arguments read behind the call as before. No condition. -/
import Derived.Test.YtcifnjdjnoadfaaSearchSealsOver
namespace Go.Proofs.Ytcifnjdjnoadfaa.searchSeals
theorem proved : Rows.SearchSealsSaid := over
#print axioms proved
end Go.Proofs.Ytcifnjdjnoadfaa.searchSeals
