/- SearchBursts answers true whatever its arguments are, in every heap in which it is called, whatever the tape says, and its arguments read behind the call as before. No condition. -/
import Derived.Test.YtcifnjdjnoadfaaSearchBurstsOver
namespace Go.Proofs.Ytcifnjdjnoadfaa.searchBursts
theorem proved : Rows.SearchBurstsSaid := over
#print axioms proved
end Go.Proofs.Ytcifnjdjnoadfaa.searchBursts
