/- SearchRound answers true whatever its arguments are, in every heap in which it is called, whatever the tape says, and its arguments read behind the call as before. No condition. -/
import Derived.Test.YtcifnjdjnoadfaaSearchRoundOver
namespace Go.Proofs.Ytcifnjdjnoadfaa.searchRound
theorem proved : Rows.SearchRoundSaid := over
#print axioms proved
end Go.Proofs.Ytcifnjdjnoadfaa.searchRound
