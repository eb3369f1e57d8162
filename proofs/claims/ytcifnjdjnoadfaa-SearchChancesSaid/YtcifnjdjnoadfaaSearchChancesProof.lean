/- SearchChances answers true whatever its arguments are, in every heap in which it is called, whatever the tape says, and its arguments read behind the call as before. No condition. -/
import Derived.Test.YtcifnjdjnoadfaaSearchChancesOver
namespace Go.Proofs.Ytcifnjdjnoadfaa.searchChances
theorem proved : Rows.SearchChancesSaid := over
#print axioms proved
end Go.Proofs.Ytcifnjdjnoadfaa.searchChances
