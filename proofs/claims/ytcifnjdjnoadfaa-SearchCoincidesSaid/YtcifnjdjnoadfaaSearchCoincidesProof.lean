/- SearchCoincides answers true whatever its arguments are, in every heap in which it is called, whatever the tape says, and its arguments read behind the call as before. No condition. -/
import Derived.Test.YtcifnjdjnoadfaaSearchCoincidesOver
namespace Go.Proofs.Ytcifnjdjnoadfaa.searchCoincides
theorem proved : Rows.SearchCoincidesSaid := over
#print axioms proved
end Go.Proofs.Ytcifnjdjnoadfaa.searchCoincides
