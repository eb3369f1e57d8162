/- SearchFolds answers true whatever its arguments are, in every heap in which it is called, whatever the tape says, and its arguments read behind the call as before. No condition. -/
import Derived.Test.YtcifnjdjnoadfaaSearchFoldsOver
namespace Go.Proofs.Ytcifnjdjnoadfaa.searchFolds
theorem proved : Rows.SearchFoldsSaid := over
#print axioms proved
end Go.Proofs.Ytcifnjdjnoadfaa.searchFolds
