/- SearchMirror answers true whatever its arguments are, in every heap in which it is called, whatever the tape says, and its arguments read behind the call as before. No condition. -/
import Derived.Test.YtcifnjdjnoadfaaSearchMirrorOver
namespace Go.Proofs.Ytcifnjdjnoadfaa.searchMirror
theorem proved : Rows.SearchMirrorSaid := over
#print axioms proved
end Go.Proofs.Ytcifnjdjnoadfaa.searchMirror
