/- SearchCandidates answers true whatever its arguments are, in every heap in which it is called, whatever the tape says, and its arguments read behind the call as before. No condition. -/
import Derived.Test.YtgaofnakcccbkaaSearchCandidatesOver
namespace Go.Proofs.Ytgaofnakcccbkaa.searchCandidates
theorem proved : Rows.SearchCandidatesSaid := over
#print axioms proved
end Go.Proofs.Ytgaofnakcccbkaa.searchCandidates
