/- SearchSlides answers true whatever its arguments are, in every heap in which it is called, whatever the tape says, and its arguments read behind the call as before. No condition. -/
import Derived.Test.YtcifnjdjnoadfaaSearchSlidesOver
namespace Go.Proofs.Ytcifnjdjnoadfaa.searchSlides
theorem proved : Rows.SearchSlidesSaid := over
#print axioms proved
end Go.Proofs.Ytcifnjdjnoadfaa.searchSlides
