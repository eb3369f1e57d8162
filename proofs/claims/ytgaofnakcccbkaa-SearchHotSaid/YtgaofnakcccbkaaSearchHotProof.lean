/- SearchHot answers true whatever its arguments are, in every heap in which it is called, whatever the tape says, and its arguments read behind the call as before. No condition. -/
import Derived.Test.YtgaofnakcccbkaaSearchHotOver
namespace Go.Proofs.Ytgaofnakcccbkaa.searchHot
theorem proved : Rows.SearchHotSaid := over
#print axioms proved
end Go.Proofs.Ytgaofnakcccbkaa.searchHot
