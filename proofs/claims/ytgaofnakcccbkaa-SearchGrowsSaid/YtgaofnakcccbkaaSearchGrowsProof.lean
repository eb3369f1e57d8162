/- SearchGrows answers true whatever its arguments are, in every heap in which it is called, whatever the tape says, and its arguments read behind the call as before. No condition. -/
import Derived.Test.YtgaofnakcccbkaaSearchGrowsOver
namespace Go.Proofs.Ytgaofnakcccbkaa.searchGrows
theorem proved : Rows.SearchGrowsSaid := over
#print axioms proved
end Go.Proofs.Ytgaofnakcccbkaa.searchGrows
