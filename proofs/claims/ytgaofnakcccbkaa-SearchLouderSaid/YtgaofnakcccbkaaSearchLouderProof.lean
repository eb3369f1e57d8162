/- SearchLouder answers true whatever its arguments are, in every heap in which it is called, whatever the tape says, and its arguments read behind the call as before. No condition. -/
import Derived.Test.YtgaofnakcccbkaaSearchLouderOver
namespace Go.Proofs.Ytgaofnakcccbkaa.searchLouder
theorem proved : Rows.SearchLouderSaid := over
#print axioms proved
end Go.Proofs.Ytgaofnakcccbkaa.searchLouder
