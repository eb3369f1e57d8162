/- SearchOpens answers true whatever its arguments are, in every heap in which it is called, whatever the tape says, and its arguments read behind the call as before. No condition. -/
import Derived.Test.YtgaofnakcccbkaaSearchOpensOver
namespace Go.Proofs.Ytgaofnakcccbkaa.searchOpens
theorem proved : Rows.SearchOpensSaid := over
#print axioms proved
end Go.Proofs.Ytgaofnakcccbkaa.searchOpens
