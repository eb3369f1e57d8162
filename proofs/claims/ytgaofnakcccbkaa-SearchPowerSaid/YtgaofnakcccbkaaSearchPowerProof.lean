/- SearchPower answers true whatever its arguments are, in every heap in which it is called, whatever the tape says, and its arguments read behind the call as before. No condition. -/
import Derived.Test.YtgaofnakcccbkaaSearchPowerOver
namespace Go.Proofs.Ytgaofnakcccbkaa.searchPower
theorem proved : Rows.SearchPowerSaid := over
#print axioms proved
end Go.Proofs.Ytgaofnakcccbkaa.searchPower
