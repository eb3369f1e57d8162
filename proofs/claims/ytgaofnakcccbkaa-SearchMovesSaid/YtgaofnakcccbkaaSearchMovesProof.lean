/- SearchMoves answers true whatever its arguments are, in every heap in which it is called, whatever the tape says, and its arguments read behind the call as before. No condition. -/
import Derived.Test.YtgaofnakcccbkaaSearchMovesOver
namespace Go.Proofs.Ytgaofnakcccbkaa.searchMoves
theorem proved : Rows.SearchMovesSaid := over
#print axioms proved
end Go.Proofs.Ytgaofnakcccbkaa.searchMoves
