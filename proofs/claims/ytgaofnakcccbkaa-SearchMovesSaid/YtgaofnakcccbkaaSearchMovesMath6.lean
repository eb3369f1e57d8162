/- A pair of triggers. -/
import Derived.Test.YtgaofnakcccbkaaSearchMovesMath5
namespace Go.Ev.SearchMoves
set_option linter.unusedVariables false
structure S_api_Pair where
  First : Int
  Second : Int
  Loud : Int
end Go.Ev.SearchMoves
