/- isFrom. -/
import Derived.Test.YtmdeiglnjimlnaaSearchTilesMath3
namespace Go.Ev.SearchTiles
set_option linter.unusedVariables false
open Go Go.Ev Go.Proofs
theorem isFrom_eq (F : Nat) (a b c : Int) : search_isFrom F a b c = some (inR a b c) := by
  unfold search_isFrom inR search_isFrom_1
  by_cases h : a ≤ b <;> simp [h]
end Go.Ev.SearchTiles
