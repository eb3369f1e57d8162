/- isFrom. -/
import Derived.Test.YtochmbjngflpiaaGreatDoorRunVetoedMath1
namespace Go.Ev.RunVetoed
set_option linter.unusedVariables false
open Go Go.Ev Go.Proofs
theorem isFrom_eq (F : Nat) (a b c : Int) : run_isFrom F a b c = some (inR a b c) := by
 unfold run_isFrom inR run_isFrom_1
 by_cases h : a ≤ b <;> simp [h]
end Go.Ev.RunVetoed
