/- Is it a cell? -/
import Derived.Test.YtkmmplbbefijaaaGreatDoorSkyTrueMath1
namespace Go.Ev.SkyTrue
open Go Go.Ev Go.Proofs
set_option linter.unusedVariables false
theorem isCell_eq (F : Nat) {n : Int} (h : 1 ≤ n ∧ n ≤ 8) (c : Int) : sky_grid_isCell F n c = some (inR 0 c (6 * (n * n) - 1)) := by
  unfold sky_grid_isCell
  rw [cells_eq F h, bnd_eq, isFrom_eq, bnd_eq]
  rcases eight h with rfl | rfl | rfl | rfl | rfl | rfl | rfl | rfl <;> rfl
theorem checkCell_eq (F : Nat) (n c : Int) : sky_checkCell F n c = some (bif cellB n c then 0 else 91) := by
  unfold sky_checkCell sky_checkCell_1 cellB
  rw [isValid_eq, bnd_eq]
  cases e : inR 1 n 8 with
  | false => rfl
  | true =>
    rw [isCell_eq F (inR_iff.1 e), bnd_eq]
    cases inR 0 c (6 * (n * n) - 1) <;> rfl
end Go.Ev.SkyTrue
