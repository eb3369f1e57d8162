/- SkyCells. -/
import Derived.Test.YtkmmplbbefijaaaGreatDoorSkyCellsMath6
namespace Go.Ev.SkyCells
open Go Go.Ev Go.Proofs
set_option linter.unusedVariables false
theorem Cells_eq (F : Nat) (n : Int) : sky_Cells F n = some (bif inR 1 n 8 then (6 * (n * n), 0) else (0, 91)) := by
  unfold sky_Cells
  rw [checkGrid_eq, bnd_eq]
  cases e : inR 1 n 8 with
  | false => rfl
  | true => rw [bif_t', bif_t', cells_eq F (inR_iff.1 e)]; rfl
theorem law_eq (F : Nat) (n c : Int) (v : S__3_int) (hF : 4 < F) (hw : works F = some true) : law09_SkyCells F n c v = some true := by
  unfold law09_SkyCells
  rw [Cells_eq, bnd_eq, RCells_eq, bnd_eq]
  generalize (bif inR 1 n 8 then (6 * (n * n), (0 : Int)) else (0, 91)) = r
  rw [beq_self_eq_true, beq_self_eq_true]
  show law09_SkyCells_1 F n c false v = _
  unfold law09_SkyCells_1
  rw [bif_f', Direction_eq, bnd_eq, RDirection_eq, bnd_eq]
  generalize (bif cellB n c then (dirM n c, (0 : Int)) else (⟨0, 0, 0⟩, 91)) = d
  simp only [beq_self_eq_true, Bool.true_and, Bool.not_true, cond_false]
  unfold law09_SkyCells_2
  rw [bif_f', CellOf_eq F hF, bnd_eq, RCellOf_eq F hF, bnd_eq]
  generalize cellOfM n v = k
  simp only [beq_self_eq_true, cond_true]
  unfold law09_SkyCells_3 law09_SkyCells_4
  rw [bif_t', hw]
  rfl
end Go.Ev.SkyCells
