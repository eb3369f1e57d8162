/- The grid: its cells and their directions. -/
import Derived.Test.YtkmmplbbefijaaaGreatDoorSkyRingsMath0
namespace Go.Ev.SkyRings
open Go Go.Ev Go.Proofs
set_option linter.unusedVariables false
theorem isFrom_eq (F : Nat) (a b c : Int) : sky_isFrom F a b c = some (inR a b c) := by
  unfold sky_isFrom inR sky_isFrom_1
  by_cases h : a ≤ b <;> simp [h]
theorem bif_t' {α : Type} (x y : α) : (bif true then x else y) = x := rfl
theorem bif_f' {α : Type} (x y : α) : (bif false then x else y) = y := rfl
theorem isValid_eq (F : Nat) (n : Int) : sky_grid_isValid F n = some (inR 1 n 8) := by
  unfold sky_grid_isValid
  rw [isFrom_eq, bnd_eq]
theorem eight {n : Int} (h : 1 ≤ n ∧ n ≤ 8) : n = 1 ∨ n = 2 ∨ n = 3 ∨ n = 4 ∨ n = 5 ∨ n = 6 ∨ n = 7 ∨ n = 8 := by omega
theorem cells_eq (F : Nat) {n : Int} (h : 1 ≤ n ∧ n ≤ 8) : sky_grid_cells F n = some (6 * (n * n)) := by
  unfold sky_grid_cells
  rcases eight h with rfl | rfl | rfl | rfl | rfl | rfl | rfl | rfl <;> rfl
def cellB (n c : Int) : Bool := inR 1 n 8 && inR 0 c (6 * (n * n) - 1)
theorem cellB_iff {n c : Int} : cellB n c = true ↔ (1 ≤ n ∧ n ≤ 8) ∧ 0 ≤ c ∧ c < 6 * (n * n) := by
  unfold cellB
  rw [Bool.and_eq_true, inR_iff, inR_iff]
  omega
/-- The direction of a cell. -/
def dirM (n c : Int) : S__3_int :=
  let f := c / (n * n); let a := 2 * (c / n % n) + 1 - n; let b := 2 * (c % n) + 1 - n
  if f = 0 then ⟨n, a, b⟩ else if f = 1 then ⟨-n, a, b⟩ else if f = 2 then ⟨a, n, b⟩ else if f = 3 then ⟨a, -n, b⟩ else if f = 4 then ⟨a, b, n⟩ else ⟨a, b, -n⟩
theorem face_lt {n c : Int} (h : (1 ≤ n ∧ n ≤ 8) ∧ 0 ≤ c ∧ c < 6 * (n * n)) : c / (n * n) = 0 ∨ c / (n * n) = 1 ∨ c / (n * n) = 2 ∨ c / (n * n) = 3 ∨ c / (n * n) = 4 ∨ c / (n * n) = 5 := by
  have hn : 0 < n * n := Int.mul_pos (by omega) (by omega)
  have h1 : c / (n * n) < 6 := Int.ediv_lt_of_lt_mul hn h.2.2
  have h2 : 0 ≤ c / (n * n) := Int.ediv_nonneg h.2.1 (by omega)
  omega
theorem coord {n x : Int} (h : 1 ≤ n ∧ n ≤ 8) (hx : 0 ≤ x ∧ x < n) : w64 (w64 (w64 (2 * x) + 1) - n) = 2 * x + 1 - n := by
  rw [w64_id (n := 2 * x) (by omega) (by omega), w64_id (n := 2 * x + 1) (by omega) (by omega), w64_id (by omega) (by omega)]
theorem direction_eq (F : Nat) {n c : Int} (h : (1 ≤ n ∧ n ≤ 8) ∧ 0 ≤ c ∧ c < 6 * (n * n)) : sky_grid_direction F n c = some (dirM n c) := by
  have hn : 0 < n * n := Int.mul_pos (by omega) (by omega)
  have hn2 : n * n ≤ 64 := by rcases eight h.1 with rfl | rfl | rfl | rfl | rfl | rfl | rfl | rfl <;> decide
  have hc : c < 384 := by omega
  have e1 : w64 (n * n) = n * n := w64_id (by omega) (by omega)
  have f1 : 0 ≤ c / (n * n) ∧ c / (n * n) ≤ 5 := by rcases face_lt h with h | h | h | h | h | h <;> rw [h] <;> decide
  have e2 : w64 (Int.tdiv c (n * n)) = c / (n * n) := by
    rw [Int.tdiv_eq_ediv_of_nonneg h.2.1, w64_id (by omega) (by omega)]
  have hd : 0 ≤ c / n := Int.ediv_nonneg h.2.1 (by omega)
  have hd2 : c / n ≤ c := Int.ediv_le_self n h.2.1
  have e3 : w64 (Int.tdiv c n) = c / n := by
    rw [Int.tdiv_eq_ediv_of_nonneg h.2.1, w64_id (by omega) (by omega)]
  have e4 : Int.tmod (c / n) n = c / n % n := Int.tmod_eq_emod_of_nonneg hd
  have e5 : Int.tmod c n = c % n := Int.tmod_eq_emod_of_nonneg h.2.1
  have ca := coord h.1 ⟨Int.emod_nonneg (c / n) (by omega : n ≠ 0), Int.emod_lt_of_pos (c / n) (by omega : 0 < n)⟩
  have cb := coord h.1 ⟨Int.emod_nonneg c (by omega : n ≠ 0), Int.emod_lt_of_pos c (by omega : 0 < n)⟩
  have cn : w64 (-n) = -n := w64_id (by omega) (by omega)
  unfold sky_grid_direction
  rw [e1, nz_ok (by omega : n * n ≠ 0), bnd_eq, nz_ok (by omega : n ≠ 0), bnd_eq, bnd_eq, bnd_eq, e2, e3, e4, e5, ca, cb, cn]
  unfold dirM
  rcases face_lt h with e | e | e | e | e | e <;> rw [e] <;> rfl
end Go.Ev.SkyRings
