/- The specification's grid, less of it. -/
import Derived.Test.YtkmmplbbefijaaaGreatDoorSkyRingsMath9
namespace Go.Ev.SkyRings
open Go Go.Ev Go.Proofs
set_option linter.unusedVariables false
theorem rcells_eq (F : Nat) {n : Int} (h : 1 ≤ n ∧ n ≤ 8) : ref09_cells F n = some (6 * (n * n)) := by
  unfold ref09_cells
  rcases eight h with rfl | rfl | rfl | rfl | rfl | rfl | rfl | rfl <;> rfl
theorem there_eq (F : Nat) (n c : Int) : ref09_there F n c = some (cellB n c) := by
  unfold ref09_there ref09_there_1 cellB
  rw [In_eq, bnd_eq]
  cases e : inR 1 n 8 with
  | false => rfl
  | true =>
    have hn := inR_iff.1 e
    rw [bif_t', rcells_eq F hn, bnd_eq, Bool.true_and]
    rcases eight hn with rfl | rfl | rfl | rfl | rfl | rfl | rfl | rfl <;> rw [w64_id (by omega) (by omega), In_eq] <;> rfl
theorem rdirection_eq (F : Nat) {n c : Int} (h : (1 ≤ n ∧ n ≤ 8) ∧ 0 ≤ c ∧ c < 6 * (n * n)) : ref09_direction F n c = some (dirM n c) := by
  have hn : 0 < n * n := Int.mul_pos (by omega) (by omega)
  have hn2 : n * n ≤ 64 := by rcases eight h.1 with rfl | rfl | rfl | rfl | rfl | rfl | rfl | rfl <;> decide
  have hc : c < 384 := by omega
  have e1 : w64 (n * n) = n * n := w64_id (by omega) (by omega)
  have f1 : 0 ≤ c / (n * n) ∧ c / (n * n) ≤ 5 := by rcases face_lt h with h | h | h | h | h | h <;> rw [h] <;> decide
  have e2 : w64 (Int.tdiv c (n * n)) = c / (n * n) := by
    rw [Int.tdiv_eq_ediv_of_nonneg h.2.1, w64_id (by omega) (by omega)]
  have hd : 0 ≤ c / n := Int.ediv_nonneg h.2.1 (by omega)
  have hd2 : c / n ≤ c := Int.ediv_le_self n h.2.1
  have e3 : w64 (Int.tdiv c n) = c / n := by
    rw [Int.tdiv_eq_ediv_of_nonneg h.2.1, w64_id (by omega) (by omega)]
  have e4 : Int.tmod (c / n) n = c / n % n := Int.tmod_eq_emod_of_nonneg hd
  have e5 : Int.tmod c n = c % n := Int.tmod_eq_emod_of_nonneg h.2.1
  have ca := coord h.1 ⟨Int.emod_nonneg (c / n) (by omega : n ≠ 0), Int.emod_lt_of_pos (c / n) (by omega : 0 < n)⟩
  have cb := coord h.1 ⟨Int.emod_nonneg c (by omega : n ≠ 0), Int.emod_lt_of_pos c (by omega : 0 < n)⟩
  have cn : w64 (-n) = -n := w64_id (by omega) (by omega)
  unfold ref09_direction
  rw [e1, nz_ok (by omega : n * n ≠ 0), bnd_eq, nz_ok (by omega : n ≠ 0), bnd_eq, bnd_eq, bnd_eq, e2, e3, e4, e5, ca, cb, cn]
  unfold dirM
  rcases face_lt h with e | e | e | e | e | e <;> rw [e] <;> rfl
end Go.Ev.SkyRings
