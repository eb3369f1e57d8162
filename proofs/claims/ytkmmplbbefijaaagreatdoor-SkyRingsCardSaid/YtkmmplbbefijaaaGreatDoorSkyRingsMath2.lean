/- Vectors. -/
import Derived.Test.YtkmmplbbefijaaaGreatDoorSkyRingsMath1
namespace Go.Ev.SkyRings
open Go Go.Ev Go.Proofs
set_option linter.unusedVariables false
theorem checkGrid_eq (F : Nat) (n : Int) : sky_checkGrid F n = some (bif inR 1 n 8 then 0 else 91) := by
  unfold sky_checkGrid
  rw [isValid_eq, bnd_eq]
  cases inR 1 n 8 <;> rfl
def inV (m : Int) (v : S__3_int) : Bool := inR (-m) v.e0 m && (inR (-m) v.e1 m && inR (-m) v.e2 m)
theorem inV_iff {m : Int} {v : S__3_int} : inV m v = true ↔ (-m ≤ v.e0 ∧ v.e0 ≤ m) ∧ (-m ≤ v.e1 ∧ v.e1 ≤ m) ∧ (-m ≤ v.e2 ∧ v.e2 ≤ m) := by
  unfold inV
  rw [Bool.and_eq_true, Bool.and_eq_true, inR_iff, inR_iff, inR_iff]
theorem isWithin_eq (F : Nat) (hF : 4 < F) (v : S__3_int) (m : Int) (hm : 0 ≤ m ∧ m ≤ 4611686018427387904) : sky_vector_isWithin F v m = some (inV m v) := by
  obtain ⟨N, rfl⟩ : ∃ N, F = N + 5 := ⟨F - 5, by omega⟩
  have e : w64 (-m) = -m := w64_id (by omega) (by omega)
  unfold sky_vector_isWithin inV
  rw [sky_vector_isWithin_1, bif_pos' (by decide), show inA (0 : Int) 3 = some 0 from rfl, bnd_eq, e, isFrom_eq, bnd_eq]
  show (bif !(inR (-m) v.e0 m) then _ else _) = _
  cases inR (-m) v.e0 m with
  | false => rfl
  | true =>
    show sky_vector_isWithin_1 (N + 5) (N + 4) m v 1 = _
    rw [sky_vector_isWithin_1, bif_pos' (by decide), show inA (1 : Int) 3 = some 1 from rfl, bnd_eq, e, isFrom_eq, bnd_eq]
    show (bif !(inR (-m) v.e1 m) then _ else _) = _
    cases inR (-m) v.e1 m with
    | false => rfl
    | true =>
      show sky_vector_isWithin_1 (N + 5) (N + 3) m v 2 = _
      rw [sky_vector_isWithin_1, bif_pos' (by decide), show inA (2 : Int) 3 = some 2 from rfl, bnd_eq, e, isFrom_eq, bnd_eq]
      show (bif !(inR (-m) v.e2 m) then _ else _) = _
      cases inR (-m) v.e2 m with
      | false => rfl
      | true =>
        show sky_vector_isWithin_1 (N + 5) (N + 2) m v 3 = _
        rw [sky_vector_isWithin_1, bif_neg' (by decide)]
        rfl
def isZ (v : S__3_int) : Bool := (v.e0 == (0 : Int)) && ((v.e1 == (0 : Int)) && ((v.e2 == (0 : Int)) && true))
theorem isZ_false {v : S__3_int} (h : isZ v = false) : v.e0 ≠ 0 ∨ v.e1 ≠ 0 ∨ v.e2 ≠ 0 := by
  unfold isZ at h
  apply Classical.byContradiction
  intro hn
  have h0 : v.e0 = 0 ∧ v.e1 = 0 ∧ v.e2 = 0 := by omega
  rw [h0.1, h0.2.1, h0.2.2] at h
  simp at h
end Go.Ev.SkyRings
