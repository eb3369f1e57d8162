/- isSeed, In (after RIF). -/
import Derived.Test.YtochmbjngflpiaaGreatDoorRunSeedsMath2
namespace Go.Ev.RunSeeds
set_option linter.unusedVariables false
open Go Go.Ev Go.Proofs
theorem isSeed_eq (F : Nat) (a : Int) : run_isSeed F a = some (inR 0 a 1073741824) := by
  unfold run_isSeed
  rw [isFrom_eq]
  rfl
theorem In_eq (F : Nat) (b a c : Int) : ref00_In F b a c = some (inR a b c) := by
  unfold ref00_In inR ref00_In_1
  by_cases h : a ≤ b <;> simp [h]
theorem SameInts_loop (F : Nat) (a b : List Int) (hl : a.length = b.length) (hL : a.length < 9223372036854775807) : ∀ (k i N : Nat), i + k = a.length → k < N → ref00_SameInts_1 F N a b (i : Int) = some (decide (a.drop i = b.drop i)) := by
  intro k
  induction k with
  | zero =>
    intro i N hi hN
    obtain ⟨N, rfl⟩ : ∃ n, N = n + 1 := ⟨N - 1, by omega⟩
    rw [ref00_SameInts_1, bif_neg' (by omega), List.drop_of_length_le (by omega), List.drop_of_length_le (by omega)]
    simp
  | succ k ih =>
    intro i N hi hN
    obtain ⟨N, rfl⟩ : ∃ n, N = n + 1 := ⟨N - 1, by omega⟩
    obtain ⟨x, hx⟩ := get_lt (l := a) (i := i) (by omega)
    obtain ⟨y, hy⟩ := get_lt (l := b) (i := i) (by omega)
    rw [ref00_SameInts_1, bif_pos' (by omega), idx_nat, hx, bnd_eq, idx_nat, hy, bnd_eq, up (by omega), ih (i + 1) N (by omega) (by omega), drop_get hx, drop_get hy]
    by_cases h : x = y
    · simp [h]
    · have hb : (x == y) = false := by simpa using h
      simp [h, hb]
theorem SameInts_eq (F : Nat) (a b : List Int) (hF : a.length < F) (hL : a.length < 9223372036854775807) : ref00_SameInts F a b = some (decide (a = b)) := by
  unfold ref00_SameInts
  by_cases h : a.length = b.length
  · have h' : ((a.length : Int) == (b.length : Int)) = true := by simp [h]
    rw [h', show (!true) = false from rfl]
    have := SameInts_loop F a b h hL a.length 0 F (by omega) (by omega)
    simpa using this
  · have h' : ((a.length : Int) == (b.length : Int)) = false := by simp; omega
    rw [h', show (!false) = true from rfl]
    have : ¬ a = b := fun e => h (by rw [e])
    simp [this]
end Go.Ev.RunSeeds
