/- Mod. -/
import Derived.Test.YtbpnoedmnkalpaaGreatDoorRecordSecondsMath4
namespace Go.Ev.RecordSeconds
set_option linter.unusedVariables false
open Go Go.Ev Go.Proofs
theorem Mod_eq (F : Nat) (a b : Int) (h1 : 1 ≤ b) (h2 : b ≤ 4611686018427387904) : ref00_Mod F a b = some (a % b) := by
  have hm1 := Int.emod_nonneg a (show b ≠ 0 by omega)
  have hm2 := Int.emod_lt_of_pos a (show 0 < b by omega)
  unfold ref00_Mod ref00_Mod_1
  rw [bif_neg' (by omega), nz_ok (by omega), bnd_eq, Int.tmod_eq_emod]
  have hb : (b.natAbs : Int) = b := by omega
  by_cases h : 0 ≤ a ∨ b ∣ a
  · rw [if_pos h, Int.natCast_zero, Int.sub_zero, bif_neg' (by omega)]
  · rw [if_neg h, hb, bif_pos' (by omega), show a % b - b + b = a % b by omega, w64_id (by omega) (by omega)]
theorem Mod_0 (F : Nat) (a b : Int) (h1 : b < 1) : ref00_Mod F a b = some 0 := by
  unfold ref00_Mod
  rw [bif_pos' h1]
end Go.Ev.RecordSeconds
