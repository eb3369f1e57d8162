/- The same numbers. -/
import Derived.Test.YtbpnoedmnkalpaaGreatDoorRecordSpansMath10
namespace Go.Ev.RecordSpans
open Go Go.Ev Go.Proofs
set_option linter.unusedVariables false
theorem same1 (F : Nat) (l : List Int) (hl : l.length ≤ 1000000) : ∀ (k N i : Nat), k = l.length - i → i ≤ l.length → k < N → ref00_SameInts_1 F N l l i = some true
  | k, 0, i, _, _, h => by omega
  | 0, N + 1, i, hk, hi, _ => by rw [ref00_SameInts_1, bif_neg' (by omega : ¬ ((i : Int) < l.length))]
  | k + 1, N + 1, i, hk, hi, hN => by
    obtain ⟨x, hx⟩ := get_lt (l := l) (i := i) (by omega)
    rw [ref00_SameInts_1, bif_pos' (by omega : ((i : Int) < l.length)), idx_nat, hx, bnd_eq, bnd_eq]
    simp only [beq_self_eq_true, Bool.not_true, cond_false]
    rw [up (by omega), same1 F l hl k N (i + 1) (by omega) (by omega) (by omega)]
theorem same_self (F : Nat) (l : List Int) (hl : l.length ≤ 1000000) (hF : l.length < F) : ref00_SameInts F l l = some true := by
  unfold ref00_SameInts
  simp only [beq_self_eq_true, Bool.not_true, cond_false]
  exact same1 F l hl l.length F 0 rfl (Nat.zero_le _) (by omega)
end Go.Ev.RecordSpans
