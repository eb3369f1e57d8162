/- Find. -/
import Derived.Test.YtbpnoedmnkalpaaGreatDoorRecordSpansMath6
namespace Go.Ev.RecordSpans
open Go Go.Ev Go.Proofs
set_option linter.unusedVariables false
theorem find1 (F : Nat) (l : List Int) (x : Int) (hl : l.length ≤ 9223372036854775807) : ∀ (k N i : Nat), k = l.length - i → i ≤ l.length → k < N → ∃ r, ref00_Find_1 F N l x i = some r ∧ (0 ≤ r ↔ x ∈ l.drop i) ∧ -1 ≤ r
  | k, 0, i, _, _, h => by omega
  | 0, N + 1, i, hk, hi, _ => by
    rw [ref00_Find_1, bif_neg' (by omega), List.drop_of_length_le (by omega)]
    exact ⟨-1, rfl, by simp, by omega⟩
  | k + 1, N + 1, i, hk, hi, hN => by
    obtain ⟨y, hy⟩ := get_lt (l := l) (i := i) (by omega)
    rw [ref00_Find_1, bif_pos' (by omega), idx_nat, hy, bnd_eq, drop_get hy]
    cases e : y == x with
    | true =>
      have : y = x := eq_of_beq e
      subst this
      exact ⟨i, rfl, by simp, by omega⟩
    | false =>
      have hne : x ≠ y := fun h => by rw [h, beq_self_eq_true] at e; simp at e
      obtain ⟨r, h1, h2, h3⟩ := find1 F l x hl k N (i + 1) (by omega) (by omega) (by omega)
      rw [cond_false, up (by omega)]
      exact ⟨r, h1, by rw [h2, List.mem_cons]; exact ⟨.inr, fun h => h.resolve_left hne⟩, h3⟩
theorem find_eq (F : Nat) (l : List Int) (x : Int) (hl : l.length ≤ 9223372036854775807) (hF : l.length < F) : ∃ r, ref00_Find F l x = some r ∧ (0 ≤ r ↔ x ∈ l) ∧ -1 ≤ r := find1 F l x hl l.length F 0 rfl (by omega) (by omega)
end Go.Ev.RecordSpans
