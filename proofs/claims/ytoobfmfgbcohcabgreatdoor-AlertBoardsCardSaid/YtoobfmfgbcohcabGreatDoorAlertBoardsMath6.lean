/- Versions that follow, on both sides. -/
import Derived.Test.YtoobfmfgbcohcabGreatDoorAlertBoardsMath5
namespace Go.Ev.AlertBoards
open Go Go.Ev Go.Proofs
set_option linter.unusedVariables false
theorem apd8 {l : List Int} (h : l.length ≤ 17592186044416) : apd 8 ([] : List Int) l = some l := by
 unfold apd
 simp only [List.length_nil, Nat.zero_add, List.nil_append]
 rw [Nat.ble_eq_true_of_le (by omega), Nat.ble_eq_true_of_le (by omega)]
 rfl
theorem ver_up {a : S_api_Alert} (h : Fine a) : w64 (a.Version + 1) = a.Version + 1 := by
 have := small_iff.1 h.v
 exact w64_id (by omega) (by omega)
theorem sm1 (F : Nat) (l : List Int) (hl : l.length ≤ 9223372036854775807) : ∀ (n N i : Nat), n = l.length - i → i ≤ l.length → n < N → ref00_SameInts_1 F N l l i = some true
 | n, 0, i, _, _, h => by omega
 | 0, N + 1, i, hn, hi, _ => by rw [ref00_SameInts_1, bif_neg' (by omega)]
 | n + 1, N + 1, i, hn, hi, hN => by
  obtain ⟨x, hx⟩ := get_lt (l := l) (i := i) (by omega)
  rw [ref00_SameInts_1, bif_pos' (by omega), idx_nat, hx, bnd_eq, bnd_eq, beq_self_eq_true, Bool.not_true, cond_false, up (by omega), sm1 F l hl n N (i + 1) (by omega) (by omega) (by omega)]
theorem sameInts_self (F : Nat) (l : List Int) (hl : l.length ≤ 9223372036854775807) (hF : l.length < F) : ref00_SameInts F l l = some true := by
 unfold ref00_SameInts
 rw [beq_self_eq_true, Bool.not_true, cond_false]
 exact sm1 F l hl l.length F 0 rfl (by omega) hF
theorem same_self (F : Nat) (a : S_api_Alert) (hl : a.Cells.length ≤ 9223372036854775807) (hF : a.Cells.length < F) : law10_same F a a = some true := by
 unfold law10_same ref10_Same ref10_Same_1 ref10_Same_2 ref10_Same_3 ref10_Same_4 ref10_Same_5 ref10_Same_6 ref10_Same_7
 rw [sameInts_self F _ hl hF, bnd_eq]
 simp only [beq_self_eq_true, cond_true, Bool.and_self, bnd_eq]
end Go.Ev.AlertBoards
