/- Records: what the specification's check says. -/
import Derived.Test.YtcifnjdjnoadfaaSearchSealsMath3
namespace Go.Ev.SearchSeals
open Go Go.Ev Go.Proofs
set_option linter.unusedVariables false
theorem rrec1 (F : Nat) (l : List Int) (hl : l.length ≤ 9223372036854775807) : ∀ (k N i : Nat), k = l.length - i → i ≤ l.length → k < N →
    ref08_record_1 F N l i = some (decide (l.length ≤ 1024) && (l.drop i).all fun x => inR (-16384) x 16384)
  | k, 0, i, _, _, h => by omega
  | 0, N + 1, i, hk, hi, _ => by
    rw [ref08_record_1, bif_neg' (by omega : ¬ ((i : Int) < l.length)), List.drop_of_length_le (by omega), List.all_nil, Bool.and_true]
    congr 1
    exact decide_eq_decide.2 (by omega)
  | k + 1, N + 1, i, hk, hi, hN => by
    obtain ⟨x, hx⟩ := get_lt (l := l) (i := i) (by omega)
    rw [ref08_record_1, bif_pos' (by omega : ((i : Int) < l.length)), idx_nat, hx, bnd_eq, In_eq, bnd_eq, drop_get hx, List.all_cons]
    cases e : inR (-16384) x 16384 with
    | false => simp
    | true =>
      simp only [Bool.not_true, cond_false, Bool.true_and]
      rw [up (by omega), rrec1 F l hl k N (i + 1) (by omega) (by omega) (by omega)]
theorem rrecord_eq (F : Nat) (l : List Int) (hF : l.length < F) (hl : l.length ≤ 9223372036854775807) : ref08_record F l = some (isRec l) := by
  unfold ref08_record isRec
  have := rrec1 F l hl l.length F 0 rfl (Nat.zero_le _) hF
  rw [List.drop_zero] at this
  exact this
end Go.Ev.SearchSeals
