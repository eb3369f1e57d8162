/- Numbers within bounds: what the program's check says. -/
import Derived.Test.YtcifnjdjnoadfaaSearchFindsMath4
namespace Go.Ev.SearchFinds
open Go Go.Ev Go.Proofs
set_option linter.unusedVariables false
theorem areFrom1 (F : Nat) (l : List Int) (m : Int) (hl : l.length ≤ 9223372036854775807) (hm : 0 ≤ m ∧ m ≤ 1073741824) : ∀ (k N i : Nat), k = l.length - i → i ≤ l.length → k < N →
    search_areFrom_1 F N l l.length i m = some ((l.drop i).all fun x => inR (-m) x m)
  | k, 0, i, _, _, h => by omega
  | 0, N + 1, i, hk, hi, _ => by
    rw [search_areFrom_1, bif_neg' (by omega : ¬ ((i : Int) < l.length)), List.drop_of_length_le (by omega)]
    rfl
  | k + 1, N + 1, i, hk, hi, hN => by
    obtain ⟨x, hx⟩ := get_lt (l := l) (i := i) (by omega)
    rw [search_areFrom_1, bif_pos' (by omega : ((i : Int) < l.length)), idx_nat, hx, bnd_eq, w64_id (n := -m) (by omega) (by omega), isFrom_eq, bnd_eq, drop_get hx, List.all_cons]
    cases e : inR (-m) x m with
    | false =>
      rw [decide_eq_true (by omega : (0 : Int) ≤ i)]
      rfl
    | true =>
      simp only [Bool.not_true, cond_false, Bool.true_and]
      rw [up (by omega), areFrom1 F l m hl hm k N (i + 1) (by omega) (by omega) (by omega)]
end Go.Ev.SearchFinds
