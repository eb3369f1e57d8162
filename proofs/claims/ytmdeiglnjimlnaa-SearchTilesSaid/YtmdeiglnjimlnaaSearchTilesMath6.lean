/- Records: what the program's check says. -/
import Derived.Test.YtmdeiglnjimlnaaSearchTilesMath5
namespace Go.Ev.SearchTiles
open Go Go.Ev Go.Proofs
set_option linter.unusedVariables false
theorem areFrom1 (F : Nat) (l : List Int) (m : Int) (hl : l.length ≤ 9223372036854775807) (hm : 0 ≤ m ∧ m ≤ 1073741824) : ∀ (k N i : Nat), k = l.length - i → i ≤ l.length → k < N →
    search_areFrom_1 F N l l.length i m = some ((l.drop i).all fun x => inR (-m) x m)
  | k, 0, i, _, _, h => by omega
  | 0, N + 1, i, hk, hi, _ => by
    rw [search_areFrom_1, bif_neg' (by omega : ¬ ((i : Int) < l.length)), List.drop_of_length_le (by omega)]
    rfl
  | k + 1, N + 1, i, hk, hi, hN => by
    obtain ⟨x, hx⟩ := get_lt (l := l) (i := i) (by omega)
    rw [search_areFrom_1, bif_pos' (by omega : ((i : Int) < l.length)), idx_nat, hx, bnd_eq, w64_id (n := -m) (by omega) (by omega), isFrom_eq, bnd_eq, drop_get hx, List.all_cons]
    cases e : inR (-m) x m with
    | false =>
      rw [decide_eq_true (by omega : (0 : Int) ≤ i)]
      rfl
    | true =>
      simp only [Bool.not_true, cond_false, Bool.true_and]
      rw [up (by omega), areFrom1 F l m hl hm k N (i + 1) (by omega) (by omega) (by omega)]
def isRec (l : List Int) : Bool := decide (l.length ≤ 1024) && l.all fun x => inR (-16384) x 16384
theorem record_eq (F : Nat) (l : List Int) (hF : 1024 < F) (hl : l.length ≤ 9223372036854775807) : search_isRecord F l = some (isRec l) := by
  unfold search_isRecord isRec search_isRecord_1 search_areFrom
  by_cases h : (l.length : Int) ≤ 1024
  · have := areFrom1 F l 16384 hl ⟨by decide, by decide⟩ l.length F 0 rfl (Nat.zero_le _) (by omega)
    rw [List.drop_zero] at this
    rw [bif_pos' h, decide_eq_true (by omega), Bool.true_and]
    show bnd (search_areFrom_1 F F l l.length ((0 : Nat) : Int) 16384) _ = _
    rw [this]
    rfl
  · rw [bif_neg' h, decide_eq_false (by omega)]
    rfl
theorem isRec_ok {l : List Int} (h : isRec l = true) : l.length ≤ 1024 ∧ ∀ x ∈ l, -16384 ≤ x ∧ x ≤ 16384 := by
  rw [isRec, Bool.and_eq_true, decide_eq_true_eq] at h
  exact ⟨h.1, fun x hx => inR_iff.1 (List.all_eq_true.1 h.2 x hx)⟩
end Go.Ev.SearchTiles
