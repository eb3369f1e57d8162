/- Triggers and clocks: what the program's checks say. -/
import Derived.Test.YtcifnjdjnoadfaaSearchFindsMath2
namespace Go.Ev.SearchFinds
open Go Go.Ev Go.Proofs
set_option linter.unusedVariables false
def trs : Int → List S_api_Trigger → Bool
  | _, [] => true
  | last, a :: r => (inR (last + 1) a.Time 1073741823 && (inR 0 a.Loud 1073741824 && inR 0 a.Template 255)) && trs a.Time r
def okT (l : List S_api_Trigger) : Bool := decide (l.length ≤ 256) && trs (-1) l
theorem are1 (F : Nat) (l : List S_api_Trigger) (hl : l.length ≤ 256) : ∀ (k N i : Nat) (last : Int), k = l.length - i → i ≤ l.length → k < N → -1 ≤ last → last ≤ 1073741823 →
    search_areTriggers_1 F N last l l.length i = some (trs last (l.drop i))
  | k, 0, i, last, _, _, h, _, _ => by omega
  | 0, N + 1, i, last, hk, hi, _, _, _ => by
    rw [search_areTriggers_1, bif_neg' (by omega : ¬ ((i : Int) < l.length)), List.drop_of_length_le (by omega)]
    rfl
  | k + 1, N + 1, i, last, hk, hi, hN, h1, h2 => by
    obtain ⟨a, ha⟩ := get_lt (l := l) (i := i) (by omega)
    rw [search_areTriggers_1, bif_pos' (by omega : ((i : Int) < l.length)), idx_nat, ha, bnd_eq, isFrom_eq, bnd_eq, w64_id (n := last + 1) (by omega) (by omega), drop_get ha, trs]
    cases e1 : inR (last + 1) a.Time 1073741823 with
    | false => simp only [Bool.not_false, cond_true, search_areTriggers_2, search_areTriggers_3, Bool.false_and]
    | true =>
      simp only [Bool.not_true, cond_false, isFrom_eq, bnd_eq, search_areTriggers_2, search_areTriggers_3, Bool.true_and]
      cases e2 : inR 0 a.Loud 1073741824 with
      | false => simp only [Bool.not_false, cond_true, Bool.false_and]
      | true =>
        simp only [Bool.not_true, cond_false, Bool.true_and]
        cases e3 : inR 0 a.Template 255 with
        | false => simp only [Bool.not_false, cond_true, Bool.false_and]
        | true =>
          have hb := inR_iff.1 e1
          simp only [Bool.not_true, cond_false, Bool.true_and]
          rw [up (by omega)]
          exact are1 F l hl k N (i + 1) a.Time (by omega) (by omega) (by omega) (by omega) (by omega)
theorem are_eq (F : Nat) (l : List S_api_Trigger) (hF : 256 < F) (hl : l.length ≤ 9223372036854775807) : search_areTriggers F l = some (okT l) := by
  unfold search_areTriggers okT
  by_cases h : (256 : Int) < l.length
  · rw [bif_pos' h, decide_eq_false (by omega)]
    rfl
  · have := are1 F l (by omega) l.length F 0 (-1) (by omega) (by omega) (by omega) (by omega) (by omega)
    rw [bif_neg' h, decide_eq_true (by omega), Bool.true_and]
    exact this
theorem chk1 (F : Nat) (hF : 256 < F) (L : List (List S_api_Trigger)) (hL : L.length ≤ 256) (hl : ∀ l ∈ L, l.length ≤ 9223372036854775807) : ∀ (k N i : Nat), k = L.length - i → i ≤ L.length → k < N →
    search_checkTriggers_1 F N L L.length i = some (bif (L.drop i).all okT then 0 else 80)
  | k, 0, i, _, _, h => by omega
  | 0, N + 1, i, hk, hi, _ => by
    rw [search_checkTriggers_1, bif_neg' (by omega : ¬ ((i : Int) < L.length)), List.drop_of_length_le (by omega)]
    rfl
  | k + 1, N + 1, i, hk, hi, hN => by
    obtain ⟨a, ha⟩ := get_lt (l := L) (i := i) (by omega)
    rw [search_checkTriggers_1, bif_pos' (by omega : ((i : Int) < L.length)), idx_nat, ha, bnd_eq, are_eq F a hF (hl a (List.mem_of_getElem? ha)), bnd_eq, drop_get ha, List.all_cons]
    cases e : okT a with
    | false => rfl
    | true =>
      simp only [Bool.not_true, cond_false, Bool.true_and]
      rw [up (by omega)]
      exact chk1 F hF L hL hl k N (i + 1) (by omega) (by omega) (by omega)
theorem chk_eq (F : Nat) (hF : 256 < F) (L : List (List S_api_Trigger)) (hL : L.length ≤ 256) (hl : ∀ l ∈ L, l.length ≤ 9223372036854775807) : search_checkTriggers F L = some (bif L.all okT then 0 else 80) := by
  unfold search_checkTriggers
  exact chk1 F hF L hL hl L.length F 0 (by omega) (by omega) (by omega)
end Go.Ev.SearchFinds
