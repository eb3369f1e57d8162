/- Triggers and clocks: what the program's checks say. -/
import Derived.Test.YtmdeiglnjimlnaaSearchVetoedMath3
namespace Go.Ev.SearchVetoed
open Go Go.Ev Go.Proofs
set_option linter.unusedVariables false
def trs : Int → List S_api_Trigger → Bool
  | _, [] => true
  | last, a :: r => (inR (last + 1) a.Time 1073741823 && (inR 0 a.Loud 1073741824 && inR 0 a.Template 255)) && trs a.Time r
def okT (l : List S_api_Trigger) : Bool := decide (l.length ≤ 256) && trs (-1) l
theorem are1 (F : Nat) (l : List S_api_Trigger) (hl : l.length ≤ 256) : ∀ (k N i : Nat) (last : Int), k = l.length - i → i ≤ l.length → k < N → -1 ≤ last → last ≤ 1073741823 →
    search_areTriggers_1 F N last l l.length i = some (trs last (l.drop i))
  | k, 0, i, last, _, _, h, _, _ => by omega
  | 0, N + 1, i, last, hk, hi, _, _, _ => by
    rw [search_areTriggers_1, bif_neg' (by omega : ¬ ((i : Int) < l.length)), List.drop_of_length_le (by omega)]
    rfl
  | k + 1, N + 1, i, last, hk, hi, hN, h1, h2 => by
    obtain ⟨a, ha⟩ := get_lt (l := l) (i := i) (by omega)
    rw [search_areTriggers_1, bif_pos' (by omega : ((i : Int) < l.length)), idx_nat, ha, bnd_eq, isFrom_eq, bnd_eq, w64_id (n := last + 1) (by omega) (by omega), drop_get ha, trs]
    cases e1 : inR (last + 1) a.Time 1073741823 with
    | false => simp only [Bool.not_false, cond_true, search_areTriggers_2, search_areTriggers_3, Bool.false_and]
    | true =>
      simp only [Bool.not_true, cond_false, isFrom_eq, bnd_eq, search_areTriggers_2, search_areTriggers_3, Bool.true_and]
      cases e2 : inR 0 a.Loud 1073741824 with
      | false => simp only [Bool.not_false, cond_true, Bool.false_and]
      | true =>
        simp only [Bool.not_true, cond_false, Bool.true_and]
        cases e3 : inR 0 a.Template 255 with
        | false => simp only [Bool.not_false, cond_true, Bool.false_and]
        | true =>
          have hb := inR_iff.1 e1
          simp only [Bool.not_true, cond_false, Bool.true_and]
          rw [up (by omega)]
          exact are1 F l hl k N (i + 1) a.Time (by omega) (by omega) (by omega) (by omega) (by omega)
theorem are_eq (F : Nat) (l : List S_api_Trigger) (hF : 256 < F) (hl : l.length ≤ 9223372036854775807) : search_areTriggers F l = some (okT l) := by
  unfold search_areTriggers okT
  by_cases h : (256 : Int) < l.length
  · rw [bif_pos' h, decide_eq_false (by omega)]
    rfl
  · have := are1 F l (by omega) l.length F 0 (-1) (by omega) (by omega) (by omega) (by omega) (by omega)
    rw [bif_neg' h, decide_eq_true (by omega), Bool.true_and]
    exact this
theorem chk1 (F : Nat) (hF : 256 < F) (L : List (List S_api_Trigger)) (hL : L.length ≤ 256) (hl : ∀ l ∈ L, l.length ≤ 9223372036854775807) : ∀ (k N i : Nat), k = L.length - i → i ≤ L.length → k < N →
    search_checkTriggers_1 F N L L.length i = some (bif (L.drop i).all okT then 0 else 80)
  | k, 0, i, _, _, h => by omega
  | 0, N + 1, i, hk, hi, _ => by
    rw [search_checkTriggers_1, bif_neg' (by omega : ¬ ((i : Int) < L.length)), List.drop_of_length_le (by omega)]
    rfl
  | k + 1, N + 1, i, hk, hi, hN => by
    obtain ⟨a, ha⟩ := get_lt (l := L) (i := i) (by omega)
    rw [search_checkTriggers_1, bif_pos' (by omega : ((i : Int) < L.length)), idx_nat, ha, bnd_eq, are_eq F a hF (hl a (List.mem_of_getElem? ha)), bnd_eq, drop_get ha, List.all_cons]
    cases e : okT a with
    | false => rfl
    | true =>
      simp only [Bool.not_true, cond_false, Bool.true_and]
      rw [up (by omega)]
      exact chk1 F hF L hL hl k N (i + 1) (by omega) (by omega) (by omega)
theorem chk_eq (F : Nat) (hF : 256 < F) (L : List (List S_api_Trigger)) (hL : L.length ≤ 256) (hl : ∀ l ∈ L, l.length ≤ 9223372036854775807) : search_checkTriggers F L = some (bif L.all okT then 0 else 80) := by
  unfold search_checkTriggers
  exact chk1 F hF L hL hl L.length F 0 (by omega) (by omega) (by omega)
def okC (c : S_search_clock) : Bool := (inR 1 c.live 1073741824 && (inR 0 c.window (c.live - 1) && inR 1 c.step c.live)) && ((Int.tmod c.live c.step == 0) && decide (Int.tdiv c.live c.step ≤ 256))
theorem tdiv_in {a b : Int} (h1 : 1 ≤ b) (h2 : b ≤ a) (h3 : a ≤ 1073741824) : 0 ≤ Int.tdiv a b ∧ Int.tdiv a b ≤ 1073741824 := by
  rw [Int.tdiv_eq_ediv_of_nonneg (by omega)]
  have h4 := Int.ediv_nonneg (show 0 ≤ a by omega) (show 0 ≤ b by omega)
  have h5 := Int.ediv_le_self b (show 0 ≤ a by omega)
  omega
theorem slides_eq (F : Nat) (c : S_search_clock) (h1 : 1 ≤ c.step) (h2 : c.step ≤ c.live) (h3 : c.live ≤ 1073741824) : search_clock_slides F c = some (Int.tdiv c.live c.step) := by
  have := tdiv_in h1 h2 h3
  unfold search_clock_slides
  rw [nz_ok (by omega), bnd_eq, w64_id (by omega) (by omega)]
theorem valid_eq (F : Nat) (c : S_search_clock) : search_clock_isValid F c = some (okC c) := by
  unfold search_clock_isValid okC
  rw [isFrom_eq, bnd_eq]
  cases e1 : inR 1 c.live 1073741824 with
  | false => rfl
  | true =>
    have hb := inR_iff.1 e1
    simp only [Bool.not_true, cond_false, isFrom_eq, bnd_eq, Bool.true_and]
    rw [w64_id (n := c.live - 1) (by omega) (by omega)]
    cases e2 : inR 0 c.window (c.live - 1) with
    | false => rfl
    | true =>
      simp only [Bool.not_true, cond_false, search_clock_isValid_1, isFrom_eq, bnd_eq, Bool.true_and]
      cases e3 : inR 1 c.step c.live with
      | false => rfl
      | true =>
        have hs := inR_iff.1 e3
        simp only [Bool.not_true, cond_false, search_clock_isValid_2]
        rw [nz_ok (by omega), bnd_eq, slides_eq F c (by omega) (by omega) (by omega), bnd_eq]
        cases (Int.tmod c.live c.step == 0) <;> rfl
def fit (T : Int) (l : List S_api_Trigger) : Bool := l.all fun a => decide (a.Time < T)
theorem fits1 (F : Nat) (l : List S_api_Trigger) (c : S_search_clock) (hl : l.length ≤ 9223372036854775807) : ∀ (k N i : Nat), k = l.length - i → i ≤ l.length → k < N →
    search_clock_fits_1 F N l l.length i c = some (fit c.live (l.drop i))
  | k, 0, i, _, _, h => by omega
  | 0, N + 1, i, hk, hi, _ => by
    rw [search_clock_fits_1, bif_neg' (by omega : ¬ ((i : Int) < l.length)), List.drop_of_length_le (by omega)]
    rfl
  | k + 1, N + 1, i, hk, hi, hN => by
    obtain ⟨a, ha⟩ := get_lt (l := l) (i := i) (by omega)
    rw [search_clock_fits_1, bif_pos' (by omega : ((i : Int) < l.length)), idx_nat, ha, bnd_eq, drop_get ha, fit, List.all_cons]
    by_cases h : c.live ≤ a.Time
    · rw [bif_pos' h, decide_eq_false (by omega : ¬ a.Time < c.live), decide_eq_true (by omega : (0 : Int) ≤ i)]
      rfl
    · rw [bif_neg' h, decide_eq_true (by omega : a.Time < c.live), up (by omega), fits1 F l c hl k N (i + 1) (by omega) (by omega) (by omega)]
      rfl
theorem fits_eq (F : Nat) (l : List S_api_Trigger) (c : S_search_clock) (hl : l.length ≤ 9223372036854775807) (hF : l.length < F) : search_clock_fits F c l = some (fit c.live l) := by
  unfold search_clock_fits
  exact fits1 F l c hl l.length F 0 (by omega) (by omega) (by omega)
theorem chkf1 (F : Nat) (c : S_search_clock) (L : List (List S_api_Trigger)) (hL : L.length ≤ 256) (hl : ∀ l ∈ L, l.length ≤ 9223372036854775807) (hF : ∀ l ∈ L, l.length < F) : ∀ (k N i : Nat), k = L.length - i → i ≤ L.length → k < N →
    search_clock_check_2 F N L L.length i false c = some (bif (L.drop i).all (fit c.live) then 0 else 81)
  | k, 0, i, _, _, h => by omega
  | 0, N + 1, i, hk, hi, _ => by
    rw [search_clock_check_2, bif_neg' (by omega : ¬ ((i : Int) < L.length)), List.drop_of_length_le (by omega)]
    rfl
  | k + 1, N + 1, i, hk, hi, hN => by
    obtain ⟨a, ha⟩ := get_lt (l := L) (i := i) (by omega)
    rw [search_clock_check_2, bif_pos' (by omega : ((i : Int) < L.length)), idx_nat, ha, bnd_eq, fits_eq F a c (hl a (List.mem_of_getElem? ha)) (hF a (List.mem_of_getElem? ha)), bnd_eq, drop_get ha, List.all_cons]
    cases e : fit c.live a with
    | false =>
      rw [decide_eq_true (by omega : (0 : Int) ≤ i)]
      rfl
    | true =>
      simp only [Bool.not_true, cond_false, Bool.true_and]
      rw [up (by omega)]
      exact chkf1 F c L hL hl hF k N (i + 1) (by omega) (by omega) (by omega)
theorem check_eq (F : Nat) (c : S_search_clock) (L : List (List S_api_Trigger)) (hF0 : 256 < F) (hL : L.length ≤ 256) (hl : ∀ l ∈ L, l.length ≤ 9223372036854775807) (hF : ∀ l ∈ L, l.length < F) :
    search_clock_check F c L = some (bif L.all okT then (bif okC c && L.all (fit c.live) then 0 else 81) else 80) := by
  unfold search_clock_check
  rw [chk_eq F hF0 L hL hl, bnd_eq]
  cases e : L.all okT with
  | false => rfl
  | true =>
    simp only [cond_true, beq_self_eq_true, Bool.not_true, cond_false]
    rw [valid_eq, bnd_eq]
    cases e2 : okC c with
    | false => rfl
    | true =>
      simp only [Bool.not_true, cond_false, Bool.true_and]
      exact chkf1 F c L hL hl hF L.length F 0 (by omega) (by omega) (by omega)
end Go.Ev.SearchVetoed
