/- Waves: what the program's check says. -/
import Derived.Test.YtjddbfpinjjkkabGreatDoorSearchFilledMath3
namespace Go.Ev.SearchFilled
open Go Go.Ev Go.Proofs
set_option linter.unusedVariables false
def wOk (w : S_api_Wave) : Bool := inR (-64) w.Gain 64 && (inR 1 w.Samples.length 64 && w.Samples.all fun x => inR (-256) x 256)
def wvs (n : Int) : Int → List S_api_Wave → Bool
  | _, [] => true
  | last, w :: r => (wOk w && inR (last + 1) w.At (n - (w.Samples.length : Int))) && wvs n w.At r
def wavesB (n : Int) (ws : List S_api_Wave) : Bool := decide (ws.length ≤ 64) && wvs n (-1) ws
theorem isWave_eq (F : Nat) (w : S_api_Wave) (hF : 64 < F) : search_isWave F w = some (wOk w) := by
  unfold search_isWave wOk
  rw [isFrom_eq, bnd_eq]
  cases inR (-64) w.Gain 64 with
  | false => rfl
  | true =>
    rw [cond_true, isFrom_eq, bnd_eq]
    cases e : inR 1 w.Samples.length 64 with
    | false => rfl
    | true =>
      have := inR_iff.1 e
      have h := areFrom1 F w.Samples 256 (by omega) ⟨by decide, by decide⟩ w.Samples.length F 0 rfl (Nat.zero_le _) (by omega)
      rw [List.drop_zero] at h
      unfold search_isWave_1 search_areFrom
      show bnd (search_areFrom_1 F F w.Samples w.Samples.length ((0 : Nat) : Int) 256) _ = _
      rw [h]
      rfl
theorem wOk_len {w : S_api_Wave} (h : wOk w = true) : 1 ≤ w.Samples.length ∧ w.Samples.length ≤ 64 := by
  rw [wOk, Bool.and_eq_true, Bool.and_eq_true] at h
  have := inR_iff.1 h.2.1
  omega
theorem waves1 (F : Nat) (hF : 64 < F) (ws : List S_api_Wave) (hl : ws.length ≤ 64) (n : Int) (hn : 0 ≤ n ∧ n ≤ 1024) : ∀ (k N i : Nat) (last : Int), k = ws.length - i → i ≤ ws.length → k < N → -1 ≤ last → last ≤ 1024 →
    search_areWaves_1 F N n last ws ws.length i = some (wvs n last (ws.drop i))
  | k, 0, i, last, _, _, h, _, _ => by omega
  | 0, N + 1, i, last, hk, hi, _, _, _ => by
    rw [search_areWaves_1, bif_neg' (by omega : ¬ ((i : Int) < ws.length)), List.drop_of_length_le (by omega)]
    rfl
  | k + 1, N + 1, i, last, hk, hi, hN, h1, h2 => by
    obtain ⟨w, hw⟩ := get_lt (l := ws) (i := i) (by omega)
    rw [search_areWaves_1, bif_pos' (by omega : ((i : Int) < ws.length)), idx_nat, hw, bnd_eq, isWave_eq F w hF, bnd_eq, drop_get hw, wvs]
    unfold search_areWaves_2
    cases e : wOk w with
    | false => rfl
    | true =>
      have hlen := wOk_len e
      simp only [Bool.not_true, cond_false, Bool.true_and]
      rw [w64_id (n := last + 1) (by omega) (by omega), w64_id (n := n - _) (by omega) (by omega), isFrom_eq, bnd_eq]
      cases e2 : inR (last + 1) w.At (n - (w.Samples.length : Int)) with
      | false => rfl
      | true =>
        have := inR_iff.1 e2
        simp only [Bool.not_true, cond_false, Bool.true_and]
        rw [up (by omega), waves1 F hF ws hl n hn k N (i + 1) w.At (by omega) (by omega) (by omega) (by omega) (by omega)]
theorem waves_eq (F : Nat) (hF : 64 < F) (ws : List S_api_Wave) (n : Int) (hn : 0 ≤ n ∧ n ≤ 1024) : search_areWaves F ws n = some (wavesB n ws) := by
  unfold search_areWaves wavesB
  by_cases h : (64 : Int) < ws.length
  · rw [bif_pos' h, decide_eq_false (by omega)]
    rfl
  · rw [bif_neg' h, decide_eq_true (by omega), Bool.true_and]
    exact waves1 F hF ws (by omega) n hn ws.length F 0 (-1) rfl (Nat.zero_le _) (by omega) (by omega) (by omega)
theorem wvs_at {n : Int} : ∀ {ws : List S_api_Wave} {last : Int}, wvs n last ws = true → -1 ≤ last → ∀ w ∈ ws, wOk w = true ∧ 0 ≤ w.At ∧ w.At + (w.Samples.length : Int) ≤ n
  | [], _, _, _, w, h => by cases h
  | b :: r, last, h, h1, w, hw => by
    rw [wvs, Bool.and_eq_true, Bool.and_eq_true] at h
    have := inR_iff.1 h.1.2
    rcases List.mem_cons.1 hw with rfl | hw
    · exact ⟨h.1.1, by omega, by omega⟩
    · exact wvs_at h.2 (by omega) w hw
theorem wavesB_ok {n : Int} {ws : List S_api_Wave} (h : wavesB n ws = true) : ws.length ≤ 64 ∧ ∀ w ∈ ws, wOk w = true ∧ 0 ≤ w.At ∧ w.At + (w.Samples.length : Int) ≤ n := by
  rw [wavesB, Bool.and_eq_true, decide_eq_true_eq] at h
  exact ⟨h.1, wvs_at h.2 (by omega)⟩
end Go.Ev.SearchFilled
namespace Go.Ev.SearchFilled
open Go Go.Ev Go.Proofs
set_option linter.unusedVariables false
def chkW (x : List Int) (ws : List S_api_Wave) : Int := bif isRec x then (bif wavesB x.length ws then 0 else 83) else 82
theorem checkW_eq (F : Nat) (hF : 1024 < F) (x : List Int) (ws : List S_api_Wave) (hx : x.length ≤ 9223372036854775807) : search_checkWaves F x ws = some (chkW x ws) := by
  unfold search_checkWaves chkW
  rw [record_eq F x hF hx, bnd_eq]
  cases e : isRec x with
  | false => rfl
  | true =>
    have := (isRec_ok e).1
    simp only [Bool.not_true, cond_false, cond_true]
    rw [waves_eq F (by omega) ws x.length ⟨by omega, by omega⟩, bnd_eq]
    cases wavesB x.length ws <;> rfl
theorem chkW_0 {x : List Int} {ws : List S_api_Wave} (h : chkW x ws = 0) : isRec x = true ∧ wavesB x.length ws = true := by
  unfold chkW at h
  cases e : isRec x with
  | false => rw [e] at h; exact absurd (show (82 : Int) = 0 from h) (by decide)
  | true =>
    rw [e] at h
    cases e2 : wavesB x.length ws with
    | false => rw [e2] at h; exact absurd (show (83 : Int) = 0 from h) (by decide)
    | true => exact ⟨rfl, rfl⟩
def addS (q : Int) : List Int → Nat → List Int → List Int
  | l, _, [] => l
  | l, o, s :: r => addS q (l.set o (w64 (l[o]?.getD 0 + w64 (q * s)))) (o + 1) r
theorem addS_len (q : Int) : ∀ (S l : List Int) (o : Nat), (addS q l o S).length = l.length
  | [], l, o => rfl
  | s :: r, l, o => by rw [addS, addS_len q r, List.length_set]
def addAll (k : Int) : List Int → List S_api_Wave → List Int
  | l, [] => l
  | l, w :: r => addAll k (addS (w64 (k * w.Gain)) l w.At.toNat w.Samples) r
theorem addAll_len (k : Int) : ∀ (ws : List S_api_Wave) (l : List Int), (addAll k l ws).length = l.length
  | [], l => rfl
  | w :: r, l => by rw [addAll, addAll_len k r, addS_len]
theorem add2 (F : Nat) (hd : Int → (List S_api_Wave) → Int → Int → (List Int) → Option ((List Int))) (k : Int) (ws : List S_api_Wave) (n m : Int) (a g : Int) (S : List Int) (ha : 0 ≤ a) (hS : S.length ≤ 64) : ∀ (d N j : Nat) (l : List Int), d = S.length - j → j ≤ S.length → d < N → l.length ≤ 1024 → a + (S.length : Int) ≤ l.length →
    search_added_2 F hd N k ws n m S S.length j a g S l = hd k ws n (w64 (m + 1)) (addS (w64 (k * g)) l (a.toNat + j) (S.drop j))
  | d, 0, j, l, _, _, h, _, _ => by omega
  | 0, N + 1, j, l, hd', hj, _, _, _ => by
    rw [search_added_2, bif_neg' (by omega : ¬ ((j : Int) < S.length)), List.drop_of_length_le (by omega)]
    rfl
  | d + 1, N + 1, j, l, hd', hj, hN, hl, hal => by
    obtain ⟨s, hs⟩ := get_lt (l := S) (i := j) (by omega)
    obtain ⟨x, hx⟩ := get_lt (l := l) (i := a.toNat + j) (by omega)
    have e : w64 (a + (j : Int)) = ((a.toNat + j : Nat) : Int) := by rw [w64_id (by omega) (by omega)]; omega
    rw [search_added_2, bif_pos' (by omega : ((j : Int) < S.length)), idx_nat, hs, bnd_eq, e, idx_nat, hx, bnd_eq, inn_at (by omega), bnd_eq, upd_at (by omega), bnd_eq, up (by omega),
      add2 F hd k ws n m a g S ha hS d N (j + 1) _ (by omega) (by omega) (by omega) (by rw [List.length_set]; omega) (by rw [List.length_set]; omega), drop_get hs, addS, hx]
    rfl
theorem add1 (F : Nat) (hF : 64 < F) (k : Int) (ws : List S_api_Wave) (hws : ws.length ≤ 64) (t : Nat) (ht : t ≤ 1024) (hW : ∀ w ∈ ws, w.Samples.length ≤ 64 ∧ 0 ≤ w.At ∧ w.At + (w.Samples.length : Int) ≤ t) : ∀ (d N m : Nat) (l : List Int), d = ws.length - m → m ≤ ws.length → d < N → l.length = t →
    search_added_1 F N k ws ws.length m l = some (addAll k l (ws.drop m))
  | d, 0, m, l, _, _, h, _ => by omega
  | 0, N + 1, m, l, hd', hm, _, _ => by
    rw [search_added_1, bif_neg' (by omega : ¬ ((m : Int) < ws.length)), List.drop_of_length_le (by omega)]
    rfl
  | d + 1, N + 1, m, l, hd', hm, hN, hl => by
    obtain ⟨w, hw⟩ := get_lt (l := ws) (i := m) (by omega)
    obtain ⟨w1, w2, w3⟩ := hW w (List.mem_of_getElem? hw)
    have h2 := add2 F (search_added_1 F N) k ws ws.length m w.At w.Gain w.Samples w2 w1 w.Samples.length F 0 l rfl (Nat.zero_le _) (by omega) (by omega) (by omega)
    rw [List.drop_zero, Nat.add_zero] at h2
    rw [search_added_1, bif_pos' (by omega : ((m : Int) < ws.length)), idx_nat, hw, bnd_eq, drop_get hw, addAll]
    refine h2.trans ?_
    rw [up (by omega)]
    exact add1 F hF k ws hws t ht hW d N (m + 1) _ (by omega) (by omega) (by omega) (by rw [addS_len]; exact hl)
theorem waves_in {n : Int} {ws : List S_api_Wave} (h : wavesB n ws = true) : ws.length ≤ 64 ∧ ∀ w ∈ ws, w.Samples.length ≤ 64 ∧ 0 ≤ w.At ∧ w.At + (w.Samples.length : Int) ≤ n := by
  obtain ⟨h1, h2⟩ := wavesB_ok h
  exact ⟨h1, fun w hw => ⟨(wOk_len (h2 w hw).1).2, (h2 w hw).2.1, (h2 w hw).2.2⟩⟩
theorem added_eq (F : Nat) (hF : 1024 < F) (k : Int) (x : List Int) (ws : List S_api_Wave) (h : chkW x ws = 0) : search_added F x ws k = some (addAll k x ws) := by
  obtain ⟨h1, h2⟩ := chkW_0 h
  obtain ⟨w1, w2⟩ := waves_in h2
  have hx := (isRec_ok h1).1
  unfold search_added slices_Clone
  rw [apd_ok (by simp; omega) (by omega), bnd_eq, bnd_eq, List.nil_append]
  exact add1 F (by omega) k ws w1 x.length hx w2 ws.length F 0 x rfl (Nat.zero_le _) (by omega) rfl
def recR (l : List Int) : List Int × Int := bif isRec l then (l, 0) else ([], 8)
def injR (x : List Int) (ws : List S_api_Wave) : List Int × Int := bif chkW x ws == 0 then recR (addAll 1 x ws) else ([], chkW x ws)
theorem Inject_eq (F : Nat) (hF : 1024 < F) (x : List Int) (ws : List S_api_Wave) (hx : x.length ≤ 9223372036854775807) : search_Inject F x ws = some (injR x ws) := by
  unfold search_Inject injR
  rw [checkW_eq F hF x ws hx, bnd_eq]
  cases e : (chkW x ws == 0) with
  | false => rfl
  | true =>
    rw [beq_iff_eq] at e
    simp only [Bool.not_true, cond_false, cond_true]
    rw [added_eq F hF 1 x ws e, bnd_eq, record_eq F _ hF (by rw [addAll_len]; exact hx), bnd_eq]
    unfold recR
    cases isRec (addAll 1 x ws) <;> rfl
end Go.Ev.SearchFilled
namespace Go.Ev.SearchFilled
open Go Go.Ev Go.Proofs
set_option linter.unusedVariables false
def trs : Int → List S_api_Trigger → Bool
  | _, [] => true
  | last, a :: r => (inR (last + 1) a.Time 1073741823 && (inR 0 a.Loud 1073741824 && inR 0 a.Template 255)) && trs a.Time r
def okT (l : List S_api_Trigger) : Bool := decide (l.length ≤ 256) && trs (-1) l
theorem are1 (F : Nat) (l : List S_api_Trigger) (hl : l.length ≤ 256) : ∀ (k N i : Nat) (last : Int), k = l.length - i → i ≤ l.length → k < N → -1 ≤ last → last ≤ 1073741823 →
    search_areTriggers_1 F N last l l.length i = some (trs last (l.drop i))
  | k, 0, i, last, _, _, h, _, _ => by omega
  | 0, N + 1, i, last, hk, hi, _, _, _ => by
    rw [search_areTriggers_1, bif_neg' (by omega : ¬ ((i : Int) < l.length)), List.drop_of_length_le (by omega)]
    rfl
  | k + 1, N + 1, i, last, hk, hi, hN, h1, h2 => by
    obtain ⟨a, ha⟩ := get_lt (l := l) (i := i) (by omega)
    rw [search_areTriggers_1, bif_pos' (by omega : ((i : Int) < l.length)), idx_nat, ha, bnd_eq, isFrom_eq, bnd_eq, w64_id (n := last + 1) (by omega) (by omega), drop_get ha, trs]
    cases e1 : inR (last + 1) a.Time 1073741823 with
    | false => simp only [Bool.not_false, cond_true, search_areTriggers_2, search_areTriggers_3, Bool.false_and]
    | true =>
      simp only [Bool.not_true, cond_false, isFrom_eq, bnd_eq, search_areTriggers_2, search_areTriggers_3, Bool.true_and]
      cases e2 : inR 0 a.Loud 1073741824 with
      | false => simp only [Bool.not_false, cond_true, Bool.false_and]
      | true =>
        simp only [Bool.not_true, cond_false, Bool.true_and]
        cases e3 : inR 0 a.Template 255 with
        | false => simp only [Bool.not_false, cond_true, Bool.false_and]
        | true =>
          have hb := inR_iff.1 e1
          simp only [Bool.not_true, cond_false, Bool.true_and]
          rw [up (by omega)]
          exact are1 F l hl k N (i + 1) a.Time (by omega) (by omega) (by omega) (by omega) (by omega)
theorem are_eq (F : Nat) (l : List S_api_Trigger) (hF : 256 < F) (hl : l.length ≤ 9223372036854775807) : search_areTriggers F l = some (okT l) := by
  unfold search_areTriggers okT
  by_cases h : (256 : Int) < l.length
  · rw [bif_pos' h, decide_eq_false (by omega)]
    rfl
  · have := are1 F l (by omega) l.length F 0 (-1) (by omega) (by omega) (by omega) (by omega) (by omega)
    rw [bif_neg' h, decide_eq_true (by omega), Bool.true_and]
    exact this
theorem chk1 (F : Nat) (hF : 256 < F) (L : List (List S_api_Trigger)) (hL : L.length ≤ 256) (hl : ∀ l ∈ L, l.length ≤ 9223372036854775807) : ∀ (k N i : Nat), k = L.length - i → i ≤ L.length → k < N →
    search_checkTriggers_1 F N L L.length i = some (bif (L.drop i).all okT then 0 else 80)
  | k, 0, i, _, _, h => by omega
  | 0, N + 1, i, hk, hi, _ => by
    rw [search_checkTriggers_1, bif_neg' (by omega : ¬ ((i : Int) < L.length)), List.drop_of_length_le (by omega)]
    rfl
  | k + 1, N + 1, i, hk, hi, hN => by
    obtain ⟨a, ha⟩ := get_lt (l := L) (i := i) (by omega)
    rw [search_checkTriggers_1, bif_pos' (by omega : ((i : Int) < L.length)), idx_nat, ha, bnd_eq, are_eq F a hF (hl a (List.mem_of_getElem? ha)), bnd_eq, drop_get ha, List.all_cons]
    cases e : okT a with
    | false => rfl
    | true =>
      simp only [Bool.not_true, cond_false, Bool.true_and]
      rw [up (by omega)]
      exact chk1 F hF L hL hl k N (i + 1) (by omega) (by omega) (by omega)
theorem chk_eq (F : Nat) (hF : 256 < F) (L : List (List S_api_Trigger)) (hL : L.length ≤ 256) (hl : ∀ l ∈ L, l.length ≤ 9223372036854775807) : search_checkTriggers F L = some (bif L.all okT then 0 else 80) := by
  unfold search_checkTriggers
  exact chk1 F hF L hL hl L.length F 0 (by omega) (by omega) (by omega)
end Go.Ev.SearchFilled
