/- SearchFinds. -/
import Derived.Test.YtcifnjdjnoadfaaSearchFindsMath7
namespace Go.Ev.SearchFinds
open Go Go.Ev Go.Proofs
set_option linter.unusedVariables false
def near (win : Int) (w : S_api_Wave) (t : S_api_Trigger) : Bool := inR (w.At - win) t.Time (w.At + win)
def fnd (win : Int) (l : List S_api_Trigger) (ws : List S_api_Wave) : List Bool := ws.map fun w => l.any (near win w)
theorem fnd3 (F : Nat) (hd : (List S_api_Trigger) → (List S_api_Wave) → Int → Int → Int → (List Bool) → Option ((List Bool) × Int)) (l l' : List S_api_Trigger) (ws : List S_api_Wave) (w : S_api_Wave) (m n : Int) (win : Int) (acc : List Bool) (hacc : acc.length ≤ 64) (hl : l.length ≤ 256) (hw : 0 ≤ w.At ∧ w.At ≤ 1024) (hwin : 0 ≤ win ∧ win ≤ 1073741824) : ∀ (k N i : Nat), k = l.length - i → i ≤ l.length → k < N →
    search_Found_3 F hd N l l.length i l' ws n m w.At w.Gain w.Samples win acc = hd l' ws n (w64 (m + 1)) win (acc ++ [(l.drop i).any (near win w)])
  | k, 0, i, _, _, h => by omega
  | 0, N + 1, i, hk, hi, _ => by
    rw [search_Found_3, bif_neg' (by omega : ¬ ((i : Int) < l.length)), List.drop_of_length_le (by omega), apd_ok (by simp; omega) (by omega), bnd_eq]
    rfl
  | k + 1, N + 1, i, hk, hi, hN => by
    obtain ⟨t, ht⟩ := get_lt (l := l) (i := i) (by omega)
    rw [search_Found_3, bif_pos' (by omega : ((i : Int) < l.length)), idx_nat, ht, bnd_eq, w64_id (n := w.At - win) (by omega) (by omega), w64_id (n := w.At + win) (by omega) (by omega), isFrom_eq, bnd_eq, drop_get ht, List.any_cons]
    show (bif near win w t then _ else _) = _
    cases e : near win w t with
    | true =>
      rw [cond_true, decide_eq_true (by omega : (0 : Int) ≤ i), apd_ok (by simp; omega) (by omega), bnd_eq, Bool.true_or]
    | false =>
      rw [cond_false, up (by omega), fnd3 F hd l l' ws w m n win acc hacc hl hw hwin k N (i + 1) (by omega) (by omega) (by omega), Bool.false_or]
theorem fnd2 (F : Nat) (hF : 256 < F) (l : List S_api_Trigger) (ws : List S_api_Wave) (win : Int) (hl : l.length ≤ 256) (hws : ws.length ≤ 64) (hW : ∀ w ∈ ws, 0 ≤ w.At ∧ w.At ≤ 1024) (hwin : 0 ≤ win ∧ win ≤ 1073741824) : ∀ (k N m : Nat) (acc : List Bool), k = ws.length - m → m ≤ ws.length → k < N → acc.length ≤ m →
    search_Found_2 F N l ws ws.length m win acc = some (acc ++ fnd win l (ws.drop m), 0)
  | k, 0, m, acc, _, _, h, _ => by omega
  | 0, N + 1, m, acc, hk, hm, _, _ => by
    rw [search_Found_2, bif_neg' (by omega : ¬ ((m : Int) < ws.length)), List.drop_of_length_le (by omega)]
    show _ = some (acc ++ [], 0)
    rw [List.append_nil]
  | k + 1, N + 1, m, acc, hk, hm, hN, hacc => by
    obtain ⟨w, hw⟩ := get_lt (l := ws) (i := m) (by omega)
    have h3 := fnd3 F (search_Found_2 F N) l l ws w m ws.length win acc (by omega) hl (hW w (List.mem_of_getElem? hw)) hwin l.length F 0 rfl (Nat.zero_le _) (by omega)
    rw [List.drop_zero] at h3
    rw [search_Found_2, bif_pos' (by omega : ((m : Int) < ws.length)), idx_nat, hw, bnd_eq, drop_get hw]
    refine h3.trans ?_
    rw [up (by omega), fnd2 F hF l ws win hl hws hW hwin k N (m + 1) _ (by omega) (by omega) (by omega) (by simp; omega), List.append_assoc]
    rfl
def fndR (l : List S_api_Trigger) (ws : List S_api_Wave) (n win : Int) : List Bool × Int :=
  bif okT l then (bif inR 0 n 1024 && inR 0 win 1073741824 then (bif wavesB n ws then (fnd win l ws, 0) else ([], 83)) else ([], 8)) else ([], 80)
theorem okT_len {l : List S_api_Trigger} (h : okT l = true) : l.length ≤ 256 := by
  rw [okT, Bool.and_eq_true, decide_eq_true_eq] at h
  exact h.1
theorem Found_eq (F : Nat) (hF : 256 < F) (l : List S_api_Trigger) (ws : List S_api_Wave) (n win : Int) (hl : l.length ≤ 9223372036854775807) : search_Found F l ws n win = some (fndR l ws n win) := by
  unfold search_Found fndR
  rw [chk_eq F hF [l] (by simp) (by simp; omega), bnd_eq]
  simp only [List.all_cons, List.all_nil, Bool.and_true]
  cases e1 : okT l with
  | false => rfl
  | true =>
    simp only [cond_true, beq_self_eq_true, Bool.not_true, cond_false]
    rw [isFrom_eq, bnd_eq]
    cases e2 : inR 0 n 1024 with
    | false => rfl
    | true =>
      have hn := inR_iff.1 e2
      simp only [Bool.not_true, cond_false, Bool.true_and]
      rw [isFrom_eq, bnd_eq]
      cases e3 : inR 0 win 1073741824 with
      | false => rfl
      | true =>
        have hwin := inR_iff.1 e3
        unfold search_Found_1
        simp only [Bool.not_true, cond_false, cond_true]
        rw [waves_eq F (by omega) ws n hn, bnd_eq]
        cases e4 : wavesB n ws with
        | false => rfl
        | true =>
          obtain ⟨w1, w2⟩ := wavesB_ok e4
          simp only [Bool.not_true, cond_false, cond_true]
          exact fnd2 F hF l ws win (okT_len e1) w1 (fun w hw => by have := w2 w hw; omega) hwin ws.length F 0 [] rfl (Nat.zero_le _) (by omega) (Nat.zero_le _)
theorem trs_times : ∀ {l : List S_api_Trigger} {last : Int}, trs last l = true → -1 ≤ last → ∀ a ∈ l, 0 ≤ a.Time ∧ a.Time ≤ 1073741823
  | [], _, _, _, a, h => by cases h
  | b :: r, last, h, h1, a, ha => by
    rw [trs, Bool.and_eq_true, Bool.and_eq_true] at h
    have := inR_iff.1 h.1.1
    rcases List.mem_cons.1 ha with rfl | ha
    · omega
    · exact trs_times h.2 (by omega) a ha
theorem near_abs {win : Int} {w : S_api_Wave} {t : S_api_Trigger} (F : Nat) (hw : 0 ≤ w.At ∧ w.At ≤ 1024) (ht : 0 ≤ t.Time ∧ t.Time ≤ 1073741823) (hwin : 0 ≤ win ∧ win ≤ 1073741824) : ∃ r, ref00_Abs F (w64 (t.Time - w.At)) = some r ∧ decide (r ≤ win) = near win w t := by
  rw [w64_id (n := t.Time - w.At) (by omega) (by omega)]
  unfold ref00_Abs near inR
  by_cases h : t.Time - w.At < 0
  · refine ⟨-(t.Time - w.At), by rw [bif_pos' h, w64_id (by omega) (by omega)], ?_⟩
    rw [← Bool.decide_and]
    exact decide_eq_decide.2 (by omega)
  · refine ⟨t.Time - w.At, by rw [bif_neg' h], ?_⟩
    rw [← Bool.decide_and]
    exact decide_eq_decide.2 (by omega)
theorem rfnd3 (F : Nat) (hd : (List S_api_Trigger) → (List S_api_Wave) → Int → Int → (List Bool) → Option ((List Bool) × Int)) (l : List S_api_Trigger) (ws : List S_api_Wave) (w : S_api_Wave) (m : Nat) (hm : ws[m]? = some w) (win : Int) (acc : List Bool) (hacc : acc.length ≤ 64) (hl : l.length ≤ 256) (hT : ∀ a ∈ l, 0 ≤ a.Time ∧ a.Time ≤ 1073741823) (hw : 0 ≤ w.At ∧ w.At ≤ 1024) (hwin : 0 ≤ win ∧ win ≤ 1073741824) : ∀ (k N i : Nat) (f : Bool), k = l.length - i → i ≤ l.length → k < N →
    ref08_Found_3 F hd N l ws win m f i acc = hd l ws win (w64 ((m : Int) + 1)) (acc ++ [f || (l.drop i).any (near win w)])
  | k, 0, i, f, _, _, h => by omega
  | 0, N + 1, i, f, hk, hi, _ => by
    rw [ref08_Found_3, bif_neg' (by omega : ¬ ((i : Int) < l.length)), List.drop_of_length_le (by omega), apd_ok (by simp; omega) (by omega), bnd_eq, List.any_nil, Bool.or_false]
  | k + 1, N + 1, i, f, hk, hi, hN => by
    obtain ⟨t, ht⟩ := get_lt (l := l) (i := i) (by omega)
    have ih := fun f' => rfnd3 F hd l ws w m hm win acc hacc hl hT hw hwin k N (i + 1) f' (by omega) (by omega) (by omega)
    rw [ref08_Found_3, bif_pos' (by omega : ((i : Int) < l.length)), drop_get ht, List.any_cons]
    unfold ref08_Found_4
    rw [up (by omega)]
    cases f with
    | true =>
      rw [cond_true, ih true, Bool.true_or, Bool.true_or]
    | false =>
      obtain ⟨r, h1, h2⟩ := near_abs F hw (hT t (List.mem_of_getElem? ht)) hwin
      rw [cond_false, idx_nat, ht, bnd_eq, idx_nat, hm, bnd_eq, h1, bnd_eq, h2, ih, Bool.false_or]
theorem rfnd2 (F : Nat) (hF : 256 < F) (l : List S_api_Trigger) (ws : List S_api_Wave) (win : Int) (hl : l.length ≤ 256) (hws : ws.length ≤ 64) (hT : ∀ a ∈ l, 0 ≤ a.Time ∧ a.Time ≤ 1073741823) (hW : ∀ w ∈ ws, 0 ≤ w.At ∧ w.At ≤ 1024) (hwin : 0 ≤ win ∧ win ≤ 1073741824) : ∀ (k N m : Nat) (acc : List Bool), k = ws.length - m → m ≤ ws.length → k < N → acc.length ≤ m →
    ref08_Found_2 F N l ws win m acc = some (acc ++ fnd win l (ws.drop m), 0)
  | k, 0, m, acc, _, _, h, _ => by omega
  | 0, N + 1, m, acc, hk, hm, _, _ => by
    rw [ref08_Found_2, bif_neg' (by omega : ¬ ((m : Int) < ws.length)), List.drop_of_length_le (by omega)]
    show _ = some (acc ++ [], 0)
    rw [List.append_nil]
  | k + 1, N + 1, m, acc, hk, hm, hN, hacc => by
    obtain ⟨w, hw⟩ := get_lt (l := ws) (i := m) (by omega)
    have h3 := rfnd3 F (ref08_Found_2 F N) l ws w m hw win acc (by omega) hl hT (hW w (List.mem_of_getElem? hw)) hwin l.length F 0 false rfl (Nat.zero_le _) (by omega)
    rw [List.drop_zero, Bool.false_or] at h3
    rw [ref08_Found_2, bif_pos' (by omega : ((m : Int) < ws.length)), drop_get hw]
    refine h3.trans ?_
    rw [up (by omega), rfnd2 F hF l ws win hl hws hT hW hwin k N (m + 1) _ (by omega) (by omega) (by omega) (by simp; omega), List.append_assoc]
    rfl
theorem rFound_eq (F : Nat) (hF : 256 < F) (l : List S_api_Trigger) (ws : List S_api_Wave) (n win : Int) (hl : l.length ≤ 9223372036854775807) (hS : ∀ w ∈ ws, w.Samples.length ≤ 9223372036854775807) : ref08_Found F l ws n win = some (fndR l ws n win) := by
  unfold ref08_Found fndR
  rw [rChk_eq F l hF hl, bnd_eq]
  cases e1 : okT l with
  | false => rfl
  | true =>
    simp only [cond_true, beq_self_eq_true, Bool.not_true, cond_false]
    rw [In_eq, bnd_eq]
    cases e2 : inR 0 n 1024 with
    | false => rfl
    | true =>
      have hn := inR_iff.1 e2
      simp only [Bool.not_true, cond_false, Bool.true_and]
      rw [In_eq, bnd_eq]
      cases e3 : inR 0 win 1073741824 with
      | false => rfl
      | true =>
        have hwin := inR_iff.1 e3
        unfold ref08_Found_1
        simp only [Bool.not_true, cond_false, cond_true]
        rw [rwaves_eq F (by omega) ws hS n hn, bnd_eq]
        cases e4 : wavesB n ws with
        | false => rfl
        | true =>
          obtain ⟨w1, w2⟩ := wavesB_ok e4
          have ht := e1
          rw [okT, Bool.and_eq_true] at ht
          simp only [Bool.not_true, cond_false, cond_true]
          exact rfnd2 F hF l ws win (okT_len e1) w1 (trs_times ht.2 (by omega)) (fun w hw => by have := w2 w hw; omega) hwin ws.length F 0 [] rfl (Nat.zero_le _) (by omega) (Nat.zero_le _)
theorem bools1 (F : Nat) (l : List Bool) (hl : l.length ≤ 64) : ∀ (k N i : Nat), k = l.length - i → i ≤ l.length → k < N → ref00_SameBools_1 F N l l i = some true
  | k, 0, i, _, _, h => by omega
  | 0, N + 1, i, hk, hi, _ => by rw [ref00_SameBools_1, bif_neg' (by omega : ¬ ((i : Int) < l.length))]
  | k + 1, N + 1, i, hk, hi, hN => by
    obtain ⟨x, hx⟩ := get_lt (l := l) (i := i) (by omega)
    rw [ref00_SameBools_1, bif_pos' (by omega : ((i : Int) < l.length)), idx_nat, hx, bnd_eq, bnd_eq]
    simp only [beq_self_eq_true, Bool.not_true, cond_false]
    rw [up (by omega), bools1 F l hl k N (i + 1) (by omega) (by omega) (by omega)]
theorem bools_self (F : Nat) (l : List Bool) (hl : l.length ≤ 64) (hF : 64 < F) : ref00_SameBools F l l = some true := by
  unfold ref00_SameBools
  simp only [beq_self_eq_true, Bool.not_true, cond_false]
  exact bools1 F l hl l.length F 0 rfl (Nat.zero_le _) (by omega)
theorem fndR_len (l : List S_api_Trigger) (ws : List S_api_Wave) (n win : Int) : (fndR l ws n win).1.length ≤ 64 := by
  unfold fndR
  cases okT l with
  | false => exact Nat.zero_le _
  | true =>
    cases inR 0 n 1024 && inR 0 win 1073741824 with
    | false => exact Nat.zero_le _
    | true =>
      cases e : wavesB n ws with
      | false => exact Nat.zero_le _
      | true =>
        show (fnd win l ws).length ≤ 64
        unfold fnd
        rw [List.length_map]
        exact (wavesB_ok e).1
theorem law_eq (F : Nat) (l : List S_api_Trigger) (ws : List S_api_Wave) (c : S_ringdownlaw08_Range) (hl : l.length ≤ 9223372036854775807) (hws : ws.length ≤ 9223372036854775807) (hF : l.length + 1200 < F) (hF2 : ws.length + 1200 < F) (hS : ∀ w ∈ ws, w.Samples.length ≤ 9223372036854775807) (hw : works F = some true) : law08_SearchFinds F l ws c = some true := by
  unfold law08_SearchFinds
  rw [Found_eq F (by omega) l ws _ _ hl, bnd_eq, rFound_eq F (by omega) l ws _ _ hl hS, bnd_eq, bools_self F _ (fndR_len _ _ _ _) (by omega), bnd_eq]
  simp only [cond_true, beq_self_eq_true, law08_SearchFinds_1, law08_SearchFinds_2, hw, bnd_eq]
end Go.Ev.SearchFinds
