/- SearchFinds. -/
import Derived.Test.YtjddbfpinjjkkabGreatDoorSearchFilledMath6
namespace Go.Ev.SearchFilled
open Go Go.Ev Go.Proofs
set_option linter.unusedVariables false
def near (win : Int) (w : S_api_Wave) (t : S_api_Trigger) : Bool := inR (w.At - win) t.Time (w.At + win)
def fnd (win : Int) (l : List S_api_Trigger) (ws : List S_api_Wave) : List Bool := ws.map fun w => l.any (near win w)
theorem fnd3 (F : Nat) (hd : (List S_api_Trigger) → (List S_api_Wave) → Int → Int → Int → (List Bool) → Option ((List Bool) × Int)) (l l' : List S_api_Trigger) (ws : List S_api_Wave) (w : S_api_Wave) (m n : Int) (win : Int) (acc : List Bool) (hacc : acc.length ≤ 64) (hl : l.length ≤ 256) (hw : 0 ≤ w.At ∧ w.At ≤ 1024) (hwin : 0 ≤ win ∧ win ≤ 1073741824) : ∀ (k N i : Nat), k = l.length - i → i ≤ l.length → k < N →
    search_Found_3 F hd N l l.length i l' ws n m w.At w.Gain w.Samples win acc = hd l' ws n (w64 (m + 1)) win (acc ++ [(l.drop i).any (near win w)])
  | k, 0, i, _, _, h => by omega
  | 0, N + 1, i, hk, hi, _ => by
    rw [search_Found_3, bif_neg' (by omega : ¬ ((i : Int) < l.length)), List.drop_of_length_le (by omega), apd_ok (by simp; omega) (by omega), bnd_eq]
    rfl
  | k + 1, N + 1, i, hk, hi, hN => by
    obtain ⟨t, ht⟩ := get_lt (l := l) (i := i) (by omega)
    rw [search_Found_3, bif_pos' (by omega : ((i : Int) < l.length)), idx_nat, ht, bnd_eq, w64_id (n := w.At - win) (by omega) (by omega), w64_id (n := w.At + win) (by omega) (by omega), isFrom_eq, bnd_eq, drop_get ht, List.any_cons]
    show (bif near win w t then _ else _) = _
    cases e : near win w t with
    | true =>
      rw [cond_true, decide_eq_true (by omega : (0 : Int) ≤ i), apd_ok (by simp; omega) (by omega), bnd_eq, Bool.true_or]
    | false =>
      rw [cond_false, up (by omega), fnd3 F hd l l' ws w m n win acc hacc hl hw hwin k N (i + 1) (by omega) (by omega) (by omega), Bool.false_or]
theorem fnd2 (F : Nat) (hF : 256 < F) (l : List S_api_Trigger) (ws : List S_api_Wave) (win : Int) (hl : l.length ≤ 256) (hws : ws.length ≤ 64) (hW : ∀ w ∈ ws, 0 ≤ w.At ∧ w.At ≤ 1024) (hwin : 0 ≤ win ∧ win ≤ 1073741824) : ∀ (k N m : Nat) (acc : List Bool), k = ws.length - m → m ≤ ws.length → k < N → acc.length ≤ m →
    search_Found_2 F N l ws ws.length m win acc = some (acc ++ fnd win l (ws.drop m), 0)
  | k, 0, m, acc, _, _, h, _ => by omega
  | 0, N + 1, m, acc, hk, hm, _, _ => by
    rw [search_Found_2, bif_neg' (by omega : ¬ ((m : Int) < ws.length)), List.drop_of_length_le (by omega)]
    show _ = some (acc ++ [], 0)
    rw [List.append_nil]
  | k + 1, N + 1, m, acc, hk, hm, hN, hacc => by
    obtain ⟨w, hw⟩ := get_lt (l := ws) (i := m) (by omega)
    have h3 := fnd3 F (search_Found_2 F N) l l ws w m ws.length win acc (by omega) hl (hW w (List.mem_of_getElem? hw)) hwin l.length F 0 rfl (Nat.zero_le _) (by omega)
    rw [List.drop_zero] at h3
    rw [search_Found_2, bif_pos' (by omega : ((m : Int) < ws.length)), idx_nat, hw, bnd_eq, drop_get hw]
    refine h3.trans ?_
    rw [up (by omega), fnd2 F hF l ws win hl hws hW hwin k N (m + 1) _ (by omega) (by omega) (by omega) (by simp; omega), List.append_assoc]
    rfl
def fndR (l : List S_api_Trigger) (ws : List S_api_Wave) (n win : Int) : List Bool × Int :=
  bif okT l then (bif inR 0 n 1024 && inR 0 win 1073741824 then (bif wavesB n ws then (fnd win l ws, 0) else ([], 83)) else ([], 8)) else ([], 80)
theorem okT_len {l : List S_api_Trigger} (h : okT l = true) : l.length ≤ 256 := by
  rw [okT, Bool.and_eq_true, decide_eq_true_eq] at h
  exact h.1
theorem Found_eq (F : Nat) (hF : 256 < F) (l : List S_api_Trigger) (ws : List S_api_Wave) (n win : Int) (hl : l.length ≤ 9223372036854775807) : search_Found F l ws n win = some (fndR l ws n win) := by
  unfold search_Found fndR
  rw [chk_eq F hF [l] (by simp) (by simp; omega), bnd_eq]
  simp only [List.all_cons, List.all_nil, Bool.and_true]
  cases e1 : okT l with
  | false => rfl
  | true =>
    simp only [cond_true, beq_self_eq_true, Bool.not_true, cond_false]
    rw [isFrom_eq, bnd_eq]
    cases e2 : inR 0 n 1024 with
    | false => rfl
    | true =>
      have hn := inR_iff.1 e2
      simp only [Bool.not_true, cond_false, Bool.true_and]
      rw [isFrom_eq, bnd_eq]
      cases e3 : inR 0 win 1073741824 with
      | false => rfl
      | true =>
        have hwin := inR_iff.1 e3
        unfold search_Found_1
        simp only [Bool.not_true, cond_false, cond_true]
        rw [waves_eq F (by omega) ws n hn, bnd_eq]
        cases e4 : wavesB n ws with
        | false => rfl
        | true =>
          obtain ⟨w1, w2⟩ := wavesB_ok e4
          simp only [Bool.not_true, cond_false, cond_true]
          exact fnd2 F hF l ws win (okT_len e1) w1 (fun w hw => by have := w2 w hw; omega) hwin ws.length F 0 [] rfl (Nat.zero_le _) (by omega) (Nat.zero_le _)
end Go.Ev.SearchFilled
namespace Go.Ev.SearchFilled
open Go Go.Ev Go.Proofs
set_option linter.unusedVariables false
theorem bFrom_eq (F : Nat) (a b c : Int) : bank_isFrom F a b c = some (inR a b c) := by
  unfold bank_isFrom inR bank_isFrom_1
  by_cases h : a ≤ b <;> simp [h]
theorem bLength_eq (F : Nat) (a : Int) : bank_isLength F a = some (inR 4 a 64) := by
  unfold bank_isLength
  rw [bFrom_eq]
  rfl
theorem bPhase_eq (F : Nat) (a : Int) : bank_isPhase F a = some (inR 0 a 63) := by
  unfold bank_isPhase
  rw [bFrom_eq]
  rfl
theorem bChirp_eq (F : Nat) (c : S_api_Chirp) : bank_isChirp F c = some (inR 0 c.P 63 && inR 0 c.Q 63) := by
  unfold bank_isChirp bank_isChirp_1
  rw [bPhase_eq, bnd_eq, bPhase_eq]
  cases inR 0 c.P 63 <;> rfl
def okC (n : Int) (c : S_api_Chirp) : Bool := inR 4 n 64 && (inR 0 c.P 63 && inR 0 c.Q 63)
theorem bCheck_eq (F : Nat) (n : Int) (c : S_api_Chirp) : bank_CheckChirp F n c = some (bif okC n c then 0 else 70) := by
  unfold bank_CheckChirp bank_CheckChirp_1 okC
  rw [bLength_eq, bnd_eq, bChirp_eq]
  cases inR 4 n 64
  · rfl
  · show (bif !(inR 0 c.P 63 && inR 0 c.Q 63) then some (70 : Int) else some 0) = _
    cases (inR 0 c.P 63 && inR 0 c.Q 63) <;> rfl
def areD (l : List Int) : Bool := decide (l.length ≤ 512) && l.all fun x => inR (-32768) x 32768
theorem df1 (F : Nat) (x : Int) : bank_areData_f1 F x = some (!inR (-32768) x 32768) := by
  unfold bank_areData_f1
  rw [bFrom_eq]
  rfl
theorem ad1 (F : Nat) (l : List Int) (hl : l.length ≤ 512) : ∀ (k N i : Nat), k = l.length - i → i ≤ l.length → k < N → bank_areData_1 F N l l.length i true = some ((l.drop i).all fun x => inR (-32768) x 32768)
  | k, 0, i, _, _, h => by omega
  | 0, N + 1, i, hk, hi, _ => by
    rw [bank_areData_1, bif_neg' (by omega : ¬ ((i : Int) < l.length)), List.drop_of_length_le (by omega)]
    rfl
  | k + 1, N + 1, i, hk, hi, hN => by
    obtain ⟨x, hx⟩ := get_lt (l := l) (i := i) (by omega)
    have e : w64 ((i : Int) + 1) = ((i + 1 : Nat) : Int) := by rw [w64_id (by omega) (by omega)]; simp
    have ih := ad1 F l hl k N (i + 1) (by omega) (by omega) (by omega)
    rw [bank_areData_1, bif_pos' (by omega : ((i : Int) < l.length)), idx_nat, hx, bnd_eq, df1, bnd_eq, drop_get hx, List.all_cons, e, ih]
    cases inR (-32768) x 32768
    · have h0 : decide ((0 : Int) ≤ (i : Int)) = true := by simp
      simp only [Bool.not_false, cond_true, h0, Bool.not_true, Bool.false_and]
      rfl
    · rfl
theorem areData_eq (F : Nat) (hF : 512 < F) (l : List Int) : bank_areData F l = some (areD l) := by
  unfold bank_areData areD
  by_cases h : l.length ≤ 512
  · have h' : decide ((l.length : Int) ≤ 512) = true := by simp; omega
    have := ad1 F l h l.length F 0 (by omega) (by omega) (by omega)
    rw [h']
    simp only [cond_true, h, decide_true, Bool.true_and]
    exact this
  · have h' : decide ((l.length : Int) ≤ 512) = false := by simp; omega
    rw [h']
    simp [h, bank_areData_2]
theorem inA_nat {j n : Nat} (h : j < n) {k : Int} (hk : k = j) : inA k n = some j := by
  subst hk
  show (bif Nat.blt j n then some j else none) = _
  rw [show Nat.blt j n = true from Nat.ble_eq_true_of_le h]
  rfl
def tr (x : Nat) : Int := if 16 < x then tab0.getD (32 - x) 0 else tab0.getD x 0
def tq (x : Nat) : Int := if 32 ≤ x then -(tr (x - 32)) else tr x
theorem tq_in : ∀ x : Fin 64, -127 ≤ tq x.val ∧ tq x.val ≤ 127 := by decide
theorem tab_get {j : Nat} (h : j < 17) : tab0[j]? = some (tab0.getD j 0) := by
  have : j < tab0.length := h
  rw [List.getElem?_eq_getElem this, List.getD_eq_getElem?_getD, List.getElem?_eq_getElem this]
  rfl
theorem table0 (F x : Nat) (h : x < 32) : bank_table (F + 1) (x : Int) = some (tr x) := by
  have e16 : w64 (Int.tdiv (32 : Int) (2 : Int)) = 16 := by decide
  rw [bank_table, bif_neg' (by omega : ¬ ((32 : Int) ≤ x)), e16]
  unfold tr
  by_cases hx : (16 : Int) < x
  · have e : w64 ((32 : Int) - x) = ((32 - x : Nat) : Int) := by rw [w64_id (by omega) (by omega)]; omega
    rw [bif_pos' hx, e, inA_nat (j := 32 - x) (by omega) rfl, bnd_eq, tab_get (by omega), bnd_eq, if_pos (by omega)]
  · rw [bif_neg' hx, inA_nat (j := x) (by omega) rfl, bnd_eq, tab_get (by omega), bnd_eq, if_neg (by omega)]
theorem table_eq (F x : Nat) (hF : 2 ≤ F) (h : x < 64) : bank_table F (x : Int) = some (tq x) := by
  obtain ⟨G, rfl⟩ : ∃ G, F = G + 2 := ⟨F - 2, by omega⟩
  have hq := tq_in ⟨x, h⟩
  unfold tq at hq ⊢
  by_cases hx : x < 32
  · rw [if_neg (by omega)]
    exact table0 (G + 1) x hx
  · have e : w64 ((x : Int) - 32) = ((x - 32 : Nat) : Int) := by rw [w64_id (by omega) (by omega)]; omega
    simp only [if_pos (show 32 ≤ x by omega)] at hq
    rw [bank_table, bif_pos' (by omega : (32 : Int) ≤ x), e, table0 G (x - 32) (by omega), bnd_eq, if_pos (by omega), w64_id (by omega) (by omega)]
def wv (c : S_api_Chirp) (i : Nat) : Int := tq ((c.P * i + c.Q * i * i).toNat % 64)
theorem wv_in (c : S_api_Chirp) (i : Nat) : -127 ≤ wv c i ∧ wv c i ≤ 127 := tq_in ⟨(c.P * i + c.Q * i * i).toNat % 64, Nat.mod_lt _ (by omega)⟩
def wvL (c : S_api_Chirp) (n : Nat) : List Int := (List.range n).map (wv c)
theorem wvL_len (c : S_api_Chirp) (n : Nat) : (wvL c n).length = n := by simp [wvL]
theorem wv_arg (c : S_api_Chirp) (hP : 0 ≤ c.P ∧ c.P ≤ 63) (hQ : 0 ≤ c.Q ∧ c.Q ≤ 63) (i : Nat) (hi : i < 64) (F : Nat) (hF : 2 ≤ F) : bank_table F (Int.tmod (w64 (w64 (c.P * i) + w64 (w64 (c.Q * i) * i))) 64) = some (wv c i) := by
  have b1 : 0 ≤ c.P * i ∧ c.P * i ≤ 4032 := by
    have h1 := Int.mul_nonneg hP.1 (show (0 : Int) ≤ i by omega)
    have h2 : c.P * i ≤ 63 * 64 := Int.mul_le_mul hP.2 (by omega) (by omega) (by omega)
    omega
  have b2 : 0 ≤ c.Q * i ∧ c.Q * i ≤ 4032 := by
    have h1 := Int.mul_nonneg hQ.1 (show (0 : Int) ≤ i by omega)
    have h2 : c.Q * i ≤ 63 * 64 := Int.mul_le_mul hQ.2 (by omega) (by omega) (by omega)
    omega
  have b3 : 0 ≤ c.Q * i * i ∧ c.Q * i * i ≤ 258048 := by
    have h1 := Int.mul_nonneg b2.1 (show (0 : Int) ≤ i by omega)
    have h2 : c.Q * i * i ≤ 4032 * 64 := Int.mul_le_mul b2.2 (by omega) (by omega) (by omega)
    omega
  have e1 : w64 (w64 (c.P * i) + w64 (w64 (c.Q * i) * i)) = c.P * i + c.Q * i * i := by
    rw [w64_id (n := c.P * i) (by omega) (by omega), w64_id (n := c.Q * i) (by omega) (by omega), w64_id (n := c.Q * i * i) (by omega) (by omega), w64_id (by omega) (by omega)]
  obtain ⟨m, hm⟩ : ∃ m : Nat, c.P * i + c.Q * i * i = m := ⟨(c.P * i + c.Q * i * i).toNat, by omega⟩
  have e2 : Int.tmod (m : Int) 64 = ((m % 64 : Nat) : Int) := rfl
  unfold wv
  rw [e1, hm, e2, table_eq F (m % 64) hF (Nat.mod_lt _ (by omega)), Int.toNat_natCast]
theorem samples_eq (F : Nat) {l : List Int} {n : Nat} (hn : n ≤ 64) (hl : l.length = 66) (h : l[64]? = some (n : Int)) : bank_wave_samples F l = some (l.take n) := by
  unfold bank_wave_samples
  rw [h, bnd_eq]
  have : cutA 64 l 0 (n : Int) = some (l.take n) := by
    show (bif Nat.ble n 64 && Nat.ble (0 + n) l.length then some ((l.drop 0).take n) else none) = _
    rw [show Nat.ble n 64 = true from Nat.ble_eq_true_of_le hn, show Nat.ble (0 + n) l.length = true from Nat.ble_eq_true_of_le (by omega)]
    rfl
  rw [this]
  rfl
theorem samplesH_eq (F : Nat) {l : List Int} {n : Nat} (hn : n ≤ 64) (hl : l.length = 66) (h : l[64]? = some (n : Int)) : bank_wave_samples_h1 F l = some (l.take n) := by
  unfold bank_wave_samples_h1
  have e := subP_ok (len := 64) (a := 0) (b := n) (lo := 0) (hi := (n : Int)) rfl rfl (by omega) hn
  rw [h, bnd_eq, e, bnd_eq, parL_ok (by simp; omega), bnd_eq]
  simp
def dot : List Int → List Int → Int
  | a :: l, b :: k => a * b + dot l k
  | _, _ => 0
theorem p1 (F : Nat) (a b : List Int) (hab : a.length = b.length) (hl : a.length ≤ 9223372036854775806) : ∀ (k N i : Nat) (s : Int), k = a.length - i → i ≤ a.length → k < N → bank_product_1 F N b (w64 s) a a.length i = some (w64 (s + dot (a.drop i) (b.drop i)))
  | k, 0, i, s, _, _, h => by omega
  | 0, N + 1, i, s, hk, hi, _ => by
    rw [bank_product_1, bif_neg' (by omega : ¬ ((i : Int) < a.length)), List.drop_of_length_le (by omega)]
    simp [dot]
  | k + 1, N + 1, i, s, hk, hi, hN => by
    obtain ⟨x, hx⟩ := get_lt (l := a) (i := i) (by omega)
    obtain ⟨y, hy⟩ := get_lt (l := b) (i := i) (by omega)
    have e : w64 ((i : Int) + 1) = ((i + 1 : Nat) : Int) := by rw [w64_id (by omega) (by omega)]; simp
    have ih := p1 F a b hab hl k N (i + 1) (s + x * y) (by omega) (by omega) (by omega)
    rw [bank_product_1, bif_pos' (by omega : ((i : Int) < a.length)), idx_nat, hx, bnd_eq, idx_nat, hy, bnd_eq, e, w64_addR, w64_addL, ih, drop_get hx, drop_get hy, dot, Int.add_assoc]
theorem dot_take : ∀ a b : List Int, dot (a.take (min a.length b.length)) (b.take (min a.length b.length)) = dot a b
  | [], b => by simp [dot]
  | a :: l, [] => by simp [dot]
  | a :: l, b :: k => by
    simp only [List.length_cons, Nat.succ_min_succ, List.take_succ_cons, dot, dot_take l k]
theorem product_eq (F : Nat) (a b : List Int) (hF : a.length < F) (hl : a.length ≤ 9223372036854775806) : bank_product F a b = some (w64 (dot a b)) := by
  unfold bank_product
  have hm : min (a.length : Int) (b.length : Int) = ((min a.length b.length : Nat) : Int) := by omega
  rw [subc0 a (min a.length b.length) (by omega) hm, bnd_eq, subc0 b (min a.length b.length) (by omega) hm, bnd_eq]
  have := p1 F (a.take (min a.length b.length)) (b.take (min a.length b.length)) (by simp) (by simp; omega) (a.take (min a.length b.length)).length F 0 0 (by omega) (by omega) (by simp; omega)
  rw [List.drop_zero, List.drop_zero, dot_take, Int.zero_add] at this
  exact this
def outF (h d : List Int) : Nat → Nat → List Int
  | 0, _ => []
  | k + 1, t => w64 (dot h (d.drop t)) :: outF h d k (t + 1)
theorem outF_len (h d : List Int) : ∀ k t, (outF h d k t).length = k
  | 0, _ => rfl
  | k + 1, t => by rw [outF, List.length_cons, outF_len h d k]
theorem outF_get (h d : List Int) : ∀ (k t i : Nat), i < k → (outF h d k t)[i]? = some (w64 (dot h (d.drop (t + i))))
  | k + 1, t, 0, _ => rfl
  | k + 1, t, i + 1, hi => by
    rw [outF, List.getElem?_cons_succ, outF_get h d k (t + 1) i (by omega), show t + 1 + i = t + (i + 1) by omega]
theorem okC_iff {n : Int} {c : S_api_Chirp} (h : okC n c = true) : (4 ≤ n ∧ n ≤ 64) ∧ (0 ≤ c.P ∧ c.P ≤ 63) ∧ 0 ≤ c.Q ∧ c.Q ≤ 63 := by
  unfold okC at h
  rw [Bool.and_eq_true, Bool.and_eq_true] at h
  exact ⟨inR_iff.1 h.1, inR_iff.1 h.2.1, inR_iff.1 h.2.2⟩
end Go.Ev.SearchFilled
