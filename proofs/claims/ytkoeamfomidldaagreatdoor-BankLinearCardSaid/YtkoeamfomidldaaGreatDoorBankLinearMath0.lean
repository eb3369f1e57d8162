/- The filter of a wave is linear in the data, modulo wrapping: the law of it is true. -/
import Derived.Test.YtkoeamfomidldaaGreatDoorBankLinearPlain
namespace Go.Ev.BankLinear
open Go Go.Ev Go.Proofs
set_option linter.unusedVariables false
theorem w64_id {n : Int} (h1 : -9223372036854775808 ≤ n) (h2 : n ≤ 9223372036854775807) : w64 n = n := wrap_in .i64 n h1 h2
theorem w64_nat {n : Nat} (h2 : n ≤ 9223372036854775807) : w64 (n : Int) = (n : Int) := w64_id (by omega) (by omega)
theorem idx_nat {α : Type} (l : List α) (i : Nat) : idx l (i : Int) = l[i]? := rfl
theorem bnd_eq {α β : Type} (a : α) (f : α → Option β) : bnd (some a) f = f a := rfl
theorem bif_pos' {p : Prop} [Decidable p] (h : p) {α : Type} (x y : α) : (bif decide p then x else y) = x := by simp [h]
theorem bif_neg' {p : Prop} [Decidable p] (h : ¬ p) {α : Type} (x y : α) : (bif decide p then x else y) = y := by simp [h]
theorem subc0 {α : Type} (l : List α) (b : Nat) (h1 : b ≤ l.length) {j : Int} (hj : j = b) : sub l 0 j = some (l.take b) := by
  subst hj
  show (bif decide (0 ≤ b) && decide (b ≤ l.length) then some ((l.take b).drop 0) else none) = _
  simp [h1]
theorem subcL {α : Type} (l : List α) (a : Nat) (h1 : a ≤ l.length) {j : Int} (hj : j = a) : sub l j l.length = some (l.drop a) := by
  subst hj
  show (bif decide (a ≤ l.length) && decide (l.length ≤ l.length) then some ((l.take l.length).drop a) else none) = _
  simp [h1]
theorem upd_at {α : Type} {l : List α} {i : Nat} (h : i < l.length) (a : α) : upd l (i : Int) a = some (l.set i a) := by
  show (bif Nat.blt i l.length then some (l.set i a) else none) = _
  rw [show Nat.blt i l.length = true from Nat.ble_eq_true_of_le h]
  rfl
theorem apd_eq {α : Type} {l l' : List α} (h : l.length + l'.length ≤ 17592186044000) : apd 8 l l' = some (l ++ l') := by
  unfold apd
  rw [show Nat.ble (l.length + l'.length) 4611686018427387904 = true from Nat.ble_eq_true_of_le (by omega), show Nat.ble (2 * (l.length + l'.length) * 8) 281474976710656 = true from Nat.ble_eq_true_of_le (by omega)]
  rfl
theorem drop_get {α : Type} {l : List α} {i : Nat} {a : α} (h : l[i]? = some a) : l.drop i = a :: l.drop (i + 1) := by
  obtain ⟨hi, rfl⟩ := List.getElem?_eq_some_iff.1 h
  exact List.drop_eq_getElem_cons hi
theorem get_lt {α : Type} {l : List α} {i : Nat} (h : i < l.length) : ∃ a, l[i]? = some a := ⟨l[i], List.getElem?_eq_getElem h⟩
theorem w64_ex (n : Int) : ∃ p : Int, w64 n = n + 18446744073709551616 * p := by
  unfold w64 IntKind.wrap
  simp [IntKind.bits, IntKind.signed]
  split
  · exact ⟨-(n / 18446744073709551616) - 1, by omega⟩
  · exact ⟨-(n / 18446744073709551616), by omega⟩
theorem w64_cong {a b p : Int} (h : a = b + 18446744073709551616 * p) : w64 a = w64 b := by
  subst h
  unfold w64 IntKind.wrap
  simp [IntKind.bits, IntKind.signed]
theorem w64_addR (a b : Int) : w64 (a + w64 b) = w64 (a + b) := by
  obtain ⟨p, h⟩ := w64_ex b
  exact w64_cong (p := p) (by rw [h]; omega)
theorem w64_addL (a b : Int) : w64 (w64 a + b) = w64 (a + b) := by
  obtain ⟨p, h⟩ := w64_ex a
  exact w64_cong (p := p) (by rw [h]; omega)
def inR (a b c : Int) : Bool := decide (a ≤ b) && decide (b ≤ c)
theorem isFrom_eq (F : Nat) (a b c : Int) : bank_isFrom F a b c = some (inR a b c) := by
  unfold bank_isFrom inR bank_isFrom_1
  by_cases h : a ≤ b <;> simp [h]
theorem isLength_eq (F : Nat) (a : Int) : bank_isLength F a = some (inR 4 a 64) := by
  unfold bank_isLength
  rw [isFrom_eq]
  rfl
theorem isPhase_eq (F : Nat) (a : Int) : bank_isPhase F a = some (inR 0 a 63) := by
  unfold bank_isPhase
  rw [isFrom_eq]
  rfl
theorem isChirp_eq (F : Nat) (c : S_api_Chirp) : bank_isChirp F c = some (inR 0 c.P 63 && inR 0 c.Q 63) := by
  unfold bank_isChirp bank_isChirp_1
  rw [isPhase_eq, bnd_eq, isPhase_eq]
  cases inR 0 c.P 63 <;> rfl
def okC (n : Int) (c : S_api_Chirp) : Bool := inR 4 n 64 && (inR 0 c.P 63 && inR 0 c.Q 63)
theorem check_eq (F : Nat) (n : Int) (c : S_api_Chirp) : bank_CheckChirp F n c = some (bif okC n c then 0 else 70) := by
  unfold bank_CheckChirp bank_CheckChirp_1 okC
  rw [isLength_eq, bnd_eq, isChirp_eq]
  cases inR 4 n 64
  · rfl
  · show (bif !(inR 0 c.P 63 && inR 0 c.Q 63) then some (70 : Int) else some 0) = _
    cases (inR 0 c.P 63 && inR 0 c.Q 63) <;> rfl
def areD (l : List Int) : Bool := decide (l.length ≤ 512) && l.all fun x => inR (-32768) x 32768
theorem ad1 (F : Nat) (l : List Int) (hl : l.length ≤ 512) : ∀ (k N i : Nat), k = l.length - i → i ≤ l.length → k < N → bank_areData_1 F N l l.length i true = some ((l.drop i).all fun x => inR (-32768) x 32768)
  | k, 0, i, _, _, h => by omega
  | 0, N + 1, i, hk, hi, _ => by
    rw [bank_areData_1, bif_neg' (by omega : ¬ ((i : Int) < l.length)), List.drop_of_length_le (by omega)]
    rfl
  | k + 1, N + 1, i, hk, hi, hN => by
    obtain ⟨x, hx⟩ := get_lt (l := l) (i := i) (by omega)
    have e : w64 ((i : Int) + 1) = ((i + 1 : Nat) : Int) := by rw [w64_id (by omega) (by omega)]; simp
    have ih := ad1 F l hl k N (i + 1) (by omega) (by omega) (by omega)
    rw [bank_areData_1, bif_pos' (by omega : ((i : Int) < l.length)), idx_nat, hx, bnd_eq, isFrom_eq, bnd_eq, drop_get hx, List.all_cons, e, ih]
    cases inR (-32768) x 32768
    · have h0 : decide ((0 : Int) ≤ (i : Int)) = true := by simp
      simp only [Bool.not_false, cond_true, h0, Bool.not_true, Bool.false_and]
      rfl
    · rfl
theorem areData_eq (F : Nat) (hF : 512 < F) (l : List Int) : bank_areData F l = some (areD l) := by
  unfold bank_areData areD
  by_cases h : l.length ≤ 512
  · have h' : decide ((l.length : Int) ≤ 512) = true := by simp; omega
    have := ad1 F l h l.length F 0 (by omega) (by omega) (by omega)
    rw [h']
    simp only [cond_true, h, decide_true, Bool.true_and]
    exact this
  · have h' : decide ((l.length : Int) ≤ 512) = false := by simp; omega
    rw [h']
    simp [h, bank_areData_2]
theorem inA_nat {j n : Nat} (h : j < n) {k : Int} (hk : k = j) : inA k n = some j := by
  subst hk
  show (bif Nat.blt j n then some j else none) = _
  rw [show Nat.blt j n = true from Nat.ble_eq_true_of_le h]
  rfl
theorem tab_ex {j : Nat} (h : j < 17) : ∃ x, tab3[j]? = some x := get_lt (l := tab3) h
theorem table0 (F x : Nat) (h : x < 32) : ∃ r, bank_table (F + 1) (x : Int) = some r := by
  have e16 : w64 (Int.tdiv (32 : Int) (2 : Int)) = 16 := by decide
  rw [bank_table, bif_neg' (by omega : ¬ ((32 : Int) ≤ x)), e16]
  by_cases hx : (16 : Int) < x
  · have e : w64 ((32 : Int) - x) = ((32 - x : Nat) : Int) := by rw [w64_id (by omega) (by omega)]; omega
    obtain ⟨r, hr⟩ := tab_ex (j := 32 - x) (by omega)
    rw [bif_pos' hx, e, inA_nat (j := 32 - x) (by omega) rfl, bnd_eq, hr]
    exact ⟨r, rfl⟩
  · obtain ⟨r, hr⟩ := tab_ex (j := x) (by omega)
    rw [bif_neg' hx, inA_nat (j := x) (by omega) rfl, bnd_eq, hr]
    exact ⟨r, rfl⟩
theorem table_ex (F x : Nat) (hF : 2 ≤ F) (h : x < 64) : ∃ r, bank_table F (x : Int) = some r := by
  obtain ⟨G, rfl⟩ : ∃ G, F = G + 2 := ⟨F - 2, by omega⟩
  by_cases hx : x < 32
  · exact table0 (G + 1) x hx
  · obtain ⟨r, hr⟩ := table0 G (x - 32) (by omega)
    have e : w64 ((x : Int) - 32) = ((x - 32 : Nat) : Int) := by rw [w64_id (by omega) (by omega)]; omega
    rw [bank_table, bif_pos' (by omega : (32 : Int) ≤ x), e, hr]
    exact ⟨_, rfl⟩
theorem samples_eq (F : Nat) {l : List Int} {n : Nat} (hn : n ≤ 64) (hl : l.length = 66) (h : l[64]? = some (n : Int)) : bank_wave_samples F l = some (l.take n) := by
  unfold bank_wave_samples
  rw [h, bnd_eq]
  have : cutA 64 l 0 (n : Int) = some (l.take n) := by
    show (bif Nat.ble n 64 && Nat.ble (0 + n) l.length then some ((l.drop 0).take n) else none) = _
    rw [show Nat.ble n 64 = true from Nat.ble_eq_true_of_le hn, show Nat.ble (0 + n) l.length = true from Nat.ble_eq_true_of_le (by omega)]
    rfl
  rw [this]
  rfl
def dot : List Int → List Int → Int
  | a :: l, b :: k => a * b + dot l k
  | _, _ => 0
theorem p1 (F : Nat) (a b : List Int) (hab : a.length = b.length) (hl : a.length ≤ 9223372036854775806) : ∀ (k N i : Nat) (s : Int), k = a.length - i → i ≤ a.length → k < N → bank_product_1 F N b (w64 s) a a.length i = some (w64 (s + dot (a.drop i) (b.drop i)))
  | k, 0, i, s, _, _, h => by omega
  | 0, N + 1, i, s, hk, hi, _ => by
    rw [bank_product_1, bif_neg' (by omega : ¬ ((i : Int) < a.length)), List.drop_of_length_le (by omega)]
    simp [dot]
  | k + 1, N + 1, i, s, hk, hi, hN => by
    obtain ⟨x, hx⟩ := get_lt (l := a) (i := i) (by omega)
    obtain ⟨y, hy⟩ := get_lt (l := b) (i := i) (by omega)
    have e : w64 ((i : Int) + 1) = ((i + 1 : Nat) : Int) := by rw [w64_id (by omega) (by omega)]; simp
    have ih := p1 F a b hab hl k N (i + 1) (s + x * y) (by omega) (by omega) (by omega)
    rw [bank_product_1, bif_pos' (by omega : ((i : Int) < a.length)), idx_nat, hx, bnd_eq, idx_nat, hy, bnd_eq, e, w64_addR, w64_addL, ih, drop_get hx, drop_get hy, dot, Int.add_assoc]
theorem dot_take : ∀ a b : List Int, dot (a.take (min a.length b.length)) (b.take (min a.length b.length)) = dot a b
  | [], b => by simp [dot]
  | a :: l, [] => by simp [dot]
  | a :: l, b :: k => by
    simp only [List.length_cons, Nat.succ_min_succ, List.take_succ_cons, dot, dot_take l k]
theorem product_eq (F : Nat) (a b : List Int) (hF : a.length < F) (hl : a.length ≤ 9223372036854775806) : bank_product F a b = some (w64 (dot a b)) := by
  unfold bank_product
  have hm : min (a.length : Int) (b.length : Int) = ((min a.length b.length : Nat) : Int) := by omega
  rw [subc0 a (min a.length b.length) (by omega) hm, bnd_eq, subc0 b (min a.length b.length) (by omega) hm, bnd_eq]
  have := p1 F (a.take (min a.length b.length)) (b.take (min a.length b.length)) (by simp) (by simp; omega) (a.take (min a.length b.length)).length F 0 0 (by omega) (by omega) (by simp; omega)
  rw [List.drop_zero, List.drop_zero, dot_take, Int.zero_add] at this
  exact this
theorem f1 (F : Nat) (hF : 70 < F) (n : Nat) (hn : n ≤ 64) (c : S_api_Chirp) (hP : 0 ≤ c.P ∧ c.P ≤ 63) (hQ : 0 ≤ c.Q ∧ c.Q ≤ 63) : ∀ (k N i : Nat) (l : List Int), k = n - i → i ≤ n → k < N → l.length = 66 → l[64]? = some (n : Int) →
    ∃ W : List Int, W.length = 66 ∧ W[64]? = some (n : Int) ∧ ∀ d v, bank_Filter_1 F N n i d v c l = bank_Filter_2 F F 0 v d [] W
  | k, 0, i, l, _, _, h, _, _ => by omega
  | 0, N + 1, i, l, hk, hi, _, hl, h64 => by
    have hs := samples_eq F hn hl h64
    have hp := product_eq F (l.take n) (l.take n) (by simp; omega) (by simp; omega)
    refine ⟨l.set 65 (w64 (dot (l.take n) (l.take n))), by simp [hl], by rw [List.getElem?_set_ne (by omega)]; exact h64, fun d v => ?_⟩
    rw [bank_Filter_1, bif_neg' (by omega : ¬ ((i : Int) < n)), hs, bnd_eq, bnd_eq, hp, bnd_eq, upd_at (by omega), bnd_eq]
  | k + 1, N + 1, i, l, hk, hi, hN, hl, h64 => by
    have hi' : i < n := by omega
    have b1 : 0 ≤ c.P * i ∧ c.P * i ≤ 4032 := by
      have h1 := Int.mul_nonneg hP.1 (show (0 : Int) ≤ i by omega)
      have h2 : c.P * i ≤ 63 * 64 := Int.mul_le_mul hP.2 (by omega) (by omega) (by omega)
      omega
    have b2 : 0 ≤ c.Q * i ∧ c.Q * i ≤ 4032 := by
      have h1 := Int.mul_nonneg hQ.1 (show (0 : Int) ≤ i by omega)
      have h2 : c.Q * i ≤ 63 * 64 := Int.mul_le_mul hQ.2 (by omega) (by omega) (by omega)
      omega
    have b3 : 0 ≤ c.Q * i * i ∧ c.Q * i * i ≤ 258048 := by
      have h1 := Int.mul_nonneg b2.1 (show (0 : Int) ≤ i by omega)
      have h2 : c.Q * i * i ≤ 4032 * 64 := Int.mul_le_mul b2.2 (by omega) (by omega) (by omega)
      omega
    have e1 : w64 (w64 (c.P * i) + w64 (w64 (c.Q * i) * i)) = c.P * i + c.Q * i * i := by
      rw [w64_id (n := c.P * i) (by omega) (by omega), w64_id (n := c.Q * i) (by omega) (by omega), w64_id (n := c.Q * i * i) (by omega) (by omega), w64_id (by omega) (by omega)]
    obtain ⟨m, hm⟩ : ∃ m : Nat, c.P * i + c.Q * i * i = m := ⟨(c.P * i + c.Q * i * i).toNat, by omega⟩
    have e2 : Int.tmod (m : Int) 64 = ((m % 64 : Nat) : Int) := rfl
    obtain ⟨r, hr⟩ := table_ex F (m % 64) (by omega) (Nat.mod_lt _ (by omega))
    have e : w64 ((i : Int) + 1) = ((i + 1 : Nat) : Int) := by rw [w64_id (by omega) (by omega)]; simp
    obtain ⟨W, w1, w2, w3⟩ := f1 F hF n hn c hP hQ k N (i + 1) (l.set (0 + i * 1) r) (by omega) (by omega) (by omega) (by simp [hl]) (by rw [List.getElem?_set_ne (by omega)]; exact h64)
    refine ⟨W, w1, w2, fun d v => ?_⟩
    rw [bank_Filter_1, bif_pos' (by omega : ((i : Int) < n)), e1, hm, e2, hr, bnd_eq, inA_nat (j := i) (by omega) rfl, bnd_eq, upd_at (by omega), bnd_eq, e, w3]
def outF (h d : List Int) : Nat → Nat → List Int
  | 0, _ => []
  | k + 1, t => w64 (dot h (d.drop t)) :: outF h d k (t + 1)
theorem outF_len (h d : List Int) : ∀ k t, (outF h d k t).length = k
  | 0, _ => rfl
  | k + 1, t => by rw [outF, List.length_cons, outF_len h d k]
theorem outF_get (h d : List Int) : ∀ (k t i : Nat), i < k → (outF h d k t)[i]? = some (w64 (dot h (d.drop (t + i))))
  | k + 1, t, 0, _ => rfl
  | k + 1, t, i + 1, hi => by
    rw [outF, List.getElem?_cons_succ, outF_get h d k (t + 1) i (by omega), show t + 1 + i = t + (i + 1) by omega]
theorem f2 (F : Nat) (hF : 700 < F) {W : List Int} {n : Nat} (h4 : 4 ≤ n) (hn : n ≤ 64) (hl : W.length = 66) (h64 : W[64]? = some (n : Int)) (d : List Int) (hd : d.length ≤ 512) : ∀ (k N t : Nat) (acc : List Int) (v : Int), k = d.length + 1 - n - t → t ≤ d.length + 1 - n → k < N → acc.length + k ≤ 1000 →
    bank_Filter_2 F N t v d acc W = some (acc ++ outF (W.take n) d k t, 0)
  | k, 0, t, acc, v, _, _, h, _ => by omega
  | 0, N + 1, t, acc, v, hk, ht, _, _ => by
    have e : w64 ((d.length : Int) - n) = (d.length : Int) - n := w64_id (by omega) (by omega)
    have hf : inR 0 (t : Int) ((d.length : Int) - n) = false := by unfold inR; simp; omega
    rw [bank_Filter_2, h64, bnd_eq, bank_isTime, isFrom_eq, e, hf]
    simp [bnd_eq, outF]
  | k + 1, N + 1, t, acc, v, hk, ht, hN, ha => by
    have e : w64 ((d.length : Int) - n) = (d.length : Int) - n := w64_id (by omega) (by omega)
    have hf : inR 0 (t : Int) ((d.length : Int) - n) = true := by unfold inR; simp; omega
    have e1 : w64 ((t : Int) + 1) = ((t + 1 : Nat) : Int) := by rw [w64_id (by omega) (by omega)]; simp
    have hp := product_eq F (W.take n) (d.drop t) (by simp; omega) (by simp; omega)
    have ih := f2 F hF h4 hn hl h64 d hd k N (t + 1) (acc ++ [w64 (dot (W.take n) (d.drop t))]) v (by omega) (by omega) (by omega) (by simp; omega)
    rw [bank_Filter_2, h64, bnd_eq, bank_isTime, isFrom_eq, e, hf]
    simp only [bnd_eq, cond_true]
    rw [subcL d t (by omega) rfl, bnd_eq, samples_eq F hn hl h64, bnd_eq, hp, bnd_eq, apd_eq (by simp; omega), bnd_eq, e1, ih, outF]
    simp
theorem inR_iff {a b c : Int} (h : inR a b c = true) : a ≤ b ∧ b ≤ c := by
  unfold inR at h
  simpa using h
theorem filt (F : Nat) (hF : 700 < F) (n : Int) (c : S_api_Chirp) : ∃ h : List Int, ∀ d, bank_Filter F n c d = some (bif okC n c then (bif areD d then (outF h d (d.length + 1 - n.toNat) 0, (0 : Int)) else ([], 73)) else ([], 70)) := by
  cases hc : okC n c with
  | false =>
    refine ⟨[], fun d => ?_⟩
    unfold bank_Filter
    rw [check_eq, hc]
    rfl
  | true =>
    have hc' := hc
    unfold okC at hc'
    rw [Bool.and_eq_true, Bool.and_eq_true] at hc'
    obtain ⟨g1, g2, g3⟩ := hc'
    have g1 := inR_iff g1
    obtain ⟨m, rfl⟩ : ∃ m : Nat, n = m := ⟨n.toNat, by omega⟩
    obtain ⟨W, w1, w2, w3⟩ := f1 F (by omega) m (by omega) c (inR_iff g2) (inR_iff g3) m F 0 ([0, 0, 0, 0, 0, 0, 0, 0, 0, 0, 0, 0, 0, 0, 0, 0, 0, 0, 0, 0, 0, 0, 0, 0, 0, 0, 0, 0, 0, 0, 0, 0, 0, 0, 0, 0, 0, 0, 0, 0, 0, 0, 0, 0, 0, 0, 0, 0, 0, 0, 0, 0, 0, 0, 0, 0, 0, 0, 0, 0, 0, 0, 0, 0, (m : Int), 0] : List Int) (by omega) (by omega) (by omega) rfl rfl
    refine ⟨W.take m, fun d => ?_⟩
    unfold bank_Filter
    rw [check_eq, hc, cond_true, bnd_eq, areData_eq F (by omega), bnd_eq]
    cases hd : areD d with
    | false => rfl
    | true =>
      have hd' : d.length ≤ 512 := by
        unfold areD at hd
        rw [Bool.and_eq_true] at hd
        simpa using hd.1
      have h2 := f2 F hF (n := m) (by omega) (by omega) w1 w2 d hd' (d.length + 1 - m) F 0 [] 0 (by omega) (by omega) (by omega) (by simp; omega)
      have h3 := w3 d 0
      simp only [Int.toNat_natCast, cond_true]
      exact h3.trans h2
def addW : List Int → List Int → List Int
  | a :: l, b :: k => w64 (a + b) :: addW l k
  | _, _ => []
theorem addW_len : ∀ a b : List Int, a.length = b.length → (addW a b).length = a.length
  | [], [], _ => rfl
  | a :: l, b :: k, h => by simp [addW, addW_len l k (by simpa using h)]
  | [], _ :: _, h => by simp at h
  | _ :: _, [], h => by simp at h
theorem addW_drop : ∀ (a b : List Int) (i : Nat), (addW a b).drop i = addW (a.drop i) (b.drop i)
  | a, b, 0 => rfl
  | [], b, i + 1 => by simp [addW]
  | a :: l, [], i + 1 => by cases h : l.drop i <;> simp [addW, h]
  | a :: l, b :: k, i + 1 => by rw [addW, List.drop_succ_cons, List.drop_succ_cons, List.drop_succ_cons, addW_drop l k i]
theorem dot_addW : ∀ (h a b : List Int), a.length = b.length → ∃ p : Int, dot h (addW a b) = dot h a + dot h b + 18446744073709551616 * p
  | [], a, b, _ => ⟨0, by simp [dot]⟩
  | x :: h, [], [], _ => ⟨0, by simp [dot, addW]⟩
  | x :: h, a :: l, b :: k, hl => by
    obtain ⟨p, hp⟩ := dot_addW h l k (by simpa using hl)
    obtain ⟨q, hq⟩ := w64_ex (a + b)
    refine ⟨x * q + p, ?_⟩
    rw [addW, dot, dot, dot, hp, hq]
    grind
  | x :: h, [], _ :: _, hl => by simp at hl
  | x :: h, _ :: _, [], hl => by simp at hl
theorem l1 (F : Nat) (n : Int) (c : S_api_Chirp) (a b : List Int) (hab : a.length = b.length) (hl : a.length ≤ 17592186043904) : ∀ (k N i : Nat) (acc : List Int), k = a.length - i → i ≤ a.length → k < N → acc.length = i →
    law07_BankLinear_1 F N n a.length a b i c acc = law07_BankLinear_1 F 1 n a.length a b a.length c (acc ++ addW (a.drop i) (b.drop i))
  | k, 0, i, acc, _, _, h, _ => by omega
  | 0, N + 1, i, acc, hk, hi, _, _ => by
    have : i = a.length := by omega
    subst this
    rw [law07_BankLinear_1, bif_neg' (by omega : ¬ ((a.length : Int) < a.length)), law07_BankLinear_1, bif_neg' (by omega : ¬ ((a.length : Int) < a.length)), List.drop_length, addW, List.append_nil]
    exact fun _ _ _ _ h => by simp at h
  | k + 1, N + 1, i, acc, hk, hi, hN, ha => by
    obtain ⟨x, hx⟩ := get_lt (l := a) (i := i) (by omega)
    obtain ⟨y, hy⟩ := get_lt (l := b) (i := i) (by omega)
    have e : w64 ((i : Int) + 1) = ((i + 1 : Nat) : Int) := by rw [w64_id (by omega) (by omega)]; simp
    have ih := l1 F n c a b hab hl k N (i + 1) (acc ++ [w64 (x + y)]) (by omega) (by omega) (by omega) (by simp [ha])
    rw [law07_BankLinear_1, bif_pos' (by omega : ((i : Int) < a.length)), idx_nat, hx, bnd_eq, idx_nat, hy, bnd_eq, apd_eq (by simp; omega), bnd_eq, e, ih, drop_get hx, drop_get hy, addW, List.append_assoc]
    rfl
theorem l6 (F : Nat) (p q s : List Int) (hp : p.length ≤ 1000) (hq : q.length = p.length) (hs : s.length = p.length) (hw : works F = some true) (hl : ∀ (i : Nat) (x y z : Int), p[i]? = some x → q[i]? = some y → s[i]? = some z → w64 (x + y) = z) : ∀ (k N i : Nat), k = p.length - i → i ≤ p.length → k < N → law07_BankLinear_6 F N i p q s = some true
  | k, 0, i, _, _, h => by omega
  | 0, N + 1, i, hk, hi, _ => by
    rw [law07_BankLinear_6, bif_neg' (by omega : ¬ ((i : Int) < p.length)), hw]
    rfl
  | k + 1, N + 1, i, hk, hi, hN => by
    obtain ⟨x, hx⟩ := get_lt (l := p) (i := i) (by omega)
    obtain ⟨y, hy⟩ := get_lt (l := q) (i := i) (by omega)
    obtain ⟨z, hz⟩ := get_lt (l := s) (i := i) (by omega)
    have e : w64 ((i : Int) + 1) = ((i + 1 : Nat) : Int) := by rw [w64_id (by omega) (by omega)]; simp
    have ih := l6 F p q s hp hq hs hw hl k N (i + 1) (by omega) (by omega) (by omega)
    have hb : (w64 (x + y) == z) = true := by rw [beq_iff_eq]; exact hl i x y z hx hy hz
    rw [law07_BankLinear_6, bif_pos' (by omega : ((i : Int) < p.length)), idx_nat, hx, bnd_eq, idx_nat, hy, bnd_eq, idx_nat, hz, bnd_eq, hb, e]
    exact ih
theorem law_eq (F : Nat) (n : Int) (c : S_api_Chirp) (x : S__2_int) (h0 : x.e0.length ≤ 17592186043904) (h1 : x.e1.length ≤ 17592186043904) (hF : x.e0.length + x.e1.length + 1200 < F) (hw : works F = some true) : law07_BankLinear F n c x = some true := by
  have hm : min (x.e0.length : Int) (x.e1.length : Int) = ((min x.e0.length x.e1.length : Nat) : Int) := by omega
  unfold law07_BankLinear
  rw [subc0 x.e0 (min x.e0.length x.e1.length) (by omega) hm, bnd_eq, subc0 x.e1 (min x.e0.length x.e1.length) (by omega) hm, bnd_eq, hm]
  have ha : (x.e0.take (min x.e0.length x.e1.length)).length = min x.e0.length x.e1.length := by simp
  have hb : (x.e1.take (min x.e0.length x.e1.length)).length = min x.e0.length x.e1.length := by simp
  generalize x.e0.take (min x.e0.length x.e1.length) = a at ha
  generalize x.e1.take (min x.e0.length x.e1.length) = b at hb
  have hmx : min x.e0.length x.e1.length ≤ 17592186043904 := by omega
  have hmF : min x.e0.length x.e1.length + 1200 < F := by omega
  rw [← ha] at hb hmx hmF ⊢
  have h := l1 F n c a b hb.symm hmx a.length F 0 [] (by omega) (by omega) (by omega) rfl
  rw [List.drop_zero, List.drop_zero, List.nil_append] at h
  refine h.trans ?_
  obtain ⟨w, hf⟩ := filt F (by omega) n c
  rw [law07_BankLinear_1, bif_neg' (by omega : ¬ ((a.length : Int) < a.length)), hf a, bnd_eq, hf b, bnd_eq, hf (addW a b), bnd_eq]
  have wk : ∀ p q s, law07_BankLinear_3 F n a.length true p q s = some true := fun p q s => by
    rw [law07_BankLinear_3, hw]
    rfl
  cases hc : okC n c with
  | false => exact wk [] [] []
  | true =>
    cases hda : areD a with
    | false => exact wk [] [] []
    | true =>
      cases hdb : areD b with
      | false => exact wk [] [] []
      | true =>
        cases hds : areD (addW a b) with
        | false => exact wk [] [] []
        | true =>
          have hal : a.length ≤ 512 := by
            unfold areD at hda
            rw [Bool.and_eq_true] at hda
            simpa using hda.1
          have hn : 4 ≤ n ∧ n ≤ 64 := by
            unfold okC at hc
            rw [Bool.and_eq_true] at hc
            exact inR_iff hc.1
          have hsl := addW_len a b hb.symm
          have L1 := outF_len w a (a.length + 1 - n.toNat) 0
          have L2 := outF_len w b (b.length + 1 - n.toNat) 0
          have L3 := outF_len w (addW a b) ((addW a b).length + 1 - n.toNat) 0
          have hk : ∀ i, i < a.length + 1 - n.toNat → ∀ u v z, (outF w a (a.length + 1 - n.toNat) 0)[i]? = some u → (outF w b (b.length + 1 - n.toNat) 0)[i]? = some v → (outF w (addW a b) ((addW a b).length + 1 - n.toNat) 0)[i]? = some z → w64 (u + v) = z := by
            intro i hi u v z hu hv hz
            rw [outF_get _ _ _ _ _ hi, Nat.zero_add] at hu
            rw [outF_get _ _ _ _ _ (by omega), Nat.zero_add] at hv
            rw [outF_get _ _ _ _ _ (by omega), Nat.zero_add, addW_drop] at hz
            cases hu
            cases hv
            cases hz
            obtain ⟨p, hp⟩ := dot_addW w (a.drop i) (b.drop i) (by simp [hb])
            rw [w64_addL, w64_addR]
            exact (w64_cong hp).symm
          simp only [cond_true]
          generalize outF w a (a.length + 1 - n.toNat) 0 = p at L1 hk
          generalize outF w b (b.length + 1 - n.toNat) 0 = q at L2 hk
          generalize outF w (addW a b) ((addW a b).length + 1 - n.toNat) 0 = s at L3 hk
          have e1 : w64 (w64 ((a.length : Int) - n) + 1) = (a.length : Int) - n + 1 := by
            rw [w64_id (n := (a.length : Int) - n) (by omega) (by omega), w64_id (by omega) (by omega)]
          have c1 : ((p.length : Int) == max 0 (w64 (w64 ((a.length : Int) - n) + 1))) = true := by rw [e1, beq_iff_eq]; omega
          have c2 : ((q.length : Int) == (p.length : Int)) = true := by rw [beq_iff_eq]; omega
          have c3 : ((s.length : Int) == (p.length : Int)) = true := by rw [beq_iff_eq]; omega
          show law07_BankLinear_3 F n a.length false p q s = some true
          rw [law07_BankLinear_3, c1, c2]
          show law07_BankLinear_4 F false p q s = some true
          rw [law07_BankLinear_4, c3]
          show law07_BankLinear_6 F F ((0 : Nat) : Int) p q s = some true
          exact l6 F p q s (by omega) (by omega) (by omega) hw (fun i u v z hu hv hz => hk i (by have := (List.getElem?_eq_some_iff.1 hu).1; omega) u v z hu hv hz) p.length F 0 (by omega) (by omega) (by omega)
end Go.Ev.BankLinear
