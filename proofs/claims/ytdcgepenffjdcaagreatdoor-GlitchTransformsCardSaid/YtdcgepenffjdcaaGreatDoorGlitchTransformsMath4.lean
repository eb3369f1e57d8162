/- The specification's functions of signals; GlitchTransforms. -/
import Derived.Test.YtdcgepenffjdcaaGreatDoorGlitchTransformsMath3
namespace Go.Ev.GlitchTransforms
open Go Go.Ev Go.Proofs
set_option linter.unusedVariables false
theorem In_eq (F : Nat) (n lo hi : Int) : ref00_In F n lo hi = some (decide (lo ≤ n) && decide (n ≤ hi)) := by
  unfold ref00_In ref00_In_1
  rcases btf (decide (lo ≤ n)) with h | h <;> simp [h]
def pw (n : Nat) : Nat → Nat → Int
  | 0, _ => -1
  | r + 1, i => bif n == 2 ^ i then (i : Int) else pw n r (i + 1)
theorem power1 (F n : Nat) : ∀ (r N i : Nat), i + r = 11 → r < N → ref06_power_1 F N n i = some (pw n r i)
  | r, 0, i, _, h => by omega
  | 0, N + 1, i, h, _ => by
    rw [ref06_power_1, bif_neg' (by omega : ¬ ((i : Int) ≤ 10))]
    rfl
  | r + 1, N + 1, i, h, hN => by
    have e : w64 ((i : Int) + 1) = ((i + 1 : Nat) : Int) := by rw [w64_id (by omega) (by omega)]; simp
    have ih := power1 F n r N (i + 1) (by omega) (by omega)
    have hp : (2 : Nat) ^ i ≤ 2 ^ 10 := Nat.pow_le_pow_right (by omega) (by omega)
    have hmin : min i (IntKind.bits .i64) = i := by simp only [IntKind.bits]; omega
    have e2 : w64 ((1 : Int) * 2 ^ i) = ((2 ^ i : Nat) : Int) := by
      have h3 : ((2 ^ i : Nat) : Int) = (2 : Int) ^ i := by simp
      rw [Int.one_mul, ← h3, w64_nat (by omega)]
    have e3 : shn (i : Int) = some i := rfl
    rw [ref06_power_1, bif_pos' (by omega : ((i : Int) ≤ 10)), e3, bnd_eq, hmin, e2, e, ih, pw]
    have : (((n : Int) == ((2 ^ i : Nat) : Int))) = (n == 2 ^ i) := by
      rw [Bool.eq_iff_iff, beq_iff_eq, beq_iff_eq]
      omega
    rw [this]
    cases (n == 2 ^ i) <;> rfl
theorem pw_none {n : Nat} (h : isPow n = false) : ∀ (r i : Nat), i + r ≤ 11 → pw n r i = -1
  | 0, _, _ => rfl
  | r + 1, i, hi => by
    rw [pw]
    have : (n == 2 ^ i) = false := by
      rw [beq_eq_false_iff_ne]
      intro he
      rw [he, isPow_of (by omega)] at h
      simp at h
    rw [this]
    exact pw_none h r (i + 1) (by omega)
theorem pw_some {n k : Nat} (h : n = 2 ^ k) : ∀ (r i : Nat), i ≤ k → k < i + r → 0 ≤ pw n r i
  | 0, _, _, _ => by omega
  | r + 1, i, h1, h2 => by
    rw [pw]
    cases hc : (n == 2 ^ i) with
    | true => simp
    | false =>
      have : i ≠ k := by
        intro he
        rw [he, beq_eq_false_iff_ne] at hc
        exact hc h
      exact pw_some h r (i + 1) (by omega) (by omega)
theorem power_eq (F n : Nat) (hF : 11 < F) : ∃ p : Int, ref06_power F n = some p ∧ decide (p < 0) = !(isPow n) := by
  refine ⟨pw n 11 0, power1 F n 11 F 0 (by omega) hF, ?_⟩
  cases h : isPow n with
  | false => rw [pw_none h 11 0 (by omega)]; rfl
  | true =>
    obtain ⟨k, hk, e⟩ := isPow_k h
    have := pw_some e 11 0 (by omega) (by omega)
    simp; omega
theorem samples1 (F : Nat) (l : List Int) (hl : l.length ≤ 9223372036854775807) : ∀ (k N i : Nat), k = l.length - i → i ≤ l.length → k < N → ref06_samples_1 F N l i = some (win 1048576 (l.drop i))
  | k, 0, i, _, _, h => by omega
  | 0, N + 1, i, hk, hi, _ => by
    rw [ref06_samples_1, bif_neg' (by omega : ¬ ((i : Int) < l.length)), List.drop_of_length_le (by omega)]
    rfl
  | k + 1, N + 1, i, hk, hi, hN => by
    have hlt : i < l.length := by omega
    obtain ⟨x, hx⟩ := get_lt hlt
    have e : w64 ((i : Int) + 1) = ((i + 1 : Nat) : Int) := by rw [w64_id (by omega) (by omega)]; simp
    have ih := samples1 F l hl k N (i + 1) (by omega) (by omega) (by omega)
    rw [ref06_samples_1, bif_pos' (by omega : ((i : Int) < l.length)), idx_nat, hx, bnd_eq, In_eq, bnd_eq, e, ih, drop_get hx]
    simp only [win, List.all_cons]
    cases (decide ((-1048576 : Int) ≤ x) && decide (x ≤ 1048576)) <;> rfl
theorem samples_eq (F : Nat) (l : List Int) (hl : l.length ≤ 9223372036854775807) (hF : l.length < F) : ref06_samples F l = some (win 1048576 l) := by
  have := samples1 F l hl l.length F 0 (by omega) (by omega) hF
  rw [List.drop_zero] at this
  exact this
theorem rCheck_eq (F : Nat) (l : List Int) (hl : l.length ≤ 9223372036854775807) (hF : l.length + 11 < F) : ref06_CheckSignal F l = some (bif sig l then 0 else 60) := by
  obtain ⟨p, h1, h2⟩ := power_eq F l.length (by omega)
  unfold ref06_CheckSignal ref06_CheckSignal_1 sig
  rw [h1, bnd_eq, h2, samples_eq F l hl (by omega)]
  cases isPow l.length with
  | false => rfl
  | true => simp only [Bool.not_true, cond_false, bnd_eq, Bool.true_and]; cases win 1048576 l <;> rfl
theorem check_eq (F : Nat) (l : List Int) (hl : l.length ≤ 9223372036854775807) (hF : l.length < F) : glitch_CheckSignal F l = some (bif sig l then 0 else 60) := by
  unfold glitch_CheckSignal
  rw [isSignal_eq F l hl hF, bnd_eq]
  cases sig l <;> rfl
/-- Sums, or differences, of pairs. -/
def SG (s : Int) : List Int → List Int
  | a :: b :: l => (a + s * b) :: SG s l
  | _ => []
theorem SG1 : ∀ l, SG 1 l = S l
  | a :: b :: l => by simp [SG, S, SG1 l]
  | [] => rfl
  | [_] => rfl
theorem SGm : ∀ l, SG (-1) l = D l
  | a :: b :: l => by
    have e : a + -1 * b = a - b := by omega
    simp only [SG, D, SGm l, e]
  | [] => rfl
  | [_] => rfl
theorem halves1 (F : Nat) (x : List Int) (s : Int) (m : Nat) (hs : s = 1 ∨ s = -1) (hx : x.length = 2 * m) (hm : m ≤ 4096) (hw : Wi 1073741824 x) : ∀ (k N i : Nat) (l : List Int), k = m - i → i ≤ m → k < N → l.length = i → ref06_halves_1 F N x s ((2 * i : Nat) : Int) l = some (l ++ SG s (x.drop (2 * i)))
  | k, 0, i, l, _, _, h, _ => by omega
  | 0, N + 1, i, l, hk, hi, _, hl => by
    have e : w64 (((2 * i : Nat) : Int) + 1) = ((2 * i + 1 : Nat) : Int) := by rw [w64_id (by omega) (by omega)]; simp
    rw [ref06_halves_1, e, bif_neg' (by omega : ¬ (((2 * i + 1 : Nat) : Int) < x.length)), List.drop_of_length_le (by omega)]
    simp [SG]
  | k + 1, N + 1, i, l, hk, hi, hN, hl => by
    obtain ⟨a, ha⟩ := get_lt (l := x) (i := 2 * i) (by omega)
    obtain ⟨b, hb⟩ := get_lt (l := x) (i := 2 * i + 1) (by omega)
    have hab := hw a (List.mem_of_getElem? ha)
    have hbb := hw b (List.mem_of_getElem? hb)
    have e : w64 (((2 * i : Nat) : Int) + 1) = ((2 * i + 1 : Nat) : Int) := by rw [w64_id (by omega) (by omega)]; simp
    have e2 : w64 (((2 * i : Nat) : Int) + 2) = ((2 * (i + 1) : Nat) : Int) := by rw [w64_id (by omega) (by omega)]; omega
    have ev : w64 (a + w64 (s * b)) = a + s * b := by
      rcases hs with rfl | rfl
      · rw [Int.one_mul, w64_id (n := b) (by omega) (by omega), w64_id (by omega) (by omega)]
      · rw [show (-1 : Int) * b = -b by omega, w64_id (n := -b) (by omega) (by omega), w64_id (by omega) (by omega)]
    rw [ref06_halves_1, e, bif_pos' (by omega : (((2 * i + 1 : Nat) : Int) < x.length)), idx_nat, ha, bnd_eq, idx_nat, hb, bnd_eq, ev, apd_eq (by simp; omega) (by simp; omega), bnd_eq, e2, halves1 F x s m hs hx hm hw k N (i + 1) _ (by omega) (by omega) (by omega) (by simp; omega), drop_get ha, drop_get hb, SG, show 2 * (i + 1) = 2 * i + 1 + 1 by omega, List.append_assoc]
    rfl
theorem halves_eq (F : Nat) (x : List Int) (s : Int) (m : Nat) (hs : s = 1 ∨ s = -1) (hx : x.length = 2 * m) (hm : m ≤ 4096) (hw : Wi 1073741824 x) (hF : m < F) : ref06_halves F x s = some (SG s x) := by
  have := halves1 F x s m hs hx hm hw m F 0 [] (by omega) (by omega) hF rfl
  rw [List.nil_append, Nat.mul_zero, List.drop_zero] at this
  exact this
theorem own_eq (F : Nat) (l : List Int) (hl : l.length ≤ 1048576) : ref00_OwnInts F l = some l := by
  unfold ref00_OwnInts
  rw [apd_eq (by simp; omega) (by simp; omega), bnd_eq]
  simp
theorem Bd_Wi {P : Int} {l : List Int} (hP : 1 ≤ P) (h : Bd P 1073741824 l) : Wi 1073741824 l := by
  intro a ha
  have h1 := h a ha
  rcases Int.le_total 0 a with h0 | h0
  · have := Int.mul_le_mul_of_nonneg_left hP h0
    rw [Int.mul_one] at this
    omega
  · have := Int.mul_le_mul_of_nonneg_left hP (show 0 ≤ -a by omega)
    rw [Int.mul_one, Int.neg_mul] at this
    omega
theorem rtransform_eq : ∀ (k F : Nat) (x : List Int), k ≤ 10 → x.length = 2 ^ k → Bd (2 ^ k) 1073741824 x → 1100 + k < F → ref06_transform F x = some (T k x)
  | k, 0, x, _, _, _, h => by omega
  | 0, F + 1, x, _, hx, _, _ => by
    have h1 : ((x.length : Int) == 1) = true := by rw [hx]; rfl
    rw [ref06_transform, h1]
    simp only [cond_true]
    rw [own_eq F x (by rw [hx]; simp), bnd_eq]
    rfl
  | k + 1, F + 1, x, hk, hx, hB, hF => by
    have hpow : (2 : Nat) ^ k ≤ 2 ^ 9 := Nat.pow_le_pow_right (by omega) (by omega)
    have hpos : 1 ≤ (2 : Nat) ^ k := Nat.one_le_two_pow
    have hx2 : x.length = 2 * 2 ^ k := by rw [hx, Nat.pow_succ]; omega
    have hw := Bd_Wi (two_pow_pos' (k + 1)) hB
    rw [Int.pow_succ] at hB
    obtain ⟨hBS, hBD⟩ := Bd_SD hB
    have hS := S_len _ x hx2
    have hD := D_len _ x hx2
    have h1 : ((x.length : Int) == 1) = false := by rw [beq_eq_false_iff_ne]; omega
    have hT := T_len k _ hS
    rw [ref06_transform, h1]
    simp only [cond_false]
    rw [halves_eq F x 1 (2 ^ k) (.inl rfl) hx2 (by omega) hw (by omega), bnd_eq, SG1, rtransform_eq k F (S x) (by omega) hS hBS (by omega), bnd_eq, halves_eq F x (-1) (2 ^ k) (.inr rfl) hx2 (by omega) hw (by omega), bnd_eq, SGm, apd_eq (by omega) (by omega), bnd_eq]
    rfl
theorem sig_Bd {k : Nat} {x : List Int} (hk : k ≤ 10) (hw : Wi 1048576 x) : Bd (2 ^ k) 1073741824 x := by
  have hpow : (2 : Nat) ^ k ≤ 2 ^ 10 := Nat.pow_le_pow_right (by omega) (by omega)
  intro a ha
  have h1 := hw a ha
  have h2 : (2 : Int) ^ k ≤ 1024 := by
    have h3 : ((2 ^ k : Nat) : Int) = (2 : Int) ^ k := by simp
    omega
  have h4 := two_pow_pos' k
  generalize (2 : Int) ^ k = P at h2 h4
  have g1 : a * P ≤ 1048576 * P := Int.mul_le_mul_of_nonneg_right h1.2 (by omega)
  have g2 : -1048576 * P ≤ a * P := Int.mul_le_mul_of_nonneg_right h1.1 (by omega)
  omega
theorem rTransform_eq (F : Nat) (x : List Int) (hl : x.length ≤ 9223372036854775807) (hF : x.length + 1200 < F) {k : Nat} (hk : sig x = true → k ≤ 10 ∧ x.length = 2 ^ k ∧ Wi 1048576 x) : ref06_Transform F x = some (bif sig x then (T k x, 0) else ([], 60)) := by
  unfold ref06_Transform
  rw [rCheck_eq F x hl (by omega), bnd_eq]
  cases hs : sig x with
  | false => rfl
  | true =>
    obtain ⟨h1, h2, h3⟩ := hk hs
    have := rtransform_eq k F x h1 h2 (sig_Bd h1 h3) (by omega)
    rw [this]
    rfl
theorem mod_eq (F : Nat) (n : Int) : ∃ r : Int, ref00_Mod F n 2 = some r ∧ (r == 0) = (Int.tmod n 2 == 0) := by
  have h2 : nz 2 = some 2 := rfl
  have := t2 n
  unfold ref00_Mod ref00_Mod_1
  rw [h2]
  simp only [bnd_eq, show decide ((2 : Int) < 1) = false from rfl, cond_false]
  rcases btf (decide (Int.tmod n 2 < 0)) with h | h
  · rw [h]
    simp only [cond_true]
    refine ⟨_, rfl, ?_⟩
    simp only [decide_eq_true_eq] at h
    rw [w64_id (by omega) (by omega), Bool.eq_iff_iff, beq_iff_eq, beq_iff_eq]
    omega
  · rw [h]
    exact ⟨_, rfl, rfl⟩
theorem rinv1 (F : Nat) (c s d : List Int) (m : Nat) (hs : s.length = m) (hc : c.length = 2 * m) (hd0 : d = c.drop m) (hwc : Wi 1073741824 c) (hws : Wi 1073741824 s) (hm : m ≤ 4096) :
    ∀ (k N i : Nat) (l : List Int), k = m - i → i ≤ m → k < N → l.length = 2 * i → ref06_inverse_c_1 F N c m i s l = some (bif E (s.drop i) (d.drop i) then (l ++ U (s.drop i) (d.drop i), true) else ([], false))
  | k, 0, i, l, _, _, h, _ => by omega
  | 0, N + 1, i, l, hk, hi, _, hl => by
    rw [ref06_inverse_c_1, bif_neg' (by omega : ¬ ((i : Int) < m)), List.drop_of_length_le (by omega : s.length ≤ i)]
    simp [E, U]
  | k + 1, N + 1, i, l, hk, hi, hN, hl => by
    have hdl : d.length = m := by rw [hd0]; simp; omega
    obtain ⟨a, ha⟩ := get_lt (l := s) (i := i) (by omega)
    obtain ⟨b, hb⟩ := get_lt (l := d) (i := i) (by omega)
    have hcb : c[m + i]? = some b := by
      rw [hd0, List.getElem?_drop] at hb
      exact hb
    have hab := hws a (List.mem_of_getElem? ha)
    have hbb := hwc b (List.mem_of_getElem? hcb)
    have e3 : w64 ((m : Int) + i) = ((m + i : Nat) : Int) := by rw [w64_id (by omega) (by omega)]; simp
    have e4 : w64 ((i : Int) + 1) = ((i + 1 : Nat) : Int) := by rw [w64_id (by omega) (by omega)]; simp
    have t1 := t2 (a + b)
    have t3 := t2 (a - b)
    have f1 : w64 (a + b) = a + b := w64_id (by omega) (by omega)
    have f2 : w64 (a - b) = a - b := w64_id (by omega) (by omega)
    have f3 : w64 (Int.tdiv (a + b) 2) = Int.tdiv (a + b) 2 := w64_id (by omega) (by omega)
    have f4 : w64 (Int.tdiv (a - b) 2) = Int.tdiv (a - b) 2 := w64_id (by omega) (by omega)
    obtain ⟨r, hr, hr2⟩ := mod_eq F (a + b)
    rw [ref06_inverse_c_1, bif_pos' (by omega : ((i : Int) < m)), idx_at hcb e3, bnd_eq, idx_at ha rfl, bnd_eq, f1, hr, bnd_eq, hr2, E_drop s d i ha hb]
    cases hev : (Int.tmod (a + b) 2 == 0) with
    | false => rfl
    | true =>
      simp only [Bool.not_true, cond_false, Bool.true_and, bnd_eq, f1, f2, f3, f4, e4]
      rw [apd_eq (by simp; omega) (by simp; omega), bnd_eq, rinv1 F c s d m hs hc hd0 hwc hws hm k N (i + 1) _ (by omega) (by omega) (by omega) (by simp; omega), drop_get ha, drop_get hb, U, List.append_assoc]
      rfl
theorem rinverse_eq : ∀ (k F : Nat) (c : List Int), k ≤ 10 → c.length = 2 ^ k → Wi 1073741824 c → 1100 + k < F → ref06_inverse_c F c = some (bif W k c then (I k c, true) else ([], false))
  | k, 0, x, _, _, _, h => by omega
  | 0, F + 1, x, _, hx, _, _ => by
    have h1 : ((x.length : Int) == 1) = true := by rw [hx]; rfl
    rw [ref06_inverse_c, h1]
    simp only [cond_true]
    rw [own_eq F x (by rw [hx]; simp), bnd_eq]
    rfl
  | k + 1, F + 1, c, hk, hc, hw, hF => by
    have hpow : (2 : Nat) ^ k ≤ 2 ^ 9 := Nat.pow_le_pow_right (by omega) (by omega)
    have hpos : 1 ≤ (2 : Nat) ^ k := Nat.one_le_two_pow
    have hc2 : c.length = 2 * 2 ^ k := by rw [hc, Nat.pow_succ]; omega
    have h1 : ((c.length : Int) == 1) = false := by rw [beq_eq_false_iff_ne]; omega
    have htl : (c.take (2 ^ k)).length = 2 ^ k := by simp; omega
    have e5 : w64 (Int.tdiv (c.length : Int) 2) = ((2 ^ k : Nat) : Int) := by
      have h1 : Int.tdiv (c.length : Int) 2 = ((c.length / 2 : Nat) : Int) := tdiv_nat _ 2
      rw [h1, w64_nat (by omega), hc2]
      omega
    have ih := rinverse_eq k F (c.take (2 ^ k)) (by omega) htl (fun a ha => hw a (List.mem_of_mem_take ha)) (by omega)
    rw [ref06_inverse_c, h1]
    simp only [cond_false]
    rw [e5, subc0 c (2 ^ k) (by omega) rfl, bnd_eq, ih, bnd_eq, W, I]
    cases hW : W k (c.take (2 ^ k)) with
    | false => rfl
    | true =>
      have h4 := rinv1 F c (I k (c.take (2 ^ k))) (c.drop (2 ^ k)) (2 ^ k) (I_len k _ htl) hc2 rfl hw (Wi_I fun a ha => hw a (List.mem_of_mem_take ha)) (by omega) (2 ^ k) F 0 [] (by omega) (by omega) (by omega) rfl
      simp only [cond_true, Bool.not_true, cond_false, Bool.true_and]
      exact h4
theorem rInv1 (F : Nat) (c : List Int) (res : Option (List Int × Int)) (hl : c.length ≤ 9223372036854775807) (hend : ∀ N i, i = c.length → ref06_Inverse_c_1 F (N + 1) c i = res) : ∀ (k N i : Nat), k = c.length - i → i ≤ c.length → k < N → ref06_Inverse_c_1 F N c i = bif win 1073741824 (c.drop i) then res else some ([], 61)
  | k, 0, i, _, _, h => by omega
  | 0, N + 1, i, hk, hi, _ => by
    rw [hend N i (by omega), List.drop_of_length_le (by omega)]
    rfl
  | k + 1, N + 1, i, hk, hi, hN => by
    have hlt : i < c.length := by omega
    obtain ⟨x, hx⟩ := get_lt hlt
    have e : w64 ((i : Int) + 1) = ((i + 1 : Nat) : Int) := by rw [w64_id (by omega) (by omega)]; simp
    have ih := rInv1 F c res hl hend k N (i + 1) (by omega) (by omega) (by omega)
    rw [ref06_Inverse_c_1, bif_pos' (by omega : ((i : Int) < c.length)), idx_nat, hx, bnd_eq, In_eq, bnd_eq, e, ih, drop_get hx]
    simp only [win, List.all_cons]
    cases (decide ((-1073741824 : Int) ≤ x) && decide (x ≤ 1073741824)) <;> rfl
theorem rInv1f (F : Nat) (c : List Int) (hl : c.length ≤ 9223372036854775807) : ∀ (k N i : Nat), k = c.length - i → i ≤ c.length → k < N → win 1073741824 (c.drop i) = false → ref06_Inverse_c_1 F N c i = some ([], 61)
  | k, 0, i, _, _, h, _ => by omega
  | 0, N + 1, i, hk, hi, _, h => by
    rw [List.drop_of_length_le (by omega)] at h
    simp [win] at h
  | k + 1, N + 1, i, hk, hi, hN, h => by
    have hlt : i < c.length := by omega
    obtain ⟨x, hx⟩ := get_lt hlt
    have e : w64 ((i : Int) + 1) = ((i + 1 : Nat) : Int) := by rw [w64_id (by omega) (by omega)]; simp
    rw [drop_get hx] at h
    simp only [win, List.all_cons] at h
    rw [ref06_Inverse_c_1, bif_pos' (by omega : ((i : Int) < c.length)), idx_nat, hx, bnd_eq, In_eq, bnd_eq, e]
    cases hc : (decide ((-1073741824 : Int) ≤ x) && decide (x ≤ 1073741824)) with
    | false => rfl
    | true =>
      rw [hc, Bool.true_and] at h
      exact rInv1f F c hl k N (i + 1) (by omega) (by omega) (by omega) h
theorem rInverse_eq (F : Nat) (c : List Int) (hl : c.length ≤ 9223372036854775807) (hF : c.length + 1200 < F) {n : Nat} (hn : sigc c = true → n ≤ 10 ∧ c.length = 2 ^ n ∧ Wi 1073741824 c) : ref06_Inverse_c F c = some (bif sigc c && (W n c && win 1048576 (I n c)) then (I n c, 0) else ([], 61)) := by
  obtain ⟨p, h1, h2⟩ := power_eq F c.length (by omega)
  unfold ref06_Inverse_c
  rw [h1, bnd_eq, h2]
  cases hp : isPow c.length with
  | false => simp only [sigc, hp, Bool.false_and]; rfl
  | true =>
    simp only [Bool.not_true, cond_false]
    have key : ref06_Inverse_c_1 F F c ((0 : Nat) : Int) = bif win 1073741824 (c.drop 0) then (some (bif W n c && win 1048576 (I n c) then (I n c, 0) else ([], 61))) else some ([], 61) := by
      cases hw : win 1073741824 c with
      | false =>
        have := rInv1f F c hl c.length F 0 (by omega) (by omega) (by omega) (by rw [List.drop_zero]; exact hw)
        rw [this, List.drop_zero, hw]
        rfl
      | true =>
        have hs : sigc c = true := by simp only [sigc, hp, hw, Bool.and_self]
        obtain ⟨g1, g2, g3⟩ := hn hs
        have hI := I_len n c g2
        have hpow : (2 : Nat) ^ n ≤ 2 ^ 10 := Nat.pow_le_pow_right (by omega) (by omega)
        refine rInv1 F c _ hl (fun N i hi => ?_) c.length F 0 (by omega) (by omega) (by omega)
        rw [ref06_Inverse_c_1, bif_neg' (by omega : ¬ ((i : Int) < c.length)), rinverse_eq n F c g1 g2 g3 (by omega), bnd_eq]
        unfold ref06_Inverse_c_2
        cases hW : W n c with
        | false => rfl
        | true =>
          simp only [cond_true, Bool.not_true, cond_false, Bool.true_and]
          rw [rCheck_eq F (I n c) (by omega) (by omega), bnd_eq]
          have : sig (I n c) = win 1048576 (I n c) := by
            unfold sig
            rw [hI, isPow_of g1]
            rfl
          rw [this]
          cases win 1048576 (I n c) <;> rfl
    rw [List.drop_zero] at key
    have key' : ref06_Inverse_c_1 F F c 0 = _ := key
    rw [key']
    simp only [sigc, hp, Bool.true_and]
    cases win 1073741824 c <;> rfl
end Go.Ev.GlitchTransforms
