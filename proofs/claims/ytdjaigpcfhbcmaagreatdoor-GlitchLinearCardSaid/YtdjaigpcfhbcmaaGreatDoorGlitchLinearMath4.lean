/- The coefficients of a sum of signals. -/
import Derived.Test.YtdjaigpcfhbcmaaGreatDoorGlitchLinearMath3
namespace Go.Ev.GlitchLinear
open Go Go.Ev Go.Proofs
set_option linter.unusedVariables false
theorem same1 (F : Nat) (a b : List Int) (hab : a.length = b.length) (hl : a.length ≤ 9223372036854775807) : ∀ (k N i : Nat), k = a.length - i → i ≤ a.length → k < N → ref00_SameInts_1 F N a b i = some (decide (a.drop i = b.drop i))
  | k, 0, i, _, _, h => by omega
  | 0, N + 1, i, hk, hi, _ => by
    rw [ref00_SameInts_1, bif_neg' (by omega : ¬ ((i : Int) < a.length)), List.drop_of_length_le (by omega), List.drop_of_length_le (by omega)]
    simp
  | k + 1, N + 1, i, hk, hi, hN => by
    have hlt : i < a.length := by omega
    obtain ⟨x, hx⟩ := get_lt hlt
    obtain ⟨y, hy⟩ := get_lt (l := b) (i := i) (by omega)
    have e : w64 ((i : Int) + 1) = ((i + 1 : Nat) : Int) := by rw [w64_id (by omega) (by omega)]; simp
    have ih := same1 F a b hab hl k N (i + 1) (by omega) (by omega) (by omega)
    rw [ref00_SameInts_1, bif_pos' (by omega : ((i : Int) < a.length)), idx_nat, hx, bnd_eq, idx_nat, hy, bnd_eq, e, ih, drop_get hx, drop_get hy]
    by_cases hxy : x = y
    · subst hxy
      simp
    · have hb : (x == y) = false := by rw [beq_eq_false_iff_ne]; exact hxy
      simp [hb, hxy]
theorem same_eq (F : Nat) (a b : List Int) (hl : a.length ≤ 9223372036854775807) (hF : a.length < F) : ref00_SameInts F a b = some (decide (a = b)) := by
  unfold ref00_SameInts
  by_cases h : a.length = b.length
  · have h1 := same1 F a b h hl a.length F 0 (by omega) (by omega) hF
    simp only [List.drop_zero] at h1
    have h2 : ((a.length : Int) == (b.length : Int)) = true := by rw [beq_iff_eq]; omega
    have h3 : ref00_SameInts_1 F F a b 0 = some (decide (a = b)) := h1
    rw [h2, h3]
    rfl
  · have h2 : ((a.length : Int) == (b.length : Int)) = false := by rw [beq_eq_false_iff_ne]; omega
    have h3 : a ≠ b := fun e => h (by rw [e])
    rw [h2]
    simp [h3]
theorem Bd_Wi {P : Int} {l : List Int} (hP : 1 ≤ P) (h : Bd P 1073741824 l) : Wi 1073741824 l := by
  intro a ha
  have h1 := h a ha
  rcases Int.le_total 0 a with h0 | h0
  · have := Int.mul_le_mul_of_nonneg_left hP h0
    rw [Int.mul_one] at this
    omega
  · have := Int.mul_le_mul_of_nonneg_left hP (show 0 ≤ -a by omega)
    rw [Int.mul_one, Int.neg_mul] at this
    omega
theorem sig_Bd {k : Nat} {x : List Int} (hk : k ≤ 10) (hw : Wi 1048576 x) : Bd (2 ^ k) 1073741824 x := by
  have hpow : (2 : Nat) ^ k ≤ 2 ^ 10 := Nat.pow_le_pow_right (by omega) (by omega)
  intro a ha
  have h1 := hw a ha
  have h2 : (2 : Int) ^ k ≤ 1024 := by
    have h3 : ((2 ^ k : Nat) : Int) = (2 : Int) ^ k := by simp
    omega
  have h4 := two_pow_pos' k
  generalize (2 : Int) ^ k = P at h2 h4
  have g1 : a * P ≤ 1048576 * P := Int.mul_le_mul_of_nonneg_right h1.2 (by omega)
  have g2 : -1048576 * P ≤ a * P := Int.mul_le_mul_of_nonneg_right h1.1 (by omega)
  omega
theorem wi_add {B : Int} {l : List Int} (h : Wi B l) {i : Nat} {a : Int} (ha : l[i]? = some a) : -B ≤ a ∧ a ≤ B := h a (List.mem_of_getElem? ha)
theorem addL_drop {l k : List Int} {i : Nat} {a b : Int} (h : l[i]? = some a) (h' : k[i]? = some b) : addL (l.drop i) (k.drop i) = (a + b) :: addL (l.drop (i + 1)) (k.drop (i + 1)) := by
  rw [drop_get h, drop_get h', addL]
theorem lin3 (F : Nat) (x y a b : List Int) (n : Nat) (hn : n ≤ 1024) (hx : x.length = n) (hy : y.length = n) (hwx : Wi 1048576 x) (hwy : Wi 1048576 y) : ∀ (k N i : Nat) (s : List Int), k = n - i → i ≤ n → k < N → s.length = i →
    law06_GlitchLinear_3 F N x y i a b s = law06_GlitchLinear_4 F F x 0 a b (s ++ addL (x.drop i) (y.drop i)) []
  | k, 0, i, s, _, _, h, _ => by omega
  | 0, N + 1, i, s, hk, hi, _, hs => by
    rw [law06_GlitchLinear_3, bif_neg' (by omega : ¬ ((i : Int) < x.length)), List.drop_of_length_le (by omega : x.length ≤ i)]
    simp [addL]
  | k + 1, N + 1, i, s, hk, hi, hN, hs => by
    obtain ⟨p, hp⟩ := get_lt (l := x) (i := i) (by omega)
    obtain ⟨q, hq⟩ := get_lt (l := y) (i := i) (by omega)
    have bp := wi_add hwx hp
    have bq := wi_add hwy hq
    have e : w64 ((i : Int) + 1) = ((i + 1 : Nat) : Int) := by rw [w64_id (by omega) (by omega)]; simp
    have e2 : w64 (p + q) = p + q := w64_id (by omega) (by omega)
    rw [law06_GlitchLinear_3, bif_pos' (by omega : ((i : Int) < x.length)), idx_nat, hp, bnd_eq, idx_nat, hq, bnd_eq, e2, apd_eq (by simp; omega) (by simp; omega), bnd_eq, e, lin3 F x y a b n hn hx hy hwx hwy k N (i + 1) _ (by omega) (by omega) (by omega) (by simp [hs]), addL_drop hp hq]
    simp
def linEnd (F : Nat) (x a b s t : List Int) : Option Bool :=
  bnd (glitch_Transform F s) fun r43 => bif (!(r43.2 == (0 : Int))) then bnd (works F) fun r48 => some r48 else
    bif ((a.length : Int) == (x.length : Int)) then law06_GlitchLinear_6 F ((b.length : Int) == (x.length : Int)) t r43.1 else law06_GlitchLinear_6 F false t r43.1
theorem lin4 (F : Nat) (x a b s : List Int) (n : Nat) (hn : n ≤ 1024) (ha : a.length = n) (hb : b.length = n) (hwa : Wi 1073741824 a) (hwb : Wi 1073741824 b) : ∀ (k N i : Nat) (t : List Int), k = n - i → i ≤ n → k < N → t.length = i →
    law06_GlitchLinear_4 F N x i a b s t = linEnd F x a b s (t ++ addL (a.drop i) (b.drop i))
  | k, 0, i, t, _, _, h, _ => by omega
  | 0, N + 1, i, t, hk, hi, _, ht => by
    rw [law06_GlitchLinear_4, bif_neg' (by omega : ¬ ((i : Int) < a.length)), List.drop_of_length_le (by omega : a.length ≤ i)]
    simp only [addL, List.append_nil]
    rfl
  | k + 1, N + 1, i, t, hk, hi, hN, ht => by
    obtain ⟨p, hp⟩ := get_lt (l := a) (i := i) (by omega)
    obtain ⟨q, hq⟩ := get_lt (l := b) (i := i) (by omega)
    have bp := wi_add hwa hp
    have bq := wi_add hwb hq
    have e : w64 ((i : Int) + 1) = ((i + 1 : Nat) : Int) := by rw [w64_id (by omega) (by omega)]; simp
    have e2 : w64 (p + q) = p + q := w64_id (by omega) (by omega)
    have hd : decide ((i : Int) < b.length) = true := by simp; omega
    rw [law06_GlitchLinear_4, bif_pos' (by omega : ((i : Int) < a.length)), hd]
    unfold law06_GlitchLinear_5
    simp only [cond_true]
    rw [idx_nat, hp, bnd_eq, idx_nat, hq, bnd_eq, e2, apd_eq (by simp; omega) (by simp; omega), bnd_eq, e, lin4 F x a b s n hn ha hb hwa hwb k N (i + 1) _ (by omega) (by omega) (by omega) (by simp [ht]), addL_drop hp hq]
    simp
theorem law_eq (F : Nat) (x y : List Int) (hx : x.length ≤ 9223372036854775807) (hy : y.length ≤ 9223372036854775807) (hF : x.length + 1200 < F) (hF2 : y.length + 1200 < F) (hw : works F = some true) : law06_GlitchLinear F x y = some true := by
  obtain ⟨k, h1, h2⟩ := Transform_eq F x hx (by omega)
  obtain ⟨j, h3, h4⟩ := Transform_eq F y hy (by omega)
  unfold law06_GlitchLinear
  rw [h1, bnd_eq, h3, bnd_eq]
  have wk : law06_GlitchLinear_2 F x y true (bif sig x then (T k x, (0 : Int)) else ([], 60)).1 (bif sig y then (T j y, (0 : Int)) else ([], 60)).1 = some true := by
    unfold law06_GlitchLinear_2
    simp only [cond_true]
    rw [hw, bnd_eq]
  cases hsx : sig x with
  | false =>
    rw [hsx] at wk
    exact wk
  | true =>
    cases hsy : sig y with
    | false =>
      rw [hsx, hsy] at wk
      exact wk
    | true =>
      obtain ⟨g1, g2, g3⟩ := h2 hsx
      obtain ⟨g4, g5, g6⟩ := h4 hsy
      have hp := pow2_10 g1
      show law06_GlitchLinear_2 F x y (!((x.length : Int) == (y.length : Int))) (T k x) (T j y) = _
      by_cases hl : x.length = y.length
      · have hjk : j = k := pow2_inj (by rw [← g5, ← g2, hl])
        subst hjk
        have hle : ((x.length : Int) == (y.length : Int)) = true := by rw [hl]; simp
        rw [hle]
        unfold law06_GlitchLinear_2
        simp only [Bool.not_true, cond_false]
        have e1 := lin3 F x y (T j x) (T j y) (2 ^ j) (by omega) g2 g5 g3 g6 (2 ^ j) F 0 [] (by omega) (by omega) (by omega) rfl
        simp only [List.nil_append, List.drop_zero] at e1
        rw [show ((0 : Nat) : Int) = 0 from rfl] at e1
        rw [e1]
        have t1 := T_len j x g2
        have t2 := T_len j y g5
        have w1 : Wi 1073741824 (T j x) := fun a ha => Bd_T (sig_Bd g1 g3) a ha
        have w2 : Wi 1073741824 (T j y) := fun a ha => Bd_T (sig_Bd g1 g6) a ha
        have e2 := lin4 F x (T j x) (T j y) (addL x y) (2 ^ j) (by omega) t1 t2 w1 w2 (2 ^ j) F 0 [] (by omega) (by omega) (by omega) rfl
        simp only [List.nil_append, List.drop_zero] at e2
        rw [show ((0 : Nat) : Int) = 0 from rfl] at e2
        rw [e2]
        have hal : (addL x y).length = x.length := addL_len x y hl
        obtain ⟨i, h5, h6⟩ := Transform_eq F (addL x y) (by omega) (by omega)
        unfold linEnd
        rw [h5, bnd_eq]
        cases hss : sig (addL x y) with
        | false =>
          show (bnd (works F) fun r48 => some r48) = _
          rw [hw, bnd_eq]
        | true =>
          obtain ⟨q1, q2, q3⟩ := h6 hss
          have hij : i = j := pow2_inj (by rw [← q2, hal, g2])
          subst hij
          have c1 : (((T i x).length : Int) == (x.length : Int)) = true := by rw [t1, g2]; simp
          have c2 : (((T i y).length : Int) == (x.length : Int)) = true := by rw [t2, g2]; simp
          show (bif (((T i x).length : Int) == (x.length : Int)) then law06_GlitchLinear_6 F (((T i y).length : Int) == (x.length : Int)) (addL (T i x) (T i y)) (T i (addL x y)) else law06_GlitchLinear_6 F false (addL (T i x) (T i y)) (T i (addL x y))) = _
          rw [c1, c2, T_add i x y g2 g5]
          unfold law06_GlitchLinear_6
          simp only [cond_true]
          have hlen : (addL (T i x) (T i y)).length = 2 ^ i := by rw [addL_len _ _ (by omega), t1]
          rw [same_eq F _ _ (by omega) (by omega), bnd_eq]
          unfold law06_GlitchLinear_7
          simp only [decide_true, cond_true]
          rw [hw, bnd_eq]
          rfl
      · have hle : ((x.length : Int) == (y.length : Int)) = false := by
          cases hc : ((x.length : Int) == (y.length : Int)) with
          | false => rfl
          | true => rw [beq_iff_eq] at hc; omega
        rw [hle]
        rw [hsx, hsy] at wk
        exact wk
end Go.Ev.GlitchLinear
