/- Lists that are compared; the specification's signals. -/
import Derived.Test.YtdcgepenffjdcaaGreatDoorGlitchPartsMath5
namespace Go.Ev.GlitchParts
open Go Go.Ev Go.Proofs
set_option linter.unusedVariables false
theorem Transform_ex (x : List Int) : ∃ k, True ∧ (sig x = true → k ≤ 10 ∧ x.length = 2 ^ k ∧ Wi 1048576 x) := by
  cases hs : sig x with
  | false => exact ⟨0, trivial, fun h => by simp at h⟩
  | true =>
    have h := hs
    simp only [sig, Bool.and_eq_true] at h
    obtain ⟨k, hk, hx⟩ := isPow_k h.1
    exact ⟨k, trivial, fun _ => ⟨hk, hx, win_iff.1 h.2⟩⟩
theorem same1 (F : Nat) (a b : List Int) (hab : a.length = b.length) (hl : a.length ≤ 9223372036854775807) : ∀ (k N i : Nat), k = a.length - i → i ≤ a.length → k < N → ref00_SameInts_1 F N a b i = some (decide (a.drop i = b.drop i))
  | k, 0, i, _, _, h => by omega
  | 0, N + 1, i, hk, hi, _ => by
    rw [ref00_SameInts_1, bif_neg' (by omega : ¬ ((i : Int) < a.length)), List.drop_of_length_le (by omega), List.drop_of_length_le (by omega)]
    simp
  | k + 1, N + 1, i, hk, hi, hN => by
    have hlt : i < a.length := by omega
    obtain ⟨x, hx⟩ := get_lt hlt
    obtain ⟨y, hy⟩ := get_lt (l := b) (i := i) (by omega)
    have e : w64 ((i : Int) + 1) = ((i + 1 : Nat) : Int) := by rw [w64_id (by omega) (by omega)]; simp
    have ih := same1 F a b hab hl k N (i + 1) (by omega) (by omega) (by omega)
    rw [ref00_SameInts_1, bif_pos' (by omega : ((i : Int) < a.length)), idx_nat, hx, bnd_eq, idx_nat, hy, bnd_eq, e, ih, drop_get hx, drop_get hy]
    by_cases hxy : x = y
    · subst hxy
      simp
    · have hb : (x == y) = false := by rw [beq_eq_false_iff_ne]; exact hxy
      simp [hb, hxy]
theorem same_eq (F : Nat) (a b : List Int) (hl : a.length ≤ 9223372036854775807) (hF : a.length < F) : ref00_SameInts F a b = some (decide (a = b)) := by
  unfold ref00_SameInts
  by_cases h : a.length = b.length
  · have h1 := same1 F a b h hl a.length F 0 (by omega) (by omega) hF
    simp only [List.drop_zero] at h1
    have h2 : ((a.length : Int) == (b.length : Int)) = true := by rw [beq_iff_eq]; omega
    have h3 : ref00_SameInts_1 F F a b 0 = some (decide (a = b)) := h1
    rw [h2, h3]
    rfl
  · have h2 : ((a.length : Int) == (b.length : Int)) = false := by rw [beq_eq_false_iff_ne]; omega
    have h3 : a ≠ b := fun e => h (by rw [e])
    rw [h2]
    simp [h3]
theorem In_eq (F : Nat) (n lo hi : Int) : ref00_In F n lo hi = some (decide (lo ≤ n) && decide (n ≤ hi)) := by
  unfold ref00_In ref00_In_1
  rcases btf (decide (lo ≤ n)) with h | h <;> simp [h]
def pw (n : Nat) : Nat → Nat → Int
  | 0, _ => -1
  | r + 1, i => bif n == 2 ^ i then (i : Int) else pw n r (i + 1)
theorem power1 (F n : Nat) : ∀ (r N i : Nat), i + r = 11 → r < N → ref06_power_1 F N n i = some (pw n r i)
  | r, 0, i, _, h => by omega
  | 0, N + 1, i, h, _ => by
    rw [ref06_power_1, bif_neg' (by omega : ¬ ((i : Int) ≤ 10))]
    rfl
  | r + 1, N + 1, i, h, hN => by
    have e : w64 ((i : Int) + 1) = ((i + 1 : Nat) : Int) := by rw [w64_id (by omega) (by omega)]; simp
    have ih := power1 F n r N (i + 1) (by omega) (by omega)
    have hp : (2 : Nat) ^ i ≤ 2 ^ 10 := Nat.pow_le_pow_right (by omega) (by omega)
    have hmin : min i (IntKind.bits .i64) = i := by simp only [IntKind.bits]; omega
    have e2 : w64 ((1 : Int) * 2 ^ i) = ((2 ^ i : Nat) : Int) := by
      have h3 : ((2 ^ i : Nat) : Int) = (2 : Int) ^ i := by simp
      rw [Int.one_mul, ← h3, w64_nat (by omega)]
    have e3 : shn (i : Int) = some i := rfl
    rw [ref06_power_1, bif_pos' (by omega : ((i : Int) ≤ 10)), e3, bnd_eq, hmin, e2, e, ih, pw]
    have : (((n : Int) == ((2 ^ i : Nat) : Int))) = (n == 2 ^ i) := by
      rw [Bool.eq_iff_iff, beq_iff_eq, beq_iff_eq]
      omega
    rw [this]
    cases (n == 2 ^ i) <;> rfl
theorem pw_none {n : Nat} (h : isPow n = false) : ∀ (r i : Nat), i + r ≤ 11 → pw n r i = -1
  | 0, _, _ => rfl
  | r + 1, i, hi => by
    rw [pw]
    have : (n == 2 ^ i) = false := by
      rw [beq_eq_false_iff_ne]
      intro he
      rw [he, isPow_of (by omega)] at h
      simp at h
    rw [this]
    exact pw_none h r (i + 1) (by omega)
theorem pw_some {n k : Nat} (h : n = 2 ^ k) : ∀ (r i : Nat), i ≤ k → k < i + r → 0 ≤ pw n r i
  | 0, _, _, _ => by omega
  | r + 1, i, h1, h2 => by
    rw [pw]
    cases hc : (n == 2 ^ i) with
    | true => simp
    | false =>
      have : i ≠ k := by
        intro he
        rw [he, beq_eq_false_iff_ne] at hc
        exact hc h
      exact pw_some h r (i + 1) (by omega) (by omega)
theorem power_eq (F n : Nat) (hF : 11 < F) : ∃ p : Int, ref06_power F n = some p ∧ decide (p < 0) = !(isPow n) := by
  refine ⟨pw n 11 0, power1 F n 11 F 0 (by omega) hF, ?_⟩
  cases h : isPow n with
  | false => rw [pw_none h 11 0 (by omega)]; rfl
  | true =>
    obtain ⟨k, hk, e⟩ := isPow_k h
    have := pw_some e 11 0 (by omega) (by omega)
    simp; omega
theorem samples1 (F : Nat) (l : List Int) (hl : l.length ≤ 9223372036854775807) : ∀ (k N i : Nat), k = l.length - i → i ≤ l.length → k < N → ref06_samples_1 F N l i = some (win 1048576 (l.drop i))
  | k, 0, i, _, _, h => by omega
  | 0, N + 1, i, hk, hi, _ => by
    rw [ref06_samples_1, bif_neg' (by omega : ¬ ((i : Int) < l.length)), List.drop_of_length_le (by omega)]
    rfl
  | k + 1, N + 1, i, hk, hi, hN => by
    have hlt : i < l.length := by omega
    obtain ⟨x, hx⟩ := get_lt hlt
    have e : w64 ((i : Int) + 1) = ((i + 1 : Nat) : Int) := by rw [w64_id (by omega) (by omega)]; simp
    have ih := samples1 F l hl k N (i + 1) (by omega) (by omega) (by omega)
    rw [ref06_samples_1, bif_pos' (by omega : ((i : Int) < l.length)), idx_nat, hx, bnd_eq, In_eq, bnd_eq, e, ih, drop_get hx]
    simp only [win, List.all_cons]
    cases (decide ((-1048576 : Int) ≤ x) && decide (x ≤ 1048576)) <;> rfl
theorem samples_eq (F : Nat) (l : List Int) (hl : l.length ≤ 9223372036854775807) (hF : l.length < F) : ref06_samples F l = some (win 1048576 l) := by
  have := samples1 F l hl l.length F 0 (by omega) (by omega) hF
  rw [List.drop_zero] at this
  exact this
theorem rCheck_eq (F : Nat) (l : List Int) (hl : l.length ≤ 9223372036854775807) (hF : l.length + 11 < F) : ref06_CheckSignal F l = some (bif sig l then 0 else 60) := by
  obtain ⟨p, h1, h2⟩ := power_eq F l.length (by omega)
  unfold ref06_CheckSignal ref06_CheckSignal_1 sig
  rw [h1, bnd_eq, h2, samples_eq F l hl (by omega)]
  cases isPow l.length with
  | false => rfl
  | true => simp only [Bool.not_true, cond_false, bnd_eq, Bool.true_and]; cases win 1048576 l <;> rfl
/-- Sums, or differences, of pairs. -/
def SG (s : Int) : List Int → List Int
  | a :: b :: l => (a + s * b) :: SG s l
  | _ => []
theorem SG1 : ∀ l, SG 1 l = S l
  | a :: b :: l => by simp [SG, S, SG1 l]
  | [] => rfl
  | [_] => rfl
theorem SGm : ∀ l, SG (-1) l = D l
  | a :: b :: l => by
    have e : a + -1 * b = a - b := by omega
    simp only [SG, D, SGm l, e]
  | [] => rfl
  | [_] => rfl
theorem halves1 (F : Nat) (x : List Int) (s : Int) (m : Nat) (hs : s = 1 ∨ s = -1) (hx : x.length = 2 * m) (hm : m ≤ 4096) (hw : Wi 1073741824 x) : ∀ (k N i : Nat) (l : List Int), k = m - i → i ≤ m → k < N → l.length = i → ref06_halves_1 F N x s ((2 * i : Nat) : Int) l = some (l ++ SG s (x.drop (2 * i)))
  | k, 0, i, l, _, _, h, _ => by omega
  | 0, N + 1, i, l, hk, hi, _, hl => by
    have e : w64 (((2 * i : Nat) : Int) + 1) = ((2 * i + 1 : Nat) : Int) := by rw [w64_id (by omega) (by omega)]; simp
    rw [ref06_halves_1, e, bif_neg' (by omega : ¬ (((2 * i + 1 : Nat) : Int) < x.length)), List.drop_of_length_le (by omega)]
    simp [SG]
  | k + 1, N + 1, i, l, hk, hi, hN, hl => by
    obtain ⟨a, ha⟩ := get_lt (l := x) (i := 2 * i) (by omega)
    obtain ⟨b, hb⟩ := get_lt (l := x) (i := 2 * i + 1) (by omega)
    have hab := hw a (List.mem_of_getElem? ha)
    have hbb := hw b (List.mem_of_getElem? hb)
    have e : w64 (((2 * i : Nat) : Int) + 1) = ((2 * i + 1 : Nat) : Int) := by rw [w64_id (by omega) (by omega)]; simp
    have e2 : w64 (((2 * i : Nat) : Int) + 2) = ((2 * (i + 1) : Nat) : Int) := by rw [w64_id (by omega) (by omega)]; omega
    have ev : w64 (a + w64 (s * b)) = a + s * b := by
      rcases hs with rfl | rfl
      · rw [Int.one_mul, w64_id (n := b) (by omega) (by omega), w64_id (by omega) (by omega)]
      · rw [show (-1 : Int) * b = -b by omega, w64_id (n := -b) (by omega) (by omega), w64_id (by omega) (by omega)]
    rw [ref06_halves_1, e, bif_pos' (by omega : (((2 * i + 1 : Nat) : Int) < x.length)), idx_nat, ha, bnd_eq, idx_nat, hb, bnd_eq, ev, apd_eq (by simp; omega) (by simp; omega), bnd_eq, e2, halves1 F x s m hs hx hm hw k N (i + 1) _ (by omega) (by omega) (by omega) (by simp; omega), drop_get ha, drop_get hb, SG, show 2 * (i + 1) = 2 * i + 1 + 1 by omega, List.append_assoc]
    rfl
theorem halves_eq (F : Nat) (x : List Int) (s : Int) (m : Nat) (hs : s = 1 ∨ s = -1) (hx : x.length = 2 * m) (hm : m ≤ 4096) (hw : Wi 1073741824 x) (hF : m < F) : ref06_halves F x s = some (SG s x) := by
  have := halves1 F x s m hs hx hm hw m F 0 [] (by omega) (by omega) hF rfl
  rw [List.nil_append, Nat.mul_zero, List.drop_zero] at this
  exact this
theorem Bd_Wi {P : Int} {l : List Int} (hP : 1 ≤ P) (h : Bd P 1073741824 l) : Wi 1073741824 l := by
  intro a ha
  have h1 := h a ha
  rcases Int.le_total 0 a with h0 | h0
  · have := Int.mul_le_mul_of_nonneg_left hP h0
    rw [Int.mul_one] at this
    omega
  · have := Int.mul_le_mul_of_nonneg_left hP (show 0 ≤ -a by omega)
    rw [Int.mul_one, Int.neg_mul] at this
    omega
theorem sig_Bd {k : Nat} {x : List Int} (hk : k ≤ 10) (hw : Wi 1048576 x) : Bd (2 ^ k) 1073741824 x := by
  have hpow : (2 : Nat) ^ k ≤ 2 ^ 10 := Nat.pow_le_pow_right (by omega) (by omega)
  intro a ha
  have h1 := hw a ha
  have h2 : (2 : Int) ^ k ≤ 1024 := by
    have h3 : ((2 ^ k : Nat) : Int) = (2 : Int) ^ k := by simp
    omega
  have h4 := two_pow_pos' k
  generalize (2 : Int) ^ k = P at h2 h4
  have g1 : a * P ≤ 1048576 * P := Int.mul_le_mul_of_nonneg_right h1.2 (by omega)
  have g2 : -1048576 * P ≤ a * P := Int.mul_le_mul_of_nonneg_right h1.1 (by omega)
  omega
end Go.Ev.GlitchParts
