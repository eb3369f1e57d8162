/- SearchPower. -/
import Derived.Test.YtgaofnakcccbkaaSearchPowerMath4
namespace Go.Ev.SearchPower
open Go Go.Ev Go.Proofs
set_option linter.unusedVariables false
theorem gFrom_eq (F : Nat) (a b c : Int) : glitch_isFrom F a b c = some (inR a b c) := by
  unfold glitch_isFrom inR glitch_isFrom_1
  by_cases h : a ≤ b <;> simp [h]
theorem bitZ_ex {n : Nat} (h1 : 1 ≤ n) (h2 : n ≤ 1024) : ∃ z, bitZ Nat.land .i64 (n : Int) ((n - 1 : Nat) : Int) = some z := by
  refine ⟨IntKind.wrap .i64 ((Nat.land n (n - 1) : Nat) : Int), ?_⟩
  show (bif Nat.ble n (top .i64) && Nat.ble (n - 1) (top .i64) then some (IntKind.wrap .i64 ((Nat.land n (n - 1) : Nat) : Int)) else none) = _
  have ht : top .i64 = 9223372036854775807 := rfl
  rw [ht, show Nat.ble n 9223372036854775807 = true from Nat.ble_eq_true_of_le (by omega), show Nat.ble (n - 1) 9223372036854775807 = true from Nat.ble_eq_true_of_le (by omega)]
  rfl
theorem gLength_ex (F : Nat) (n : Nat) : ∃ s, glitch_isLength F (n : Int) = some s ∧ (s = true → 1 ≤ n ∧ n ≤ 1024) := by
  unfold glitch_isLength glitch_isLength_1
  rw [gFrom_eq, bnd_eq]
  cases e : inR 1 n 1024 with
  | false => exact ⟨false, rfl, fun h => by cases h⟩
  | true =>
    have := inR_iff.1 e
    obtain ⟨z, hz⟩ := bitZ_ex (n := n) (by omega) (by omega)
    rw [cond_true, w64_id (n := (n : Int) - 1) (by omega) (by omega), show (n : Int) - 1 = ((n - 1 : Nat) : Int) by omega, hz, bnd_eq]
    exact ⟨_, rfl, fun _ => ⟨by omega, by omega⟩⟩
theorem gAre1 (F : Nat) (l : List Int) (hl : l.length ≤ 9223372036854775807) : ∀ (k N i : Nat), k = l.length - i → i ≤ l.length → k < N →
    glitch_areFrom_1 F N 1048576 l l.length i = some ((l.drop i).all fun x => inR (-1048576) x 1048576)
  | k, 0, i, _, _, h => by omega
  | 0, N + 1, i, hk, hi, _ => by
    rw [glitch_areFrom_1, bif_neg' (by omega : ¬ ((i : Int) < l.length)), List.drop_of_length_le (by omega)]
    rfl
  | k + 1, N + 1, i, hk, hi, hN => by
    obtain ⟨x, hx⟩ := get_lt (l := l) (i := i) (by omega)
    have e0 : w64 (-(1048576 : Int)) = -1048576 := by decide
    rw [glitch_areFrom_1, bif_pos' (by omega : ((i : Int) < l.length)), idx_nat, hx, bnd_eq, e0, gFrom_eq, bnd_eq, drop_get hx, List.all_cons]
    cases e : inR (-1048576) x 1048576 with
    | false => rfl
    | true =>
      simp only [Bool.not_true, cond_false, Bool.true_and]
      rw [up (by omega), gAre1 F l hl k N (i + 1) (by omega) (by omega) (by omega)]
theorem gSignal_ex (F : Nat) (l : List Int) (hF : 1024 < F) (hl : l.length ≤ 9223372036854775807) : ∃ s, glitch_isSignal F l = some s ∧ (s = true → 1 ≤ l.length ∧ l.length ≤ 1024 ∧ ∀ x ∈ l, -1048576 ≤ x ∧ x ≤ 1048576) := by
  obtain ⟨s, h1, h2⟩ := gLength_ex F l.length
  unfold glitch_isSignal glitch_isSignal_1
  rw [h1, bnd_eq]
  cases s with
  | false => exact ⟨false, rfl, fun h => by cases h⟩
  | true =>
    obtain ⟨g1, g2⟩ := h2 rfl
    have := gAre1 F l hl l.length F 0 rfl (Nat.zero_le _) (by omega)
    rw [List.drop_zero] at this
    have this' : glitch_areFrom F l 1048576 = some (l.all fun x => inR (-1048576) x 1048576) := this
    rw [cond_true, this', bnd_eq]
    exact ⟨_, rfl, fun h => ⟨g1, g2, fun x hx => inR_iff.1 (List.all_eq_true.1 h x hx)⟩⟩
theorem sqB {a : Int} (h : -1048576 ≤ a ∧ a ≤ 1048576) : 0 ≤ a * a ∧ a * a ≤ 1099511627776 := by
  have h1 : a.natAbs ≤ 1048576 := by omega
  have h2 : a * a = ((a.natAbs * a.natAbs : Nat) : Int) := Int.natAbs_mul_self.symm
  have h3 : a.natAbs * a.natAbs ≤ 1048576 * 1048576 := Nat.mul_le_mul h1 h1
  omega
theorem sqW {x : List Int} (hx : ∀ a ∈ x, -1048576 ≤ a ∧ a ≤ 1048576) : ∀ n : Nat, 0 ≤ sq x n ∧ sq x n ≤ (n : Int) * 1099511627776
  | 0 => ⟨Int.le_refl _, by simp [sq]⟩
  | n + 1 => by
    have h1 := sqW hx n
    have h3 : ((n + 1 : Nat) : Int) * 1099511627776 = (n : Int) * 1099511627776 + 1099511627776 := by rw [Int.natCast_add, Int.add_mul]; rfl
    have h4 : -1048576 ≤ x[n]?.getD 0 ∧ x[n]?.getD 0 ≤ 1048576 := by
      cases e : x[n]? with
      | none => exact ⟨by decide, by decide⟩
      | some a => exact hx a (List.mem_of_getElem? e)
    have h5 := sqB h4
    rw [sq]
    omega
theorem gprod1 (F : Nat) (x : List Int) (hx : ∀ a ∈ x, -1048576 ≤ a ∧ a ≤ 1048576) (hxl : x.length ≤ 1024) : ∀ (k N i : Nat), k = x.length - i → i ≤ x.length → k < N →
    glitch_product_1 F N x x (sq x i) x.length i = some (sq x x.length)
  | k, 0, i, _, _, h => by omega
  | 0, N + 1, i, hk, hi, _ => by
    rw [glitch_product_1, bif_neg' (by omega), show i = x.length by omega]
  | k + 1, N + 1, i, hk, hi, hN => by
    obtain ⟨v, hv⟩ := get_lt (l := x) (i := i) (by omega)
    have hvv := sqB (hx v (List.mem_of_getElem? hv))
    have b1 := sqW hx i
    have m1 : (i : Int) * 1099511627776 ≤ 1024 * 1099511627776 := Int.mul_le_mul_of_nonneg_right (by omega) (by decide)
    have e1 : sq x (i + 1) = sq x i + v * v := by rw [sq, hv]; rfl
    rw [glitch_product_1, bif_pos' (by omega), idx_nat, hv, bnd_eq, bnd_eq, w64_id (n := v * v) (by omega) (by omega), w64_id (n := sq x i + v * v) (by omega) (by omega), up (by omega), ← e1]
    exact gprod1 F x hx hxl k N (i + 1) (by omega) (by omega) (by omega)
theorem energy_ex (F : Nat) (x : List Int) (hF : 1024 < F) (hl : x.length ≤ 9223372036854775807) : ∃ n e, glitch_Energy F x = some (n, e) ∧ (e = 0 → 1 ≤ x.length ∧ x.length ≤ 1024 ∧ 0 ≤ sq x x.length ∧ sq x x.length ≤ 1125899906842624 ∧ n = (x.length : Int) * sq x x.length) := by
  obtain ⟨s, h1, h2⟩ := gSignal_ex F x hF hl
  unfold glitch_Energy
  rw [h1, bnd_eq]
  cases s with
  | false => exact ⟨0, 60, rfl, fun h => by cases h⟩
  | true =>
    obtain ⟨g1, g2, g3⟩ := h2 rfl
    have := gprod1 F x g3 g2 x.length F 0 rfl (Nat.zero_le _) (by omega)
    have this' : glitch_product F x x = some (sq x x.length) := this
    have b1 := sqW g3 x.length
    have m1 : (x.length : Int) * 1099511627776 ≤ 1024 * 1099511627776 := Int.mul_le_mul_of_nonneg_right (by omega) (by decide)
    have m2 : (x.length : Int) * sq x x.length ≤ 1024 * sq x x.length := Int.mul_le_mul_of_nonneg_right (by omega) b1.1
    have m3 := Int.mul_nonneg (show 0 ≤ (x.length : Int) by omega) b1.1
    rw [Bool.not_true, cond_false, this', bnd_eq, w64_id (by omega) (by omega)]
    exact ⟨_, _, rfl, fun _ => ⟨g1, g2, b1.1, by omega, rfl⟩⟩
theorem one_burst (x : List Int) (w : Nat) (thr : Int) (hw : x.length = w) : burF x w thr = if pw x w 0 < thr then [] else [⟨0, (w : Int), pw x w 0⟩] := by
  unfold burF
  rw [hw, show w + 1 - w = 1 by omega, brs, brs]
  unfold stepB
  split
  · rfl
  · simp
theorem law_eq (F : Nat) (x : List Int) (hl : x.length ≤ 9223372036854775807) (hF : x.length + 1200 < F) (hw : works F = some true) : law08_SearchPower F x = some true := by
  obtain ⟨n, e, h1, h2⟩ := energy_ex F x (by omega) hl
  have hwk : law08_SearchPower_1 F x n true = some true := by
    unfold law08_SearchPower_1
    rw [cond_true, hw]
    rfl
  unfold law08_SearchPower
  rw [h1, bnd_eq]
  simp only
  cases e0 : (e == 0) with
  | false => exact hwk
  | true =>
    rw [Bool.not_true, cond_false]
    cases n0 : (n == 0) with
    | true => exact hwk
    | false =>
      obtain ⟨g1, g2, g3, g4, g5⟩ := h2 (beq_iff_eq.1 e0)
      have hn0 : n ≠ 0 := fun h => by rw [h] at n0; exact absurd n0 (by decide)
      have hs1 : 1 ≤ sq x x.length := by
        apply Classical.byContradiction
        intro h
        have : sq x x.length = 0 := by omega
        rw [this, Int.mul_zero] at g5
        exact hn0 g5
      have hdiv : Int.tdiv n (x.length : Int) = sq x x.length := by
        rw [g5]
        exact Int.mul_tdiv_cancel_left _ (by omega)
      unfold law08_SearchPower_1
      rw [cond_false, show ((x.length : Int) == 0) = false from beq_eq_false_iff_ne.2 (by omega), cond_false, nz_ok (by omega), bnd_eq, hdiv, w64_id (n := sq x x.length) (by omega) (by omega), w64_id (n := sq x x.length + 1) (by omega) (by omega),
        Bursts_eq F x _ _ (by omega) hl, bnd_eq]
      have i1 : inR 1 (x.length : Int) 1024 = true := inR_iff.2 ⟨by omega, by omega⟩
      have i2 : inR 1 (sq x x.length) 1152921504606846976 = true := inR_iff.2 ⟨by omega, by omega⟩
      have i3 : inR 1 (sq x x.length + 1) 1152921504606846976 = true := inR_iff.2 ⟨by omega, by omega⟩
      cases r : isRec x with
      | false =>
        have er : ∀ t, errB x x.length t = 82 := fun t => by unfold errB; rw [r]; rfl
        rw [er]
        simp only [law08_SearchPower_2, hw, bnd_eq]
        rfl
      | true =>
        have e1 : errB x x.length (sq x x.length) = 0 := by unfold errB; rw [r, i1, i2]; rfl
        have e2 : errB x x.length (sq x x.length + 1) = 0 := by unfold errB; rw [r, i1, i3]; rfl
        have hp : pw x x.length 0 = sq x x.length := by rw [pw, Nat.zero_add, sq, Int.sub_zero]
        rw [Bursts_eq F x _ _ (by omega) hl, bnd_eq, e1, e2]
        simp only [beq_self_eq_true, Bool.not_true, cond_false, cond_true, Int.toNat_natCast]
        rw [one_burst x x.length _ rfl, one_burst x x.length _ rfl, hp, if_neg (by omega), if_pos (by omega)]
        unfold law08_SearchPower_3
        have hc : (((([⟨0, (x.length : Int), sq x x.length⟩] : List S_api_Burst).length : Nat) : Int) == 1) = true := rfl
        rw [hc, cond_true]
        show bnd (some (⟨0, (x.length : Int), sq x x.length⟩ : S_api_Burst)) _ = _
        simp only [bnd_eq, beq_self_eq_true, Bool.and_self, law08_SearchPower_4, cond_true, law08_SearchPower_5, List.length_nil, Int.natCast_zero, hw, law08_SearchPower_6]
end Go.Ev.SearchPower
