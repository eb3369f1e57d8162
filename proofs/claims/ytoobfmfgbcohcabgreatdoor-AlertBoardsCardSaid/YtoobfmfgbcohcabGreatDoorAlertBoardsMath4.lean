/- Powers, signatures and keys, on both sides. -/
import Derived.Test.YtoobfmfgbcohcabGreatDoorAlertBoardsMath3
namespace Go.Ev.AlertBoards
open Go Go.Ev Go.Proofs
set_option linter.unusedVariables false
theorem pow_half {b e m acc : Nat} (h : e % 2 = 1) : (acc * b % m) * (b * b % m) ^ (e / 2) % m = acc * b ^ e % m := by
 have he : b ^ e = b * (b * b) ^ (e / 2) := by
  conv => lhs; rw [show e = 1 + 2 * (e / 2) by omega, Nat.pow_add, Nat.pow_one, Nat.pow_mul]
  rw [Nat.pow_two]
 rw [Nat.mul_mod, ← Nat.pow_mod, Nat.mod_mod, ← Nat.mul_mod, he, Nat.mul_assoc]
theorem pow_half0 {b e m acc : Nat} (h : ¬ e % 2 = 1) : acc * (b * b % m) ^ (e / 2) % m = acc * b ^ e % m := by
 have he : b ^ e = (b * b) ^ (e / 2) := by
  conv => lhs; rw [show e = 2 * (e / 2) by omega, Nat.pow_mul]
  rw [Nat.pow_two]
 rw [Nat.mul_mod, ← Nat.pow_mod, ← Nat.mul_mod, he]
theorem mul_w {a b m : Nat} (ha : a < m) (hb : b < m) (hm : m ≤ 1073741824) : w64 ((a : Int) * (b : Int)) = ((a * b : Nat) : Int) := by
 have h1 : a * b ≤ 1073741824 * 1073741824 := Nat.mul_le_mul (by omega) (by omega)
 rw [w64_id] <;> push_cast <;> (have : ((a * b : Nat) : Int) = (a : Int) * b := by push_cast; rfl) <;> omega
theorem tmodN (a b : Nat) : Int.tmod (a : Int) (b : Int) = ((a % b : Nat) : Int) := rfl
theorem pwA (F m : Nat) (x : Int) (hm0 : 1 < m) (hm : m ≤ 1073741824) : ∀ (k N b e acc : Nat), e < 2 ^ k → k < N → b < m → acc < m → k ≤ 40 → e < 9223372036854775807 → alert_key_power_1 F N b e acc (S_api_Key.mk m x) = some ((acc * b ^ e % m : Nat) : Int)
 | k, 0, b, e, acc, _, h, _, _, _, _ => by omega
 | 0, N + 1, b, e, acc, he, _, hb, ha, _, _ => by
  have : e = 0 := by simpa using he
  subst this
  rw [alert_key_power_1, bif_neg' (by omega), Nat.pow_zero, Nat.mul_one, Nat.mod_eq_of_lt ha]
 | k + 1, N + 1, b, e, acc, he, hN, hb, ha, hk, hbe => by
  rw [alert_key_power_1]
  by_cases h0 : e = 0
  ·subst h0
   rw [bif_neg' (by omega), Nat.pow_zero, Nat.mul_one, Nat.mod_eq_of_lt ha]
  ·have hnz : nz (m : Int) = some (m : Int) := nz_ok (by omega)
   have e2 : Int.tmod (e : Int) 2 = ((e % 2 : Nat) : Int) := rfl
   have e3 : Int.tdiv (e : Int) 2 = ((e / 2 : Nat) : Int) := rfl
   have hk' : e / 2 < 2 ^ k := by rw [Nat.pow_succ] at he; omega
   have hbb : b * b % m < m := Nat.mod_lt _ (by omega)
   rw [bif_pos' (by omega)]
   simp only [alert_key_power_2, hnz, bnd_eq, e2, e3, mul_w hb hb hm, tmodN, w64_id (n := ((e / 2 : Nat) : Int)) (by omega) (by omega)]
   by_cases h1 : e % 2 = 1
   ·rw [h1]
    have e4 : (((1 : Nat) : Int) == 1) = true := rfl
    rw [e4, cond_true, mul_w ha hb hm, tmodN, pwA F m x hm0 hm k N (b * b % m) (e / 2) (acc * b % m) hk' (by omega) hbb (Nat.mod_lt _ (by omega)) (by omega) (by omega), pow_half h1]
   ·have e4 : ((((e % 2 : Nat) : Int)) == 1) = false := by rw [beq_eq_false_iff_ne]; omega
    rw [e4, cond_false, pwA F m x hm0 hm k N (b * b % m) (e / 2) acc hk' (by omega) hbb ha (by omega) (by omega), pow_half0 h1]
theorem pwR (F m : Nat) (hm0 : 1 < m) (hm : m ≤ 1073741824) : ∀ (k N b e acc : Nat), e < 2 ^ k → k < N → b < m → acc < m → k ≤ 40 → e < 9223372036854775807 → ref10_power_1 F N b e m acc = some ((acc * b ^ e % m : Nat) : Int)
 | k, 0, b, e, acc, _, h, _, _, _, _ => by omega
 | 0, N + 1, b, e, acc, he, _, hb, ha, _, _ => by
  have : e = 0 := by simpa using he
  subst this
  rw [ref10_power_1, bif_neg' (by omega), Nat.pow_zero, Nat.mul_one, Nat.mod_eq_of_lt ha]
 | k + 1, N + 1, b, e, acc, he, hN, hb, ha, hk, hbe => by
  rw [ref10_power_1]
  by_cases h0 : e = 0
  ·subst h0
   rw [bif_neg' (by omega), Nat.pow_zero, Nat.mul_one, Nat.mod_eq_of_lt ha]
  ·have hnz : nz (m : Int) = some (m : Int) := nz_ok (by omega)
   have e2 : Int.tmod (e : Int) 2 = ((e % 2 : Nat) : Int) := rfl
   have e3 : Int.tdiv (e : Int) 2 = ((e / 2 : Nat) : Int) := rfl
   have hk' : e / 2 < 2 ^ k := by rw [Nat.pow_succ] at he; omega
   have hbb : b * b % m < m := Nat.mod_lt _ (by omega)
   rw [bif_pos' (by omega)]
   simp only [ref10_power_2, hnz, bnd_eq, e2, e3, mul_w hb hb hm, tmodN, w64_id (n := ((e / 2 : Nat) : Int)) (by omega) (by omega)]
   by_cases h1 : e % 2 = 1
   ·rw [h1]
    have e4 : (((1 : Nat) : Int) == 1) = true := rfl
    rw [e4, cond_true, mul_w ha hb hm, tmodN, pwR F m hm0 hm k N (b * b % m) (e / 2) (acc * b % m) hk' (by omega) hbb (Nat.mod_lt _ (by omega)) (by omega) (by omega), pow_half h1]
   ·have e4 : ((((e % 2 : Nat) : Int)) == 1) = false := by rw [beq_eq_false_iff_ne]; omega
    rw [e4, cond_false, pwR F m hm0 hm k N (b * b % m) (e / 2) acc hk' (by omega) hbb ha (by omega) (by omega), pow_half0 h1]
theorem power_eq (F m a e : Nat) (x : Int) (hm0 : 1 < m) (hm : m ≤ 1073741824) (hF : 50 < F) (he : e < 2 ^ 40) : alert_key_power F (S_api_Key.mk m x) a e = some ((a ^ e % m : Nat) : Int) := by
 have h := pwA F m x hm0 hm 40 F (a % m) e 1 he (by omega) (Nat.mod_lt _ (by omega)) hm0 (by omega) (by omega)
 unfold alert_key_power
 rw [nz_ok (show (m : Int) ≠ 0 by omega), bnd_eq, tmodN]
 rw [Nat.one_mul, ← Nat.pow_mod] at h
 exact h
theorem rpower_eq (F m a e : Nat) (hm0 : 1 < m) (hm : m ≤ 1073741824) (hF : 50 < F) (he : e < 2 ^ 40) : ref10_power F a e m = some ((a ^ e % m : Nat) : Int) := by
 have h := pwR F m hm0 hm 40 F (a % m) e 1 he (by omega) (Nat.mod_lt _ (by omega)) hm0 (by omega) (by omega)
 unfold ref10_power
 rw [nz_ok (show (m : Int) ≠ 0 by omega), bnd_eq, bnd_eq, tmodN]
 have e1 : Int.tmod 1 (m : Int) = ((1 : Nat) : Int) := by
  show ((1 % m : Nat) : Int) = _
  rw [Nat.mod_eq_of_lt hm0]
 rw [e1]
 rw [Nat.one_mul, ← Nat.pow_mod] at h
 exact h
/- Plausible keys, signatures. -/
def plsB (k : S_api_Key) : Bool := inR 15 k.Modulus 1073741824 && inR 3 k.Exponent 32749
theorem plausible_eq (F : Nat) (k : S_api_Key) : alert_key_isPlausible F k = some (plsB k) := by
 unfold alert_key_isPlausible alert_key_isPlausible_1 plsB
 rw [isFrom_eq, isFrom_eq, bnd_eq, bnd_eq]
 cases inR 15 k.Modulus 1073741824 <;> rfl
theorem rplausible_eq (F : Nat) (k : S_api_Key) : ref10_plausible F k = some (plsB k) := by
 unfold ref10_plausible ref10_plausible_1 plsB
 rw [rIn_eq, rIn_eq, bnd_eq, bnd_eq]
 cases inR 15 k.Modulus 1073741824 <;> rfl
theorem pls_nat {k : S_api_Key} (h : plsB k = true) : ∃ m x : Nat, k = S_api_Key.mk m x ∧ 15 ≤ m ∧ m ≤ 1073741824 ∧ 3 ≤ x ∧ x ≤ 32749 := by
 unfold plsB at h
 rw [Bool.and_eq_true] at h
 have h1 := inR_iff.1 h.1
 have h2 := inR_iff.1 h.2
 obtain ⟨m, x⟩ := k
 simp only at h1 h2
 exact ⟨m.toNat, x.toNat, by simp only [S_api_Key.mk.injEq]; omega, by omega, by omega, by omega, by omega⟩
/-- Is n a signature, by (m, x), of what has the digest d? -/
def sigB (m x : Nat) (d : Nat) (n : Int) : Bool := inR 0 n ((m : Int) - 1) && (n.toNat ^ x % m == d % m)
theorem natBeq (a b : Nat) : ((a : Int) == (b : Int)) = (a == b) := by
 rw [Bool.eq_iff_iff, beq_iff_eq, beq_iff_eq]; omega
theorem isSigned_eq (F m x d : Nat) (n : Int) (hm0 : 15 ≤ m) (hm : m ≤ 1073741824) (hx : x ≤ 32749) (hF : 50 < F) : alert_key_isSigned F (S_api_Key.mk m x) d n = some (sigB m x d n) := by
 unfold alert_key_isSigned alert_key_isSigned_1 sigB
 rw [w64_id (by simp only; omega) (by simp only; omega), isFrom_eq, bnd_eq]
 cases h : inR 0 n ((m : Int) - 1) with
 | false => rfl
 | true =>
  have hn := inR_iff.1 h
  obtain ⟨v, rfl⟩ : ∃ v : Nat, n = v := ⟨n.toNat, by omega⟩
  simp only [cond_true, Int.toNat_natCast]
  rw [nz_ok (show (m : Int) ≠ 0 by omega), bnd_eq, power_eq F m v x x (by omega) hm hF (by omega), bnd_eq, tmodN, natBeq]
  rfl
theorem rsigned_eq (F m x : Nat) (a : S_api_Alert) (n : Int) (hm0 : 15 ≤ m) (hm : m ≤ 1073741824) (hx : x ≤ 32749) (hF : 20000 < F) (ha : Fine a) : ref10_signed F (S_api_Key.mk m x) a n = some (sigB m x (digT a) n) := by
 unfold ref10_signed ref10_signed_1 sigB
 rw [w64_id (by simp only; omega) (by simp only; omega), rIn_eq, bnd_eq]
 cases h : inR 0 n ((m : Int) - 1) with
 | false => rfl
 | true =>
  have hn := inR_iff.1 h
  obtain ⟨v, rfl⟩ : ∃ v : Nat, n = v := ⟨n.toNat, by omega⟩
  simp only [cond_true, Int.toNat_natCast]
  rw [rpower_eq F m v x (by omega) hm (by omega) (by omega), bnd_eq, rdigest_eq F hF ha, bnd_eq, nz_ok (show (m : Int) ≠ 0 by omega), bnd_eq, tmodN, natBeq]
  rfl
end Go.Ev.AlertBoards
