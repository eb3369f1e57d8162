/- Making keys, on both sides. -/
import Derived.Test.YtoobfmfgbcohcaaDoorAlertSignedMath4
namespace Go.Ev.AlertSigned
open Go Go.Ev Go.Proofs
set_option linter.unusedVariables false
def TrialAt (n d : Nat) : Prop := ∀ x, d ≤ x → x * x ≤ n → n % x ≠ 0
theorem prLoop (F n : Nat) (hn : n ≤ 40000) (hn1 : 1 < n) : ∀ (k N d : Nat), k = 202 - d → 2 ≤ d → d ≤ 201 → k < N → ∃ b, alert_isPrime_1 F N n d = some b ∧ (b = true ↔ TrialAt n d)
  | k, 0, d, _, _, _, h => by omega
  | k, N + 1, d, hk, hd, hd2, hN => by
    have hdd : d * d ≤ 201 * 201 := Nat.mul_le_mul hd2 hd2
    have hw : w64 ((d : Int) * (d : Int)) = ((d * d : Nat) : Int) := by
      have : ((d * d : Nat) : Int) = (d : Int) * d := by push_cast; rfl
      rw [w64_id (by omega) (by omega), this]
    rw [alert_isPrime_1, hw, nz_ok (show (d : Int) ≠ 0 by omega), bnd_eq, tmodN]
    by_cases h1 : d * d ≤ n
    · rw [bif_pos' (by omega)]
      by_cases h2 : n % d = 0
      · have e : (((n % d : Nat) : Int) == 0) = true := by rw [h2]; rfl
        rw [e, cond_true]
        exact ⟨false, rfl, by simp; intro h; exact h d (Nat.le_refl _) h1 h2⟩
      · have e : (((n % d : Nat) : Int) == 0) = false := by rw [beq_eq_false_iff_ne]; omega
        have hd3 : d ≤ 200 := by
          apply Classical.byContradiction
          intro hc
          have : d = 201 := by omega
          subst this
          omega
        rw [e, cond_false, up (by omega)]
        obtain ⟨b, g1, g3⟩ := prLoop F n hn hn1 (k - 1) N (d + 1) (by omega) (by omega) (by omega) (by omega)
        refine ⟨b, g1, g3.trans ⟨fun h x hx hxx => ?_, fun h x hx hxx => h x (by omega) hxx⟩⟩
        by_cases hxd : x = d
        · subst hxd; exact h2
        · exact h x (by omega) hxx
    · rw [bif_neg' (by omega)]
      refine ⟨true, rfl, by simp; intro x hx hxx; exact absurd (Nat.le_trans (Nat.mul_le_mul hx hx) hxx) h1⟩
noncomputable def trialB (n : Nat) : Bool := @decide (TrialAt n 2) (Classical.propDecidable _)
theorem trial_iff {n : Nat} : trialB n = true ↔ TrialAt n 2 := by
  unfold trialB
  exact @decide_eq_true_iff _ (Classical.propDecidable _)
noncomputable def primeB (p : Int) : Bool := inR 3 p 32749 && trialB p.toNat
theorem isPrime_eq (F : Nat) (hF : 300 < F) (p : Int) : alert_isPrime F p = some (primeB p) := by
  unfold alert_isPrime primeB
  rw [isFrom_eq, bnd_eq]
  cases h : inR 3 p 32749 with
  | false => rfl
  | true =>
    have hp := inR_iff.1 h
    obtain ⟨n, rfl⟩ : ∃ n : Nat, p = n := ⟨p.toNat, by omega⟩
    obtain ⟨b, g1, g3⟩ := prLoop F n (by omega) (by omega) 200 F 2 rfl (by omega) (by omega) (by omega)
    have g1' : alert_isPrime_1 F F (n : Int) 2 = some b := g1
    rw [Bool.not_true, cond_false, g1', Bool.true_and, Int.toNat_natCast]
    congr 1
    rw [Bool.eq_iff_iff, g3, trial_iff]
theorem lmLoop (F p q : Nat) : ∀ (k N a b : Nat), b ≤ k → k < N → 0 < a → alert_leastMultiple_1 F N p q a b = bnd (nz (Nat.gcd a b : Int)) fun _ => some (w64 ((w64 (Int.tdiv (p : Int) (Nat.gcd a b : Int))) * (q : Int)))
  | k, 0, a, b, _, h, _ => by omega
  | k, N + 1, a, b, hk, hN, ha => by
    rw [alert_leastMultiple_1]
    by_cases h : b = 0
    · subst h
      rw [Nat.gcd_zero_right]
      rfl
    · have e : ((b : Int) == 0) = false := by rw [beq_eq_false_iff_ne]; omega
      have hlt := Nat.mod_lt a (show 0 < b by omega)
      rw [e, Bool.not_false, cond_true, nz_ok (show (b : Int) ≠ 0 by omega), bnd_eq, tmodN, lmLoop F p q (k - 1) N b (a % b) (by omega) (by omega) (by omega), show Nat.gcd b (a % b) = Nat.gcd a b by rw [Nat.gcd_comm b, ← Nat.gcd_rec, Nat.gcd_comm]]
def lcmT (a b : Nat) : Nat := a / Nat.gcd a b * b
theorem lm_eq (F a b : Nat) (hF : 50000 < F) (ha : 0 < a) (ha1 : a ≤ 40000) (hb1 : b ≤ 40000) : alert_leastMultiple F a b = some (lcmT a b : Int) := by
  have hg : 0 < Nat.gcd a b := Nat.gcd_pos_of_pos_left _ ha
  have h1 : a / Nat.gcd a b ≤ a := Nat.div_le_self _ _
  have h2 : a / Nat.gcd a b * b ≤ 40000 * 40000 := Nat.mul_le_mul (by omega) (by omega)
  have e : ((a / Nat.gcd a b * b : Nat) : Int) = ((a / Nat.gcd a b : Nat) : Int) * b := by push_cast; rfl
  unfold alert_leastMultiple lcmT
  rw [lmLoop F a b b F a b (Nat.le_refl _) (by omega) ha, nz_ok (show (Nat.gcd a b : Int) ≠ 0 by omega), bnd_eq, tdivN]
  generalize a / Nat.gcd a b = z at *
  rw [w64_id (n := (z : Int)) (by omega) (by omega), w64_id (by omega) (by omega), e]
def firstK (e L : Nat) : Nat → Nat → Option Nat
  | 0, _ => none
  | c + 1, i => if (i * L + 1) % e = 0 then some i else firstK e L c (i + 1)
theorem first_some {e L : Nat} : ∀ {c i k : Nat}, firstK e L c i = some k → i ≤ k ∧ k < i + c ∧ (k * L + 1) % e = 0
  | 0, i, k, h => by simp [firstK] at h
  | c + 1, i, k, h => by
    rw [firstK] at h
    split at h
    · simp only [Option.some.injEq] at h; subst h; exact ⟨Nat.le_refl _, by omega, by assumption⟩
    · have := first_some h; omega
theorem lin_w {i L : Nat} (hi : i ≤ 40000) (hL : L ≤ 1600000000) : w64 ((w64 ((i : Int) * (L : Int))) + 1) = ((i * L + 1 : Nat) : Int) := by
  have h : i * L ≤ 40000 * 1600000000 := Nat.mul_le_mul hi hL
  have e : ((i * L : Nat) : Int) = (i : Int) * L := by push_cast; rfl
  rw [w64_id (n := (i : Int) * L) (by omega) (by omega), w64_id (by omega) (by omega)]
  push_cast; rfl
def secT (e L : Nat) : Option Nat → Int
  | some k => (((k * L + 1) / e : Nat) : Int)
  | none => 0
theorem scLoop (F e L : Nat) (he : 3 ≤ e) (he1 : e ≤ 32749) (hL : L ≤ 1600000000) : ∀ (c N i : Nat), c = e - i → i ≤ e → c < N → alert_secretOf_1 F N e L e i = some (secT e L (firstK e L c i))
  | c, 0, i, _, _, h => by omega
  | 0, N + 1, i, hc, hi, _ => by
    rw [alert_secretOf_1, bif_neg' (by omega)]
    rfl
  | c + 1, N + 1, i, hc, hi, hN => by
    have h : i * L ≤ 40000 * 1600000000 := Nat.mul_le_mul (by omega) hL
    have hd : (i * L + 1) / e ≤ i * L + 1 := Nat.div_le_self _ _
    rw [alert_secretOf_1, bif_pos' (by omega), nz_ok (show (e : Int) ≠ 0 by omega), bnd_eq, bnd_eq, lin_w (by omega) hL, tmodN, tdivN, firstK]
    by_cases hz : (i * L + 1) % e = 0
    · have e0 : ((((i * L + 1) % e : Nat) : Int) == 0) = true := by rw [hz]; rfl
      rw [e0, cond_true, if_pos hz]
      show some (w64 (((i * L + 1) / e : Nat) : Int)) = some (((i * L + 1) / e : Nat) : Int)
      generalize (i * L + 1) / e = z at *
      rw [w64_id (by omega) (by omega)]
    · have e0 : ((((i * L + 1) % e : Nat) : Int) == 0) = false := by rw [beq_eq_false_iff_ne]; omega
      rw [e0, cond_false, if_neg hz, up (by omega)]
      exact scLoop F e L he he1 hL c N (i + 1) (by omega) (by omega) (by omega)
theorem secretOf_eq (F e L : Nat) (hF : 40000 < F) (he : 3 ≤ e) (he1 : e ≤ 32749) (hL : L ≤ 1600000000) : alert_secretOf F e L = some (secT e L (firstK e L e 0)) := by
  unfold alert_secretOf
  exact scLoop F e L he he1 hL e F 0 rfl (by omega) (by omega)
noncomputable def keyT (p q e : Int) : S_api_Key × Int × Int := bif primeB p && (primeB q && (!(p == q) && inR 3 e 32749)) then
    (match firstK e.toNat (lcmT (p.toNat - 1) (q.toNat - 1)) e.toNat 0 with
      | some k => (S_api_Key.mk ((p.toNat * q.toNat : Nat) : Int) e, (((k * lcmT (p.toNat - 1) (q.toNat - 1) + 1) / e.toNat : Nat) : Int), 0)
      | none => (S_api_Key.mk 0 0, 0, 100))
  else (S_api_Key.mk 0 0, 0, 100)
theorem primeB_rng {p : Int} (h : primeB p = true) : inR 3 p 32749 = true := by
  unfold primeB at h
  rw [Bool.and_eq_true] at h
  exact h.1
theorem lcm_le {a b : Nat} (ha : a ≤ 40000) (hb : b ≤ 40000) : lcmT a b ≤ 1600000000 := by
  have h1 : a / Nat.gcd a b ≤ a := Nat.div_le_self _ _
  have h2 : a / Nat.gcd a b * b ≤ 40000 * 40000 := Nat.mul_le_mul (by omega) (by omega)
  unfold lcmT
  omega
theorem makeKey_eq (F : Nat) (hF : 60000 < F) (p q e : Int) : alert_MakeKey F p q e = some (keyT p q e) := by
  unfold alert_MakeKey alert_MakeKey_1 alert_MakeKey_2 alert_MakeKey_3
  rw [isPrime_eq F (by omega), isPrime_eq F (by omega), isFrom_eq, bnd_eq, bnd_eq, bnd_eq]
  unfold keyT
  cases hp : primeB p with
  | false => rfl
  | true =>
    cases hq : primeB q with
    | false => rfl
    | true =>
      cases hpq : p == q with
      | true => rfl
      | false =>
        cases he : inR 3 e 32749 with
        | false => rfl
        | true =>
          have h1 := inR_iff.1 (primeB_rng hp)
          have h2 := inR_iff.1 (primeB_rng hq)
          have h3 := inR_iff.1 he
          obtain ⟨p, rfl⟩ : ∃ n : Nat, p = n := ⟨p.toNat, by omega⟩
          obtain ⟨q, rfl⟩ : ∃ n : Nat, q = n := ⟨q.toNat, by omega⟩
          obtain ⟨e, rfl⟩ : ∃ n : Nat, e = n := ⟨e.toNat, by omega⟩
          have e1 : w64 ((p : Int) - 1) = ((p - 1 : Nat) : Int) := by rw [w64_id (by omega) (by omega)]; omega
          have e2 : w64 ((q : Int) - 1) = ((q - 1 : Nat) : Int) := by rw [w64_id (by omega) (by omega)]; omega
          have hpq' : p * q ≤ 32749 * 32749 := Nat.mul_le_mul (by omega) (by omega)
          have epq : ((p * q : Nat) : Int) = (p : Int) * q := by push_cast; rfl
          have e3 : w64 ((p : Int) * q) = ((p * q : Nat) : Int) := by rw [w64_id (by omega) (by omega), epq]
          simp only [Bool.not_true, Bool.not_false, cond_false, cond_true, Bool.and_true, Bool.true_and, Int.toNat_natCast, e1, e2, e3]
          rw [lm_eq F _ _ (by omega) (by omega) (by omega) (by omega), bnd_eq, secretOf_eq F e _ (by omega) (by omega) (by omega) (lcm_le (by omega) (by omega)), bnd_eq]
          generalize lcmT (p - 1) (q - 1) = L
          cases hf : firstK e L e 0 with
          | none => rfl
          | some k =>
            have hz := (first_some hf).2.2
            have hpos : 0 < (k * L + 1) / e := Nat.div_pos (Nat.le_of_dvd (by omega) (Nat.dvd_of_mod_eq_zero hz)) (by omega)
            have e4 : ((secT e L (some k)) == 0) = false := by
              rw [beq_eq_false_iff_ne]
              show (((k * L + 1) / e : Nat) : Int) ≠ 0
              omega
            rw [e4]
            rfl
end Go.Ev.AlertSigned
