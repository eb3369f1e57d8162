/- Fermat's little theorem; powers that are undone. -/
import Derived.Test.YtoobfmfgbcohcaaDoorAlertSignedMath6
namespace Go.Ev.AlertSigned
open Go Go.Ev Go.Proofs
set_option linter.unusedVariables false
def PrimeN (p : Nat) : Prop := 2 ≤ p ∧ ∀ g, g ∣ p → g = 1 ∨ g = p
theorem prime_of_trial {p : Nat} (h2 : 2 ≤ p) (h : TrialAt p 2) : PrimeN p := by
  refine ⟨h2, fun g hg => ?_⟩
  obtain ⟨c, hc⟩ := hg
  apply Classical.byContradiction
  intro hn
  have hg0 : g ≠ 0 := by intro e; subst e; omega
  have hc0 : c ≠ 0 := by intro e; subst e; simp at hc; omega
  have hg1 : g ≠ 1 := fun e => hn (.inl e)
  have hc1 : c ≠ 1 := by intro e; subst e; exact hn (.inr (by omega))
  by_cases hle : g ≤ c
  · exact h g (by omega) (by rw [hc]; exact Nat.mul_le_mul (Nat.le_refl _) hle) (by rw [hc]; exact Nat.mul_mod_right _ _)
  · exact h c (by omega) (by rw [hc]; exact Nat.mul_le_mul (by omega) (Nat.le_refl _)) (by rw [hc]; exact Nat.mul_mod_left _ _)
theorem PrimeN.cop {p a : Nat} (h : PrimeN p) (ha : a % p ≠ 0) : Nat.Coprime a p := by
  rcases h.2 _ (Nat.gcd_dvd_right a p) with h1 | h1
  · exact h1
  · exact absurd (Nat.mod_eq_zero_of_dvd (h1 ▸ Nat.gcd_dvd_left a p)) ha
def prodN : List Nat → Nat
  | [] => 1
  | x :: l => x * prodN l
theorem prod_erase : ∀ {l : List Nat} {x : Nat}, x ∈ l → prodN l = x * prodN (l.erase x)
  | y :: l, x, h => by
    by_cases e : y = x
    · subst e; rw [List.erase_cons_head]; rfl
    · rw [List.erase_cons_tail (by simpa using e)]
      have : x ∈ l := by
        rcases List.mem_cons.1 h with rfl | h
        · exact absurd rfl e
        · exact h
      rw [prodN, prod_erase this, prodN]
      exact Nat.mul_left_comm _ _ _
theorem prod_same : ∀ (l l' : List Nat), l.Nodup → (∀ x ∈ l, x ∈ l') → l.length = l'.length → prodN l = prodN l'
  | [], l', _, _, h => by rw [List.length_eq_zero_iff.1 h.symm]
  | x :: t, l', hn, hs, hl => by
    have hx := hs x (by simp)
    rw [prod_erase hx, prodN]
    have hn' := List.nodup_cons.1 hn
    rw [prod_same t (l'.erase x) hn'.2 (fun y hy => (List.mem_erase_of_ne (fun e => by subst e; exact hn'.1 hy)).2 (hs y (by simp [hy]))) (by rw [List.length_erase_of_mem hx, ← hl]; simp)]
theorem prod_map (a p : Nat) : ∀ l : List Nat, prodN (l.map fun x => a * x % p) % p = a ^ l.length * prodN l % p
  | [] => by simp [prodN]
  | x :: l => by
    rw [List.map_cons, prodN, prodN, Nat.mul_mod, Nat.mod_mod, prod_map a p l, ← Nat.mul_mod, List.length_cons, Nat.pow_succ]
    congr 1
    rw [Nat.mul_assoc, Nat.mul_assoc, Nat.mul_left_comm x, ← Nat.mul_assoc, Nat.mul_comm a, Nat.mul_assoc]
theorem prod_cop {p : Nat} : ∀ {l : List Nat}, (∀ x ∈ l, Nat.Coprime x p) → Nat.Coprime (prodN l) p
  | [], _ => Nat.coprime_one_left p
  | x :: l, h => Nat.Coprime.mul_left (h x (by simp)) (prod_cop fun y hy => h y (by simp [hy]))
def resN (p : Nat) : List Nat := (List.range (p - 1)).map (· + 1)
theorem mem_res {p x : Nat} : x ∈ resN p ↔ 1 ≤ x ∧ x < p := by
  unfold resN
  rw [List.mem_map]
  constructor
  · rintro ⟨y, hy, rfl⟩
    have := List.mem_range.1 hy
    omega
  · rintro ⟨h1, h2⟩
    exact ⟨x - 1, List.mem_range.2 (by omega), by omega⟩
theorem cancel_mod {p c x y : Nat} (hc : Nat.Coprime p c) (h : x * c % p = y * c % p) : x % p = y % p := by
  have key : ∀ {x y : Nat}, y ≤ x → x * c % p = y * c % p → x % p = y % p := by
    intro x y hle h
    have h1 : p ∣ x * c - y * c := Nat.dvd_of_mod_eq_zero (Nat.sub_mod_eq_zero_of_mod_eq h)
    rw [← Nat.sub_mul] at h1
    have h2 : p ∣ x - y := hc.dvd_of_dvd_mul_right h1
    obtain ⟨t, ht⟩ := h2
    rw [show x = y + p * t by omega, Nat.add_mul_mod_self_left]
  rcases Nat.le_total y x with hle | hle
  · exact key hle h
  · exact (key hle h.symm).symm
theorem fermat {p a : Nat} (hp : PrimeN p) (ha : a % p ≠ 0) : a ^ (p - 1) % p = 1 := by
  have hcop := hp.cop ha
  have h2 := hp.1
  have hmem : ∀ x ∈ (resN p).map (fun x => a * x % p), x ∈ resN p := by
    intro y hy
    obtain ⟨x, hx, rfl⟩ := List.mem_map.1 hy
    have hx' := mem_res.1 hx
    refine mem_res.2 ⟨?_, Nat.mod_lt _ (by omega)⟩
    apply Classical.byContradiction
    intro hn
    have h0 : a * x % p = 0 := by omega
    have h1 : p ∣ x := hcop.symm.dvd_of_dvd_mul_left (Nat.dvd_of_mod_eq_zero h0)
    have := Nat.le_of_dvd (by omega) h1
    omega
  have hnd : ((resN p).map (fun x => a * x % p)).Nodup := by
    have hnr : (resN p).Nodup := by
      unfold resN
      exact List.Pairwise.map _ (fun x y h e => h (by omega)) List.nodup_range
    refine List.pairwise_map.2 (List.Pairwise.imp_of_mem ?_ hnr)
    intro x y hx hy hne he
    have hx' := mem_res.1 hx
    have hy' := mem_res.1 hy
    rw [Nat.mul_comm a, Nat.mul_comm a] at he
    have := cancel_mod hcop.symm he
    rw [Nat.mod_eq_of_lt hx'.2, Nat.mod_eq_of_lt hy'.2] at this
    exact hne this
  have hpr := prod_same _ _ hnd hmem (by simp)
  have h3 := prod_map a p (resN p)
  rw [hpr] at h3
  have hlen : (resN p).length = p - 1 := by simp [resN]
  rw [hlen] at h3
  have hc : Nat.Coprime (prodN (resN p)) p := prod_cop fun x hx => hp.cop (by
    have := mem_res.1 hx
    rw [Nat.mod_eq_of_lt this.2]; omega)
  have h4 : (a ^ (p - 1)) % p = 1 % p := cancel_mod (c := prodN (resN p)) hc.symm (by rw [Nat.one_mul]; exact h3.symm)
  rw [h4, Nat.mod_eq_of_lt (by omega)]
theorem fermat_all {p : Nat} (hp : PrimeN p) (a t : Nat) : a ^ (t * (p - 1) + 1) % p = a % p := by
  by_cases ha : a % p = 0
  · rw [Nat.pow_mod, ha, Nat.zero_pow (by omega), Nat.zero_mod]
  · rw [Nat.pow_succ, Nat.mul_mod, Nat.mul_comm t, Nat.pow_mul, Nat.pow_mod (a ^ (p - 1)), fermat hp ha, Nat.one_pow]
    have h2 := hp.1
    rw [Nat.mod_eq_of_lt (show 1 < p by omega), Nat.one_mul, Nat.mod_mod]
theorem crt {p q x y : Nat} (hc : Nat.Coprime p q) (h1 : x % p = y % p) (h2 : x % q = y % q) : x % (p * q) = y % (p * q) := by
  have key : ∀ {x y : Nat}, y ≤ x → x % p = y % p → x % q = y % q → x % (p * q) = y % (p * q) := by
    intro x y hle h1 h2
    have g1 : p ∣ x - y := Nat.dvd_of_mod_eq_zero (Nat.sub_mod_eq_zero_of_mod_eq h1)
    have g2 : q ∣ x - y := Nat.dvd_of_mod_eq_zero (Nat.sub_mod_eq_zero_of_mod_eq h2)
    obtain ⟨t, ht⟩ := hc.mul_dvd_of_dvd_of_dvd g1 g2
    rw [show x = y + p * q * t by omega, Nat.add_mul_mod_self_left]
  rcases Nat.le_total y x with hle | hle
  · exact key hle h1 h2
  · exact (key hle h1.symm h2.symm).symm
theorem lcm_dvd {a b : Nat} (ha : 0 < a) : a ∣ lcmT a b ∧ b ∣ lcmT a b := by
  refine ⟨?_, Nat.dvd_mul_left _ _⟩
  obtain ⟨t, ht⟩ := Nat.gcd_dvd_right a b
  unfold lcmT
  refine ⟨t, ?_⟩
  conv => lhs; rhs; rw [ht]
  rw [← Nat.mul_assoc, Nat.div_mul_cancel (Nat.gcd_dvd_left a b)]
theorem rsa {p q e k : Nat} (hp : PrimeN p) (hq : PrimeN q) (hpq : p ≠ q) (hz : (k * lcmT (p - 1) (q - 1) + 1) % e = 0) (a : Nat) : a ^ (e * ((k * lcmT (p - 1) (q - 1) + 1) / e)) % (p * q) = a % (p * q) := by
  have h1 := hp.1
  have h2 := hq.1
  rw [Nat.mul_div_cancel' (Nat.dvd_of_mod_eq_zero hz)]
  obtain ⟨⟨u, hu⟩, ⟨v, hv⟩⟩ := lcm_dvd (a := p - 1) (b := q - 1) (by omega)
  have hcop : Nat.Coprime p q := by
    refine hq.cop fun h0 => ?_
    rcases hp.2 q (Nat.dvd_of_mod_eq_zero h0) with h | h
    · omega
    · exact hpq h.symm
  refine crt hcop ?_ ?_
  · have := fermat_all hp a (k * u)
    rwa [show k * u * (p - 1) = k * lcmT (p - 1) (q - 1) by rw [hu, Nat.mul_comm (p - 1), Nat.mul_assoc]] at this
  · have := fermat_all hq a (k * v)
    rwa [show k * v * (q - 1) = k * lcmT (p - 1) (q - 1) by rw [hv, Nat.mul_comm (q - 1), Nat.mul_assoc]] at this
theorem sign_only {p q e k : Nat} (hp : PrimeN p) (hq : PrimeN q) (hpq : p ≠ q) (hz : (k * lcmT (p - 1) (q - 1) + 1) % e = 0) (d o : Nat) (ho : o < p * q) :
    ((d ^ ((k * lcmT (p - 1) (q - 1) + 1) / e) % (p * q)) ^ e % (p * q) = d % (p * q)) ∧ (o ^ e % (p * q) = d % (p * q) ↔ o = d ^ ((k * lcmT (p - 1) (q - 1) + 1) / e) % (p * q)) := by
  have h1 : (d ^ ((k * lcmT (p - 1) (q - 1) + 1) / e) % (p * q)) ^ e % (p * q) = d % (p * q) := by
    rw [← Nat.pow_mod, ← Nat.pow_mul, Nat.mul_comm]
    exact rsa hp hq hpq hz d
  refine ⟨h1, fun h => ?_, fun h => by rw [h]; exact h1⟩
  have h2 := rsa hp hq hpq hz o
  rw [Nat.pow_mul, Nat.pow_mod, h, ← Nat.pow_mod, Nat.mod_eq_of_lt ho] at h2
  exact h2.symm
end Go.Ev.AlertSigned
