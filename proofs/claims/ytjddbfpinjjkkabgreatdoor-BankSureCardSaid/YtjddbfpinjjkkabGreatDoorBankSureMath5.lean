/- The least amplitude that is sure; what is buried in noise; the hits of a bank. -/
import Derived.Test.YtjddbfpinjjkkabGreatDoorBankSureMath4
namespace Go.Ev.BankSure
open Go Go.Ev Go.Proofs
set_option linter.unusedVariables false
theorem dot_big : ∀ (h y : List Int), (∀ x ∈ h, -127 ≤ x ∧ x ≤ 127) → (∀ x ∈ y, -32768 ≤ x ∧ x ≤ 32768) → -(4161536 * h.length) ≤ dot h y ∧ dot h y ≤ 4161536 * h.length
  | [], y, _, _ => by simp [dot]
  | h :: r, [], _, _ => by simp [dot]; omega
  | h :: r, z :: y, h1, h2 => by
    have ih := dot_big r y (fun x hx => h1 x (List.mem_cons_of_mem _ hx)) (fun x hx => h2 x (List.mem_cons_of_mem _ hx))
    have := mul_in (a := h) (b := z) (x := 127) (y := 32768) (h1 h List.mem_cons_self) (h2 z List.mem_cons_self) (by omega) (by omega)
    simp only [dot, List.length_cons]
    omega
def rch (c : S_api_Chirp) (n : Nat) : Int := absS (wvL c n)
theorem rch_in (c : S_api_Chirp) (n : Nat) (h : n ≤ 64) : 0 ≤ rch c n ∧ rch c n ≤ 8128 := by
  have := absS_in (wvL c n) (wvL_in c n)
  rw [wvL_len] at this
  unfold rch
  omega
theorem reach1 (F : Nat) (l : List Int) (hl : l.length = 64) (hx : ∀ x ∈ l, -127 ≤ x ∧ x ≤ 127) : ∀ (k N i : Nat) (s : Int), k = 64 - i → i ≤ 64 → k < N → 0 ≤ s → s ≤ 127 * i → bank_wave_reach_1 F N s l i = some (s + absS (l.drop i))
  | k, 0, i, s, _, _, h, _, _ => by omega
  | 0, N + 1, i, s, hk, hi, _, _, _ => by
    rw [bank_wave_reach_1, bif_neg' (by omega), List.drop_of_length_le (by omega : l.length ≤ i)]
    simp [absS]
  | k + 1, N + 1, i, s, hk, hi, hN, h0, h1 => by
    obtain ⟨x, hx'⟩ := get_lt (l := l) (i := i) (by omega)
    have hb := hx x (List.mem_of_getElem? hx')
    rw [bank_wave_reach_1, bif_pos' (by omega), inA_nat (j := i) (by omega) rfl, bnd_eq, hx', bnd_eq, w64_id (n := -x) (by omega) (by omega), w64_id (n := s + max x (-x)) (by omega) (by omega), up (by omega), reach1 F l hl hx k N (i + 1) _ (by omega) (by omega) (by omega) (by omega) (by omega), drop_get hx', absS, Int.add_assoc]
theorem reach_eq (F : Nat) (hF : 70 < F) (c : S_api_Chirp) (n : Nat) (h : n ≤ 64) : bank_wave_reach F (WV c n) = some (rch c n) := by
  have hb : ∀ x ∈ w64L c n, -127 ≤ x ∧ x ≤ 127 := fun x hx => by
    unfold w64L at hx
    rcases List.mem_append.1 hx with hx | hx
    · exact wvL_in c n x hx
    · rw [List.eq_of_mem_replicate hx]; omega
  unfold bank_wave_reach
  rw [WV_par c n h, bnd_eq]
  have := reach1 F (w64L c n) (w64L_len c n h) hb 64 F 0 0 rfl (by omega) (by omega) (Int.le_refl _) (by omega)
  rw [List.drop_zero, Int.zero_add] at this
  have e : absS (w64L c n) = rch c n := by
    unfold w64L rch
    rw [absS_app, absS_zero, Int.add_zero]
  rw [e] at this
  exact this
def LPa (c : S_api_Chirp) (n : Nat) (nz bd a : Int) : Bool := decide (0 < a * nrm c n - nz * rch c n) && decide (bd * nrm c n ≤ (a * nrm c n - nz * rch c n) * (a * nrm c n - nz * rch c n))
theorem fd1 (n : Nat) : Int.fdiv (n : Int) (2 ^ (min 1 (IntKind.bits .u64))) = ((n / 2 : Nat) : Int) := by
  have : (2 : Int) ^ (min 1 (IntKind.bits .u64)) = 2 := by decide
  rw [this, Int.fdiv_eq_ediv_of_nonneg _ (by omega)]
  rfl
theorem mul_le_n {a b A B : Int} (h1 : 0 ≤ a) (h2 : a ≤ A) (h3 : 0 ≤ b) (h4 : b ≤ B) : 0 ≤ a * b ∧ a * b ≤ A * B := ⟨Int.mul_nonneg h1 h3, Int.mul_le_mul h2 h4 h3 (by omega)⟩
theorem lp_run (F : Nat) (hF : 70 < F) (c : S_api_Chirp) (n : Nat) (h : n ≤ 64) (nz bd a : Int) (hz : 0 ≤ nz ∧ nz ≤ 32768) (hb : 0 ≤ bd ∧ bd ≤ 68719476736) (ha : 0 ≤ a ∧ a ≤ 1048576) : bank_isLoud F (w64 (w64 (a * nrm c n) - w64 (nz * rch c n))) (w64 (bd * nrm c n)) = some (LPa c n nz bd a) := by
  have h1 := nrm_in c n h
  have h2 := rch_in c n h
  have m1 := mul_le_n ha.1 ha.2 h1.1 h1.2
  have m2 := mul_le_n hz.1 hz.2 h2.1 h2.2
  have m3 := mul_le_n hb.1 hb.2 h1.1 h1.2
  rw [w64_id (n := a * nrm c n) (by omega) (by omega), w64_id (n := nz * rch c n) (by omega) (by omega), w64_id (n := bd * nrm c n) (by omega) (by omega), w64_id (n := a * nrm c n - nz * rch c n) (by omega) (by omega), loud_eq F (by omega) _ _ (by omega) (by omega)]
  rfl
theorem sr1 (F : Nat) (hF : 70 < F) (c : S_api_Chirp) (n : Nat) (h : n ≤ 64) (nz bd : Int) (hz : 0 ≤ nz ∧ nz ≤ 32768) (hb : 0 ≤ bd ∧ bd ≤ 68719476736) : ∀ (k N a b : Nat), b - a < 2 ^ k → k < N → a ≤ b → b ≤ 1048576 → (b < 1048576 → LPa c n nz bd ((b : Int) + 1) = true) →
    ∃ r : Nat, a ≤ r ∧ r ≤ b ∧ (r < 1048576 → LPa c n nz bd ((r : Int) + 1) = true) ∧ bank_sure_1 F N a b (WV c n) nz bd = some ((r : Int) + 1)
  | k, 0, a, b, _, h, _, _, _ => by omega
  | 0, N + 1, a, b, hk, _, hab, hb2, hp => by
    have : a = b := by simp at hk; omega
    subst this
    refine ⟨a, Nat.le_refl _, Nat.le_refl _, hp, ?_⟩
    rw [bank_sure_1, bif_neg' (by omega), w64_id (by omega) (by omega), Int.add_comm]
  | k + 1, N + 1, a, b, hk, hN, hab, hb2, hp => by
    by_cases hlt : a < b
    · have e2 : 2 ^ (k + 1) = 2 * 2 ^ k := by rw [Nat.pow_succ]; omega
      rw [e2] at hk
      have em : w64 (Int.fdiv (IntKind.wrap .u64 (w64 ((a : Int) + (b : Int)))) (2 ^ (min 1 (IntKind.bits .u64)))) = (((a + b) / 2 : Nat) : Int) := by
        have e0 : (a : Int) + (b : Int) = ((a + b : Nat) : Int) := by omega
        rw [e0, w64_id (n := ((a + b : Nat) : Int)) (by omega) (by omega), wu (n := a + b) (by omega), fd1, w64_id (by omega) (by omega)]
      have e3 : w64 ((((a + b) / 2 : Nat) : Int) + 1) = (((a + b) / 2 + 1 : Nat) : Int) := up (by omega)
      have hl := lp_run F hF c n h nz bd ((((a + b) / 2 + 1 : Nat) : Int)) hz hb (by omega)
      rw [bank_sure_1, bif_pos' (by omega), WV_65 c n h, bnd_eq, bnd_eq, reach_eq F hF c n h, bnd_eq, em, e3, hl, bnd_eq]
      cases e4 : LPa c n nz bd (((a + b) / 2 + 1 : Nat) : Int) with
      | false =>
        rw [Bool.not_false, cond_true]
        obtain ⟨r, r1, r2, r3, r4⟩ := sr1 F hF c n h nz bd hz hb k N ((a + b) / 2 + 1) b (by generalize 2 ^ k = p at hk ⊢; omega) (by omega) (by omega) hb2 hp
        exact ⟨r, by omega, r2, r3, r4⟩
      | true =>
        rw [Bool.not_true, cond_false]
        obtain ⟨r, r1, r2, r3, r4⟩ := sr1 F hF c n h nz bd hz hb k N a ((a + b) / 2) (by generalize 2 ^ k = p at hk ⊢; omega) (by omega) (by omega) (by omega) (fun _ => by
          have : (((a + b) / 2 : Nat) : Int) + 1 = (((a + b) / 2 + 1 : Nat) : Int) := by omega
          rw [this]
          exact e4)
        exact ⟨r, r1, by omega, r3, r4⟩
    · have : a = b := by omega
      subst this
      refine ⟨a, Nat.le_refl _, Nat.le_refl _, hp, ?_⟩
      rw [bank_sure_1, bif_neg' (by omega), w64_id (by omega) (by omega), Int.add_comm]
end Go.Ev.BankSure
