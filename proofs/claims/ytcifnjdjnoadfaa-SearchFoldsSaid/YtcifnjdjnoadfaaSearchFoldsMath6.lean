/- Strengths, and their comparison. -/
import Derived.Test.YtcifnjdjnoadfaaSearchFoldsMath5
namespace Go.Ev.SearchFolds
open Go Go.Ev Go.Proofs
set_option linter.unusedVariables false
theorem sq_le {a : Int} {M : Nat} (h : -(M : Int) ≤ a ∧ a ≤ (M : Int)) : a * a ≤ ((M * M : Nat) : Int) := by
  have h1 : a.natAbs ≤ M := by omega
  have h2 : a * a = ((a.natAbs * a.natAbs : Nat) : Int) := Int.natAbs_mul_self.symm
  have h3 : a.natAbs * a.natAbs ≤ M * M := Nat.mul_le_mul h1 h1
  omega
theorem ar1 {p m : Nat} (h : m * p ≤ 1024) (hm : m ≤ 1024) : p * (m * 16384 * (m * 16384)) ≤ 281474976710656 := by
  have e : p * (m * 16384 * (m * 16384)) = (m * p) * (m * 268435456) := by grind
  rw [e]
  exact Nat.mul_le_mul h (Nat.mul_le_mul_right 268435456 hm)
theorem sqfo {x : List Int} (hx : smallV x) (hxl : x.length ≤ 1024) (p : Nat) : ssq (fo x p) ≤ 281474976710656 := by
  have hd := div_in (n := x.length) (p := p)
  have hq : x.length / p ≤ x.length := Nat.div_le_self _ _
  unfold fo fl
  rw [ssq_range]
  generalize x.length / p = m at *
  refine Int.le_trans (sumR_le (g := fun _ => ((m * 16384 * (m * 16384) : Nat) : Int)) fun j hj => ?_) ?_
  · refine sq_le ?_
    have := fs_bound hx p j (m * p)
    rw [fc_whole p j m hj] at this
    rw [Int.natCast_mul]
    exact this
  · rw [sumR_const, ← Int.natCast_mul]
    have := ar1 (p := p) (m := m) (by omega) (by omega)
    omega
theorem strength_eq (F : Nat) (hF : 1024 < F) (x : List Int) (hx : smallV x) (hxl : x.length ≤ 1024) (p : Nat) (hp : 0 < p) (hpl : p ≤ x.length) : search_strengthOf F x p = some ⟨ssq (fo x p), ((x.length / p : Nat) : Int)⟩ := by
  have h1 := sqfo hx hxl p
  have h2 : (fo x p).length = p := fl_len _ _ _
  unfold search_strengthOf
  rw [fold_eq F hF x hx hxl p hp hpl, bnd_eq]
  simp only
  rw [power_eq F _ (by omega) (by omega) (by omega)]
  rfl
def cmpI (a b : Int) : Int := if a < b then -1 else if b < a then 1 else 0
theorem cmp_eq (F : Nat) (a b : Int) : cmp_Compare F a b = some (cmpI a b) := by
  unfold cmp_Compare cmp_isNaN cmpI
  simp only [beq_self_eq_true, Bool.not_true, bnd_eq, cond_false]
  by_cases h : a < b
  · rw [bif_pos' h, if_pos h]
  · rw [bif_neg' h, if_neg h]
    by_cases h2 : b < a
    · rw [bif_pos' h2, if_pos h2]
    · rw [bif_neg' h2, if_neg h2]
theorem scmp_eq (F : Nat) (s t : S_search_strength) (h1 : -4611686018427387904 ≤ s.squares * t.folds ∧ s.squares * t.folds ≤ 4611686018427387904) (h2 : -4611686018427387904 ≤ t.squares * s.folds ∧ t.squares * s.folds ≤ 4611686018427387904) :
    search_strength_compare F s t = some (cmpI (s.squares * t.folds) (t.squares * s.folds)) := by
  unfold search_strength_compare
  rw [w64_id (by omega) (by omega), w64_id (by omega) (by omega), cmp_eq]
  rfl
theorem prod_in {a : Int} {m : Nat} (h0 : 0 ≤ a) (h1 : a ≤ 281474976710656) (hm : m ≤ 1024) : 0 ≤ a * (m : Int) ∧ a * (m : Int) ≤ 288230376151711744 := by
  refine ⟨Int.mul_nonneg h0 (by omega), ?_⟩
  have h2 : a * (m : Int) ≤ 281474976710656 * (m : Int) := Int.mul_le_mul_of_nonneg_right h1 (by omega)
  omega
theorem periods1 (F : Nat) (n : Int) (L : List Int) (hL : L.length ≤ 1000000) : ∀ (k N i : Nat), k = L.length - i → i ≤ L.length → k < N → search_arePeriods_1 F N n L L.length i = some ((L.drop i).all fun p => inR 1 p n)
  | k, 0, i, _, _, h => by omega
  | 0, N + 1, i, hk, hi, _ => by
    rw [search_arePeriods_1, bif_neg' (by omega : ¬ ((i : Int) < L.length)), List.drop_of_length_le (by omega)]
    rfl
  | k + 1, N + 1, i, hk, hi, hN => by
    obtain ⟨a, ha⟩ := get_lt (l := L) (i := i) (by omega)
    rw [search_arePeriods_1, bif_pos' (by omega : ((i : Int) < L.length)), idx_nat, ha, bnd_eq, isFrom_eq, bnd_eq, drop_get ha, List.all_cons]
    cases inR 1 a n with
    | false => rfl
    | true =>
      simp only [Bool.not_true, cond_false, Bool.true_and]
      rw [up (by omega), periods1 F n L hL k N (i + 1) (by omega) (by omega) (by omega)]
def errP (x : List Int) (L : List Int) : Int := bif isRec x then (bif L.all fun p => inR 1 p x.length then 0 else 8) else 82
theorem checkP_eq (F : Nat) (hF : 1024 < F) (x : List Int) (L : List Int) (hl : x.length ≤ 9223372036854775807) (hL : L.length ≤ 4) : search_checkPeriods F x L = some (errP x L) := by
  unfold search_checkPeriods errP
  rw [record_eq F x hF hl, bnd_eq]
  cases isRec x with
  | false => rfl
  | true =>
    have h1 := periods1 F x.length L (by omega) L.length F 0 rfl (Nat.zero_le _) (by omega)
    rw [List.drop_zero] at h1
    have h2 : search_arePeriods F x.length L = some (L.all fun p => inR 1 p x.length) := h1
    rw [Bool.not_true, cond_false, h2, bnd_eq]
    cases (L.all fun p => inR 1 p x.length) <;> rfl
theorem errP_0 {x L : List Int} (h : errP x L = 0) : x.length ≤ 1024 ∧ smallV x ∧ ∀ p ∈ L, 1 ≤ p ∧ p ≤ (x.length : Int) := by
  unfold errP at h
  cases e : isRec x with
  | false => rw [e, cond_false] at h; exact absurd h (by decide)
  | true =>
    rw [e, cond_true] at h
    obtain ⟨h1, h2⟩ := isRec_ok e
    cases e2 : (L.all fun p => inR 1 p x.length) with
    | false => rw [e2, cond_false] at h; exact absurd h (by decide)
    | true => exact ⟨h1, smallV_of h2, fun p hp => inR_iff.1 (List.all_eq_true.1 e2 p hp)⟩
def cmpS (x : List Int) (p q : Nat) : Int := cmpI (ssq (fo x p) * ((x.length / q : Nat) : Int)) (ssq (fo x q) * ((x.length / p : Nat) : Int))
theorem scmp2 (F : Nat) {x : List Int} (hx : smallV x) (hxl : x.length ≤ 1024) (p q : Nat) : search_strength_compare F ⟨ssq (fo x p), ((x.length / p : Nat) : Int)⟩ ⟨ssq (fo x q), ((x.length / q : Nat) : Int)⟩ = some (cmpS x p q) := by
  have h1 := prod_in (ssq_nn (fo x p)) (sqfo hx hxl p) (m := x.length / q) (Nat.le_trans (Nat.div_le_self _ _) hxl)
  have h2 := prod_in (ssq_nn (fo x q)) (sqfo hx hxl q) (m := x.length / p) (Nat.le_trans (Nat.div_le_self _ _) hxl)
  exact scmp_eq F _ _ ⟨by simp only; omega, by simp only; omega⟩ ⟨by simp only; omega, by simp only; omega⟩
theorem Fold_eq (F : Nat) (hF : 1024 < F) (x : List Int) (p : Int) (hl : x.length ≤ 9223372036854775807) : search_Fold F x p = some (bif errP x [p] == 0 then fo x p.toNat else [], errP x [p]) := by
  unfold search_Fold
  rw [checkP_eq F hF x [p] hl (by simp), bnd_eq]
  cases e : (errP x [p] == 0) with
  | false => rfl
  | true =>
    have e' := e
    rw [beq_iff_eq] at e'
    obtain ⟨h1, h2, h3⟩ := errP_0 e'
    have hp := h3 p (by simp)
    obtain ⟨n, rfl⟩ : ∃ n : Nat, p = n := ⟨p.toNat, by omega⟩
    rw [Bool.not_true, cond_false, fold_eq F hF x h2 h1 n (by omega) (by omega), bnd_eq, e', Int.toNat_natCast]
    rfl
theorem Compare_eq (F : Nat) (hF : 1024 < F) (x : List Int) (p q : Int) (hl : x.length ≤ 9223372036854775807) : search_Compare F x p q = some (bif errP x [p, q] == 0 then cmpS x p.toNat q.toNat else 0, errP x [p, q]) := by
  unfold search_Compare
  rw [checkP_eq F hF x [p, q] hl (by simp), bnd_eq]
  cases e : (errP x [p, q] == 0) with
  | false => rfl
  | true =>
    have e' := e
    rw [beq_iff_eq] at e'
    obtain ⟨h1, h2, h3⟩ := errP_0 e'
    have hp := h3 p (by simp)
    have hq := h3 q (by simp)
    obtain ⟨n, rfl⟩ : ∃ n : Nat, p = n := ⟨p.toNat, by omega⟩
    obtain ⟨k, rfl⟩ : ∃ k : Nat, q = k := ⟨q.toNat, by omega⟩
    rw [Bool.not_true, cond_false, strength_eq F hF x h2 h1 n (by omega) (by omega), bnd_eq, strength_eq F hF x h2 h1 k (by omega) (by omega), bnd_eq, scmp2 F h2 h1, bnd_eq, e', Int.toNat_natCast, Int.toNat_natCast]
    rfl
end Go.Ev.SearchFolds
