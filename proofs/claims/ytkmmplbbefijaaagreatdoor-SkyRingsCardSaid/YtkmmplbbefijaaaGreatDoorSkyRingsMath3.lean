/- Numbers divided by a root: compared by squares. -/
import Derived.Test.YtkmmplbbefijaaaGreatDoorSkyRingsMath2
namespace Go.Ev.SkyRings
open Go Go.Ev Go.Proofs
set_option linter.unusedVariables false
/-- The square with its sign. -/
def sq (x : Int) : Int := bif decide (x < 0) then -(x * x) else x * x
theorem sq_pos {x : Int} (h : 0 ≤ x) : sq x = x * x := by unfold sq; rw [decide_eq_false (by omega)]; rfl
theorem sq_neg {x : Int} (h : x ≤ 0) : sq x = -(x * x) := by
  unfold sq
  by_cases h0 : x < 0
  · rw [decide_eq_true h0]; rfl
  · obtain rfl : x = 0 := by omega
    rfl
theorem sq_minus (x : Int) : sq (-x) = -(sq x) := by
  by_cases h : 0 ≤ x
  · rw [sq_pos h, sq_neg (by omega)]; grind
  · rw [sq_neg (by omega : x ≤ 0), sq_pos (by omega)]; grind
theorem sq_mono {x y : Int} (h : x ≤ y) : sq x ≤ sq y := by
  by_cases hx : 0 ≤ x
  · rw [sq_pos hx, sq_pos (by omega)]
    exact Int.mul_le_mul h h hx (by omega)
  · by_cases hy : 0 ≤ y
    · rw [sq_neg (by omega : x ≤ 0), sq_pos hy]
      have h1 := Int.mul_nonneg hy hy
      have h2 := Int.mul_nonneg (show 0 ≤ -x by omega) (show 0 ≤ -x by omega)
      have e : -x * -x = x * x := by grind
      omega
    · rw [sq_neg (by omega : x ≤ 0), sq_neg (by omega : y ≤ 0)]
      have h1 : -y * -y ≤ -x * -x := Int.mul_le_mul (by omega) (by omega) (by omega) (by omega)
      have e1 : -y * -y = y * y := by grind
      have e2 : -x * -x = x * x := by grind
      omega
/-- k times the root of u is at most a. -/
def leR (u k a : Int) : Prop := sq k * u ≤ sq a
instance (u k a : Int) : Decidable (leR u k a) := inferInstanceAs (Decidable (_ ≤ _))
def halve (x y : Int) : Int := (x + y) / 2
theorem half_eq {x y : Int} (hx : 0 ≤ x ∧ x ≤ 1000000000) (hy : 0 ≤ y ∧ y ≤ 1000000000) : w64 (Int.fdiv (IntKind.wrap .u64 (w64 (x + y))) (2 ^ (min 1 (IntKind.bits .u64)))) = (x + y) / 2 := by
  rw [w64_id (n := x + y) (by omega) (by omega)]
  have e : IntKind.wrap .u64 (x + y) = x + y := wrap_in .u64 (x + y) (by show (0 : Int) ≤ _; omega) (by show _ ≤ (18446744073709551615 : Int); omega)
  rw [e, show min 1 (IntKind.bits .u64) = 1 from rfl, show (2 : Int) ^ 1 = 2 from rfl, Int.fdiv_eq_ediv_of_nonneg _ (by omega), w64_id (by omega) (by omega)]
/-- What is passed while the search halves. -/
theorem search {α : Type} (g : Nat → Int → Int → Option α) (p : Int → Bool) (fin : Int → Option α) (B : Int) (hB : B ≤ 1000000000)
    (hstep : ∀ N x y, 0 ≤ x → x < y → y ≤ B → g (N + 1) x y = bif p ((x + y) / 2) then g N x ((x + y) / 2) else g N ((x + y) / 2 + 1) y) (hend : ∀ N x, g (N + 1) x x = fin x) :
    ∀ (N : Nat) (x y : Int), 0 ≤ x → x ≤ y → y ≤ B → y - x < 2 ^ N → (∀ i, 0 ≤ i → i < x → p i = false) → (y < B → p y = true) → (∀ i j, 0 ≤ i → i ≤ j → p i = true → p j = true) → ∃ r, g (N + 1) x y = fin r ∧ 0 ≤ r ∧ r ≤ B ∧ (∀ i, 0 ≤ i → i < r → p i = false) ∧ (r < B → p r = true)
  | 0, x, y, h0, h1, h2, h3, h4, h5, h6 => by
    obtain rfl : x = y := by have : (2 : Int) ^ 0 = 1 := rfl; omega
    exact ⟨x, hend 0 x, h0, h2, h4, h5⟩
  | N + 1, x, y, h0, h1, h2, h3, h4, h5, h6 => by
    have e2 : (2 : Int) ^ (N + 1) = 2 * 2 ^ N := by rw [Int.pow_succ]; omega
    by_cases he : x = y
    · subst he
      exact ⟨x, hend (N + 1) x, h0, h2, h4, h5⟩
    · rw [hstep (N + 1) x y h0 (by omega) h2]
      cases hp : p ((x + y) / 2) with
      | true => exact search g p fin B hB hstep hend N x ((x + y) / 2) h0 (by omega) (by omega) (by omega) h4 (fun _ => hp) h6
      | false =>
        refine search g p fin B hB hstep hend N ((x + y) / 2 + 1) y (by omega) (by omega) h2 (by omega) (fun i hi hlt => ?_) h5 h6
        cases hi2 : p i with
        | false => rfl
        | true => rw [h6 i ((x + y) / 2) hi (by omega) hi2] at hp; exact absurd hp (by simp)
structure RatB (r : S_sky_ratio) : Prop where
  t1 : -4000000 ≤ r.top
  t2 : r.top ≤ 4000000
  u1 : 1 ≤ r.under
  u2 : r.under ≤ 1000
theorem sq_le {x : Int} {B : Int} (h : 0 ≤ x ∧ x ≤ B) : 0 ≤ x * x ∧ x * x ≤ B * B := ⟨Int.mul_nonneg h.1 h.1, Int.mul_le_mul h.2 h.2 h.1 (by omega)⟩
theorem sq_top {x : Int} (h : -4000000 ≤ x ∧ x ≤ 4000000) : 0 ≤ x * x ∧ x * x ≤ 16000000000000 := by
  by_cases h0 : 0 ≤ x
  · exact sq_le (B := 4000000) (by omega)
  · have := sq_le (x := -x) (B := 4000000) (by omega)
    have e : -x * -x = x * x := by grind
    omega
theorem sq_u {x u : Int} (h : 0 ≤ x ∧ x ≤ 4000001) (hu : 1 ≤ u ∧ u ≤ 1000) : 0 ≤ x * x * u ∧ x * x * u ≤ 16000008000001000 := by
  have := sq_le h
  exact ⟨Int.mul_nonneg this.1 (by omega), Int.mul_le_mul this.2 hu.2 (by omega) (by omega)⟩
theorem down2_step (F N : Nat) (r : S_sky_ratio) (h : RatB r) (x y : Int) (hx : 0 ≤ x) (hy : x < y) (hyB : y ≤ 4000001) : sky_ratio_down_2 F (N + 1) x y r = bif decide (r.top * r.top < (x + y) / 2 * ((x + y) / 2) * r.under) then sky_ratio_down_2 F N x ((x + y) / 2) r else sky_ratio_down_2 F N ((x + y) / 2 + 1) y r := by
  have hh := half_eq (x := x) (y := y) (by omega) (by omega)
  have ht := sq_top ⟨h.t1, h.t2⟩
  have hq := sq_le (x := (x + y) / 2) (B := 4000001) (by omega)
  have hu := sq_u (x := (x + y) / 2) (by omega) ⟨h.u1, h.u2⟩
  rw [sky_ratio_down_2, bif_pos' hy, hh]
  rw [w64_id (n := r.top * r.top) (by omega) (by omega), w64_id (n := (x + y) / 2 * ((x + y) / 2)) (by omega) (by omega), w64_id (n := (x + y) / 2 * ((x + y) / 2) * r.under) (by omega) (by omega), w64_id (n := (x + y) / 2 + 1) (by omega) (by omega)]
  cases decide (r.top * r.top < (x + y) / 2 * ((x + y) / 2) * r.under) <;> rfl
theorem down1_step (F N : Nat) (r : S_sky_ratio) (h : RatB r) (x y : Int) (hx : 0 ≤ x) (hy : x < y) (hyB : y ≤ 4000001) : sky_ratio_down_1 F (N + 1) x y r = bif decide (r.top * r.top ≤ (x + y) / 2 * ((x + y) / 2) * r.under) then sky_ratio_down_1 F N x ((x + y) / 2) r else sky_ratio_down_1 F N ((x + y) / 2 + 1) y r := by
  have hh := half_eq (x := x) (y := y) (by omega) (by omega)
  have ht := sq_top ⟨h.t1, h.t2⟩
  have hq := sq_le (x := (x + y) / 2) (B := 4000001) (by omega)
  have hu := sq_u (x := (x + y) / 2) (by omega) ⟨h.u1, h.u2⟩
  rw [sky_ratio_down_1, bif_pos' hy, hh]
  rw [w64_id (n := r.top * r.top) (by omega) (by omega), w64_id (n := (x + y) / 2 * ((x + y) / 2)) (by omega) (by omega), w64_id (n := (x + y) / 2 * ((x + y) / 2) * r.under) (by omega) (by omega), w64_id (n := (x + y) / 2 + 1) (by omega) (by omega)]
  cases decide (r.top * r.top ≤ (x + y) / 2 * ((x + y) / 2) * r.under) <;> rfl
theorem up1_step (F N : Nat) (r : S_sky_ratio) (h : RatB r) (x y : Int) (hx : 0 ≤ x) (hy : x < y) (hyB : y ≤ 4000001) : sky_ratio_up_1 F (N + 1) x y r = bif decide (r.top * r.top ≤ (x + y) / 2 * ((x + y) / 2) * r.under) then sky_ratio_up_1 F N x ((x + y) / 2) r else sky_ratio_up_1 F N ((x + y) / 2 + 1) y r := by
  have hh := half_eq (x := x) (y := y) (by omega) (by omega)
  have ht := sq_top ⟨h.t1, h.t2⟩
  have hq := sq_le (x := (x + y) / 2) (B := 4000001) (by omega)
  have hu := sq_u (x := (x + y) / 2) (by omega) ⟨h.u1, h.u2⟩
  rw [sky_ratio_up_1, bif_pos' hy, hh]
  rw [w64_id (n := r.top * r.top) (by omega) (by omega), w64_id (n := (x + y) / 2 * ((x + y) / 2)) (by omega) (by omega), w64_id (n := (x + y) / 2 * ((x + y) / 2) * r.under) (by omega) (by omega), w64_id (n := (x + y) / 2 + 1) (by omega) (by omega)]
  cases decide (r.top * r.top ≤ (x + y) / 2 * ((x + y) / 2) * r.under) <;> rfl
theorem mulsq_mono {i j u : Int} (hi : 0 ≤ i) (hij : i ≤ j) (hu : 0 ≤ u) : i * i * u ≤ j * j * u := Int.mul_le_mul_of_nonneg_right (Int.mul_le_mul hij hij hi (by omega)) hu
theorem fuel23 (F : Nat) (hF : 64 < F) : ∃ N, F = N + 1 ∧ (4000001 : Int) < 2 ^ N := by
  refine ⟨F - 1, by omega, ?_⟩
  have h1 : (2 : Nat) ^ 30 ≤ 2 ^ (F - 1) := Nat.pow_le_pow_right (by omega) (by omega)
  have h2 : ((2 ^ (F - 1) : Nat) : Int) = (2 : Int) ^ (F - 1) := by simp
  have h3 : ((2 : Nat) ^ 30) = 1073741824 := rfl
  omega
/-- The greatest whole number that is at most t, which is not below 0, divided by the root of u. -/
theorem down_pos (F : Nat) (hF : 64 < F) (r : S_sky_ratio) (h : RatB r) (ht : 0 ≤ r.top) : ∃ d, sky_ratio_down_2 F F 0 (r.top + 1) r = some d ∧ 0 ≤ d ∧ d ≤ r.top ∧ d * d * r.under ≤ r.top * r.top ∧ r.top * r.top < (d + 1) * (d + 1) * r.under := by
  obtain ⟨N, hFN, hN⟩ := fuel23 F hF
  have hb := h.t2
  have hu := h.u1
  have e1 : r.top * r.top < (r.top + 1) * (r.top + 1) * r.under := by
    have h1 : (r.top + 1) * (r.top + 1) * 1 ≤ (r.top + 1) * (r.top + 1) * r.under := Int.mul_le_mul_of_nonneg_left hu (Int.mul_nonneg (by omega) (by omega))
    have e : (r.top + 1) * (r.top + 1) = r.top * r.top + 2 * r.top + 1 := by grind
    omega
  obtain ⟨x, h1, h2, h3, h4, h5⟩ := search (fun N x y => sky_ratio_down_2 F N x y r) (fun i => decide (r.top * r.top < i * i * r.under)) (fun x => some (w64 (x - 1))) (r.top + 1) (by omega)
    (fun N x y hx hy hyB => down2_step F N r h x y hx hy (by omega)) (fun N x => by show sky_ratio_down_2 F (N + 1) x x r = _; rw [sky_ratio_down_2, bif_neg' (by omega)]) N 0 (r.top + 1) (by omega) (by omega) (by omega) (by omega) (fun i hi hlt => by omega) (fun hlt => by omega)
    (fun i j hi hij hp => by
      have := mulsq_mono hi hij (show 0 ≤ r.under by omega)
      exact decide_eq_true (Int.lt_of_lt_of_le (of_decide_eq_true hp) this))
  have hx0 : x ≠ 0 := by
    intro e
    subst e
    have := of_decide_eq_true (h5 (by omega))
    have h6 := Int.mul_nonneg ht ht
    omega
  refine ⟨x - 1, ?_, by omega, by omega, ?_, ?_⟩
  · rw [hFN]
    rw [hFN] at h1
    refine h1.trans ?_
    show some (w64 (x - 1)) = _
    rw [w64_id (by omega) (by omega)]
  · have := of_decide_eq_false (h4 (x - 1) (by omega) (by omega))
    omega
  · rw [show x - 1 + 1 = x by omega]
    by_cases hxB : x < r.top + 1
    · exact of_decide_eq_true (h5 hxB)
    · rw [show x = r.top + 1 by omega]; exact e1
theorem up_any {α : Type} (g : Nat → Int → Int → Option α) (fin : Int → Option α) (r : S_sky_ratio) (h : RatB r) (ht : 0 ≤ r.top) (hstep : ∀ N x y, 0 ≤ x → x < y → y ≤ r.top → g (N + 1) x y = bif decide (r.top * r.top ≤ (x + y) / 2 * ((x + y) / 2) * r.under) then g N x ((x + y) / 2) else g N ((x + y) / 2 + 1) y) (hend : ∀ N x, g (N + 1) x x = fin x) (F : Nat) (hF : 64 < F) :
    ∃ d, g F 0 r.top = fin d ∧ 0 ≤ d ∧ d ≤ r.top ∧ r.top * r.top ≤ d * d * r.under ∧ ∀ i, 0 ≤ i → i < d → i * i * r.under < r.top * r.top := by
  obtain ⟨N, hFN, hN⟩ := fuel23 F hF
  have hb := h.t2
  have hu := h.u1
  have e1 : r.top * r.top ≤ r.top * r.top * r.under := by
    have h1 : r.top * r.top * 1 ≤ r.top * r.top * r.under := Int.mul_le_mul_of_nonneg_left hu (Int.mul_nonneg ht ht)
    omega
  obtain ⟨x, h1, h2, h3, h4, h5⟩ := search g (fun i => decide (r.top * r.top ≤ i * i * r.under)) fin r.top (by omega)
    hstep hend N 0 r.top (by omega) ht (by omega) (by omega) (fun i hi hlt => by omega) (fun hlt => by omega)
    (fun i j hi hij hp => by
      have := mulsq_mono hi hij (show 0 ≤ r.under by omega)
      exact decide_eq_true (Int.le_trans (of_decide_eq_true hp) this))
  refine ⟨x, by rw [hFN]; exact h1, h2, h3, ?_, fun i hi hlt => ?_⟩
  · by_cases hxB : x < r.top
    · exact of_decide_eq_true (h5 hxB)
    · rw [show x = r.top by omega]; exact e1
  · have := of_decide_eq_false (h4 i hi hlt)
    omega
theorem up_pos (F : Nat) (hF : 64 < F) (r : S_sky_ratio) (h : RatB r) (ht : 0 ≤ r.top) : ∃ d, sky_ratio_up_1 F F 0 r.top r = some d ∧ 0 ≤ d ∧ d ≤ r.top ∧ r.top * r.top ≤ d * d * r.under ∧ ∀ i, 0 ≤ i → i < d → i * i * r.under < r.top * r.top :=
  up_any (fun N x y => sky_ratio_up_1 F N x y r) some r h ht (fun N x y hx hy hyB => up1_step F N r h x y hx hy (by have := h.t2; omega)) (fun N x => by show sky_ratio_up_1 F (N + 1) x x r = _; rw [sky_ratio_up_1, bif_neg' (by omega)]) F hF
theorem down_neg (F : Nat) (hF : 64 < F) (r : S_sky_ratio) (h : RatB r) (ht : 0 ≤ r.top) : ∃ d, sky_ratio_down_1 F F 0 r.top r = some (-d) ∧ 0 ≤ d ∧ d ≤ r.top ∧ r.top * r.top ≤ d * d * r.under ∧ ∀ i, 0 ≤ i → i < d → i * i * r.under < r.top * r.top := by
  obtain ⟨d, h1, h2⟩ := up_any (fun N x y => sky_ratio_down_1 F N x y r) (fun x => some (w64 (-x))) r h ht (fun N x y hx hy hyB => down1_step F N r h x y hx hy (by have := h.t2; omega)) (fun N x => by show sky_ratio_down_1 F (N + 1) x x r = _; rw [sky_ratio_down_1, bif_neg' (by omega)]) F hF
  have hb := h.t2
  exact ⟨d, by rw [h1, w64_id (by omega) (by omega)], h2⟩
/-- Rounded down. -/
theorem down_spec (F : Nat) (hF : 64 < F) (r : S_sky_ratio) (h : RatB r) : ∃ d, sky_ratio_down F r = some d ∧ (-4000000 ≤ d ∧ d ≤ 4000000) ∧ ∀ k, k ≤ d ↔ leR r.under k r.top := by
  have hb1 := h.t1
  have hb2 := h.t2
  have hu := h.u1
  unfold sky_ratio_down
  by_cases ht : r.top < 0
  · obtain ⟨d, h1, h2, h3, h4, h5⟩ := down_neg F hF ⟨-r.top, r.under⟩ ⟨by simp only; omega, by simp only; omega, h.u1, h.u2⟩ (by simp only; omega)
    simp only at h1 h2 h3 h4 h5
    have e : -r.top * -r.top = r.top * r.top := by grind
    rw [e] at h4 h5
    rw [bif_pos' ht, w64_id (n := -r.top) (by omega) (by omega), bif_neg' (by omega)]
    refine ⟨-d, h1, by omega, fun k => ?_⟩
    unfold leR
    rw [sq_neg (by omega : r.top ≤ 0)]
    have htt := Int.mul_pos (show 0 < -r.top by omega) (show 0 < -r.top by omega)
    rw [e] at htt
    by_cases hk : 0 ≤ k
    · rw [sq_pos hk]
      have := Int.mul_nonneg (Int.mul_nonneg hk hk) (show 0 ≤ r.under by omega)
      have hd : d ≠ 0 := by intro e0; subst e0; omega
      constructor
      · intro h6; omega
      · intro h6; omega
    · rw [sq_neg (by omega : k ≤ 0)]
      have e2 : -(k * k) * r.under = -(-k * -k * r.under) := by grind
      rw [e2]
      constructor
      · intro h6
        have := mulsq_mono h2 (show d ≤ -k by omega) (show 0 ≤ r.under by omega)
        omega
      · intro h6
        apply Classical.byContradiction
        intro hn
        have := h5 (-k) (by omega) (by omega)
        omega
  · obtain ⟨d, h1, h2, h3, h4, h5⟩ := down_pos F hF r h (by omega)
    rw [bif_neg' ht, w64_id (n := r.top + 1) (by omega) (by omega)]
    refine ⟨d, h1, by omega, fun k => ?_⟩
    unfold leR
    rw [sq_pos (by omega : 0 ≤ r.top)]
    have htt := Int.mul_nonneg (show 0 ≤ r.top by omega) (show 0 ≤ r.top by omega)
    by_cases hk : 0 ≤ k
    · rw [sq_pos hk]
      constructor
      · intro h6
        exact Int.le_trans (mulsq_mono hk h6 (by omega)) h4
      · intro h6
        apply Classical.byContradiction
        intro hn
        have := mulsq_mono (show 0 ≤ d + 1 by omega) (show d + 1 ≤ k by omega) (show 0 ≤ r.under by omega)
        omega
    · rw [sq_neg (by omega : k ≤ 0)]
      have e2 : -(k * k) * r.under = -(-k * -k * r.under) := by grind
      have := Int.mul_nonneg (Int.mul_nonneg (show 0 ≤ -k by omega) (show 0 ≤ -k by omega)) (show 0 ≤ r.under by omega)
      rw [e2]
      constructor
      · intro h6; omega
      · intro h6; omega
/-- Rounded up. -/
theorem up_spec (F : Nat) (hF : 64 < F) (r : S_sky_ratio) (h : RatB r) : ∃ d, sky_ratio_up F r = some d ∧ (-4000000 ≤ d ∧ d ≤ 4000000) ∧ ∀ k, d ≤ k ↔ sq r.top ≤ sq k * r.under := by
  have hb1 := h.t1
  have hb2 := h.t2
  have hu := h.u1
  unfold sky_ratio_up
  by_cases ht : r.top < 0
  · obtain ⟨d, h1, h2, h3⟩ := down_spec F hF ⟨-r.top, r.under⟩ ⟨by simp only; omega, by simp only; omega, h.u1, h.u2⟩
    rw [bif_pos' ht, w64_id (n := -r.top) (by omega) (by omega), h1, bnd_eq, w64_id (by omega) (by omega)]
    refine ⟨-d, rfl, by omega, fun k => ?_⟩
    have h4 := h3 (-k)
    unfold leR at h4
    simp only at h4
    rw [sq_minus, sq_minus] at h4
    have e : -(sq k) * r.under = -(sq k * r.under) := by grind
    rw [e] at h4
    omega
  · obtain ⟨d, h1, h2, h3, h4, h5⟩ := up_pos F hF r h (by omega)
    rw [bif_neg' ht]
    refine ⟨d, h1, by omega, fun k => ?_⟩
    rw [sq_pos (by omega : 0 ≤ r.top)]
    by_cases hk : 0 ≤ k
    · rw [sq_pos hk]
      constructor
      · intro h6
        exact Int.le_trans h4 (mulsq_mono h2 h6 (by omega))
      · intro h6
        apply Classical.byContradiction
        intro hn
        have := h5 k hk (by omega)
        omega
    · rw [sq_neg (by omega : k ≤ 0)]
      have e2 : -(k * k) * r.under = -(-k * -k * r.under) := by grind
      have h7 := Int.mul_pos (Int.mul_pos (show 0 < -k by omega) (show 0 < -k by omega)) (show 0 < r.under by omega)
      have htt := Int.mul_nonneg (show 0 ≤ r.top by omega) (show 0 ≤ r.top by omega)
      rw [e2]
      constructor
      · intro h6; omega
      · intro h6; omega
def aboutB (u t n s : Int) : Bool := decide (sq (n - s) * u ≤ sq t) && decide (sq t ≤ sq (n + s) * u)
theorem about_eq (F : Nat) (hF : 64 < F) (r : S_sky_ratio) (h : RatB r) (n s : Int) (hn : -4611686018427387904 ≤ n ∧ n ≤ 4611686018427387904) (hs : 0 ≤ s ∧ s ≤ 4294967296) : sky_ratio_isAbout F r n s = some (aboutB r.under r.top n s) := by
  obtain ⟨d, h1, _, h2⟩ := down_spec F hF r h
  obtain ⟨e, h3, _, h4⟩ := up_spec F hF r h
  unfold sky_ratio_isAbout sky_ratio_isAbout_1 aboutB
  have e1 : decide (n - s ≤ d) = decide (sq (n - s) * r.under ≤ sq r.top) := decide_eq_decide.2 (h2 (n - s))
  have e2 : decide (e ≤ n + s) = decide (sq r.top ≤ sq (n + s) * r.under) := decide_eq_decide.2 (h4 (n + s))
  rw [h1, bnd_eq, w64_id (n := n - s) (by omega) (by omega), w64_id (n := n + s) (by omega) (by omega), e1]
  cases decide (sq (n - s) * r.under ≤ sq r.top) with
  | false => rfl
  | true => rw [bif_t', h3, bnd_eq, e2, Bool.true_and]
end Go.Ev.SkyRings
