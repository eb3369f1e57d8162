/- k roots of u are at most a: sums. -/
import Derived.Test.YtkmmplbbefijaaaGreatDoorSkyTrueMath7
namespace Go.Ev.SkyTrue
open Go Go.Ev Go.Proofs
set_option linter.unusedVariables false
theorem sqmul_lt {x y : Int} (hx : 0 ≤ x) (hy : 0 ≤ y) (h : x * x < y * y) : x < y := by
  apply Classical.byContradiction
  intro hn
  have := Int.mul_le_mul (show y ≤ x by omega) (show y ≤ x by omega) hy hx
  omega
/-- The cross terms. -/
theorem cross_le {k l a b u : Int} (hk : 0 ≤ k) (hl : 0 ≤ l) (ha : 0 ≤ a) (hb : 0 ≤ b) (hu : 0 ≤ u) (h1 : k * k * u ≤ a * a) (h2 : l * l * u ≤ b * b) : k * l * u ≤ a * b := by
  apply Classical.byContradiction
  intro hn
  have h3 : a * b < k * l * u := by omega
  have hab := Int.mul_nonneg ha hb
  have hkl := Int.mul_nonneg (Int.mul_nonneg hk hl) hu
  have h4 : (a * b) * (a * b) < (k * l * u) * (k * l * u) := by
    have e1 : (a * b) * (a * b) ≤ (a * b) * (k * l * u) := Int.mul_le_mul_of_nonneg_left (by omega) hab
    have e2 : (a * b) * (k * l * u) < (k * l * u) * (k * l * u) := Int.mul_lt_mul_of_pos_right h3 (by omega)
    omega
  have h5 : (k * k * u) * (l * l * u) ≤ (a * a) * (b * b) := Int.mul_le_mul h1 h2 (Int.mul_nonneg (Int.mul_nonneg hl hl) hu) (Int.mul_nonneg ha ha)
  have e3 : (k * l * u) * (k * l * u) = (k * k * u) * (l * l * u) := by grind
  have e4 : (a * b) * (a * b) = (a * a) * (b * b) := by grind
  omega
theorem cross_ge {k l a b u : Int} (hk : 0 ≤ k) (hl : 0 ≤ l) (ha : 0 ≤ a) (hb : 0 ≤ b) (hu : 0 ≤ u) (h1 : a * a ≤ k * k * u) (h2 : b * b ≤ l * l * u) : a * b ≤ k * l * u := by
  apply Classical.byContradiction
  intro hn
  have h3 : k * l * u < a * b := by omega
  have hab := Int.mul_nonneg ha hb
  have hkl := Int.mul_nonneg (Int.mul_nonneg hk hl) hu
  have h4 : (k * l * u) * (k * l * u) < (a * b) * (a * b) := by
    have e1 : (k * l * u) * (k * l * u) ≤ (k * l * u) * (a * b) := Int.mul_le_mul_of_nonneg_left (by omega) hkl
    have e2 : (k * l * u) * (a * b) < (a * b) * (a * b) := Int.mul_lt_mul_of_pos_right h3 (by omega)
    omega
  have h5 : (a * a) * (b * b) ≤ (k * k * u) * (l * l * u) := Int.mul_le_mul h1 h2 (Int.mul_nonneg hb hb) (Int.mul_nonneg (Int.mul_nonneg hk hk) hu)
  have e3 : (k * l * u) * (k * l * u) = (k * k * u) * (l * l * u) := by grind
  have e4 : (a * b) * (a * b) = (a * a) * (b * b) := by grind
  omega
theorem mulsq_mono' {i j u : Int} (hi : 0 ≤ i) (hij : i ≤ j) (hu : 0 ≤ u) : i * i * u ≤ j * j * u := Int.mul_le_mul_of_nonneg_right (Int.mul_le_mul hij hij hi (by omega)) hu
theorem mm {i j : Int} (hi : 0 ≤ i) (hij : i ≤ j) : i * i ≤ j * j := Int.mul_le_mul hij hij hi (by omega)
/-- What is at least so many roots, and what is at most so many: what is left. -/
theorem le_sub {k a l b u : Int} (hu : 0 ≤ u) (hk : 0 ≤ k) (ha : 0 ≤ a) (hl : 0 ≤ l) (hb : 0 ≤ b) (h1 : k * k * u ≤ a * a) (h2 : b * b ≤ l * l * u) : leR u (k - l) (a - b) := by
  unfold leR
  by_cases hA : 0 ≤ a - b
  · by_cases hK : k - l ≤ 0
    · rw [sq_pos hA, sq_neg hK]
      have e1 := Int.mul_nonneg hA hA
      have e2 := Int.mul_nonneg (Int.mul_nonneg (show 0 ≤ -(k - l) by omega) (show 0 ≤ -(k - l) by omega)) hu
      have e3 : -((k - l) * (k - l)) * u = -(-(k - l) * -(k - l) * u) := by grind
      omega
    · rw [sq_pos hA, sq_pos (by omega)]
      apply Classical.byContradiction
      intro hn
      have h3 : (a - b) * (a - b) < (k - l) * (k - l) * u := by omega
      have h4 := cross_ge (k := k - l) (l := l) (a := a - b) (b := b) (by omega) hl hA hb hu (by omega) h2
      have e1 : a * a = (a - b) * (a - b) + 2 * ((a - b) * b) + b * b := by grind
      have e2 : k * k * u = (k - l) * (k - l) * u + 2 * ((k - l) * l * u) + l * l * u := by grind
      omega
  · by_cases hK : k - l ≤ 0
    · rw [sq_neg (by omega : a - b ≤ 0), sq_neg hK]
      have e0 : -((k - l) * (k - l)) * u = -((l - k) * (l - k) * u) := by grind
      have e00 : (a - b) * (a - b) = (b - a) * (b - a) := by grind
      rw [e0, e00]
      apply Classical.byContradiction
      intro hn
      have h3 : (l - k) * (l - k) * u < (b - a) * (b - a) := by omega
      have h4 := cross_le (k := l - k) (l := k) (a := b - a) (b := a) (by omega) hk (by omega) ha hu (by omega) h1
      have e1 : b * b = (b - a) * (b - a) + 2 * ((b - a) * a) + a * a := by grind
      have e2 : l * l * u = (l - k) * (l - k) * u + 2 * ((l - k) * k * u) + k * k * u := by grind
      omega
    · exfalso
      have e1 := mulsq_mono' hl (show l ≤ k by omega) hu
      have h3 : a * a < b * b := by
        have := mm ha (show a ≤ b by omega)
        by_cases he : a * a = b * b
        · have h5 : a = b := by
            apply Classical.byContradiction
            intro hne
            have h6 : (a + 1) * (a + 1) ≤ b * b := mm (by omega) (by omega)
            have e7 : (a + 1) * (a + 1) = a * a + 2 * a + 1 := by grind
            omega
          omega
        · omega
      omega
theorem sq_cases (x : Int) : (0 ≤ x ∧ sq x = x * x) ∨ (x ≤ 0 ∧ 0 ≤ -x ∧ sq x = -(-x * -x)) := by
  by_cases h : 0 ≤ x
  · exact .inl ⟨h, sq_pos h⟩
  · refine .inr ⟨by omega, by omega, ?_⟩
    rw [sq_neg (by omega)]
    grind
theorem le_add {u k a l b : Int} (hu : 1 ≤ u) (h1 : leR u k a) (h2 : leR u l b) : leR u (k + l) (a + b) := by
  have hu0 : 0 ≤ u := by omega
  have triv : ∀ k a : Int, k ≤ 0 → 0 ≤ a → leR u k a := by
    intro k a hk ha
    unfold leR
    rw [sq_neg hk, sq_pos ha]
    have e1 := Int.mul_nonneg ha ha
    have e2 := Int.mul_nonneg (Int.mul_nonneg (show 0 ≤ -k by omega) (show 0 ≤ -k by omega)) hu0
    have e3 : -(k * k) * u = -(-k * -k * u) := by grind
    omega
  have none : ∀ k a : Int, 0 < k → a < 0 → ¬ leR u k a := by
    intro k a hk ha h
    unfold leR at h
    rw [sq_pos (by omega), sq_neg (by omega)] at h
    have e1 := Int.mul_pos (show 0 < -a by omega) (show 0 < -a by omega)
    have e2 := Int.mul_nonneg (Int.mul_nonneg (show 0 ≤ k by omega) (show 0 ≤ k by omega)) hu0
    have e3 : -a * -a = a * a := by grind
    omega
  have mono : ∀ k a k' a' : Int, leR u k a → k' ≤ k → a ≤ a' → leR u k' a' := by
    intro k a k' a' h hk ha
    unfold leR at h ⊢
    have e1 := Int.mul_le_mul_of_nonneg_right (sq_mono hk) hu0
    have e2 := sq_mono ha
    omega
  have both : ∀ k a l b : Int, 0 ≤ k → 0 ≤ a → l ≤ 0 → b ≤ 0 → leR u k a → leR u l b → leR u (k + l) (a + b) := by
    intro k a l b hk ha hl hb h1 h2
    unfold leR at h1 h2
    rw [sq_pos hk, sq_pos ha] at h1
    rw [sq_neg hl, sq_neg hb] at h2
    have e1 : -(l * l) * u = -(-l * -l * u) := by grind
    have e2 : -b * -b = b * b := by grind
    have := le_sub (k := k) (a := a) (l := -l) (b := -b) hu0 hk ha (by omega) (by omega) h1 (by omega)
    rwa [show k - -l = k + l by omega, show a - -b = a + b by omega] at this
  by_cases ha : 0 ≤ a <;> by_cases hb : 0 ≤ b <;> by_cases hk : 0 ≤ k <;> by_cases hl : 0 ≤ l
  · unfold leR at h1 h2 ⊢
    rw [sq_pos hk, sq_pos ha] at h1
    rw [sq_pos hl, sq_pos hb] at h2
    rw [sq_pos (by omega), sq_pos (by omega)]
    have := cross_le hk hl ha hb hu0 h1 h2
    have e1 : (k + l) * (k + l) * u = k * k * u + 2 * (k * l * u) + l * l * u := by grind
    have e2 : (a + b) * (a + b) = a * a + 2 * (a * b) + b * b := by grind
    omega
  · exact mono k a _ _ h1 (by omega) (by omega)
  · exact mono l b _ _ h2 (by omega) (by omega)
  · exact triv _ _ (by omega) (by omega)
  · by_cases hl0 : l = 0
    · subst hl0
      exact both k a 0 b hk ha (by omega) (by omega) h1 h2
    · exact absurd h2 (none l b (by omega) (by omega))
  · exact both k a l b hk ha (by omega) (by omega) h1 h2
  · by_cases hl0 : l = 0
    · subst hl0
      exfalso
      unfold leR at h2
      rw [sq_pos (by omega : (0 : Int) ≤ 0), sq_neg (by omega : b ≤ 0)] at h2
      have e1 := Int.mul_pos (show 0 < -b by omega) (show 0 < -b by omega)
      have e3 : -b * -b = b * b := by grind
      omega
    · exact absurd h2 (none l b (by omega) (by omega))
  · exact mono l b _ _ h2 (by omega) (by omega)
  · by_cases hk0 : k = 0
    · subst hk0
      have := both l b 0 a hl hb (by omega) (by omega) h2 h1
      rwa [Int.add_comm l 0, Int.add_comm b a] at this
    · exact absurd h1 (none k a (by omega) (by omega))
  · by_cases hk0 : k = 0
    · subst hk0
      exfalso
      unfold leR at h1
      rw [sq_pos (by omega : (0 : Int) ≤ 0), sq_neg (by omega : a ≤ 0)] at h1
      have e1 := Int.mul_pos (show 0 < -a by omega) (show 0 < -a by omega)
      have e3 : -a * -a = a * a := by grind
      omega
    · exact absurd h1 (none k a (by omega) (by omega))
  · have := both l b k a hl hb (by omega) (by omega) h2 h1
    rwa [Int.add_comm l k, Int.add_comm b a] at this
  · exact mono k a _ _ h1 (by omega) (by omega)
  · exfalso
    have : ¬ (0 < k) := fun h => none k a h (by omega) h1
    obtain rfl : k = 0 := by omega
    unfold leR at h1
    rw [sq_pos (by omega : (0 : Int) ≤ 0), sq_neg (by omega : a ≤ 0)] at h1
    have e1 := Int.mul_pos (show 0 < -a by omega) (show 0 < -a by omega)
    have e3 : -a * -a = a * a := by grind
    omega
  · exfalso
    have : ¬ (0 < k) := fun h => none k a h (by omega) h1
    obtain rfl : k = 0 := by omega
    unfold leR at h1
    rw [sq_pos (by omega : (0 : Int) ≤ 0), sq_neg (by omega : a ≤ 0)] at h1
    have e1 := Int.mul_pos (show 0 < -a by omega) (show 0 < -a by omega)
    have e3 : -a * -a = a * a := by grind
    omega
  · exfalso
    have : ¬ (0 < l) := fun h => none l b h (by omega) h2
    obtain rfl : l = 0 := by omega
    unfold leR at h2
    rw [sq_pos (by omega : (0 : Int) ≤ 0), sq_neg (by omega : b ≤ 0)] at h2
    have e1 := Int.mul_pos (show 0 < -b by omega) (show 0 < -b by omega)
    have e3 : -b * -b = b * b := by grind
    omega
  · unfold leR at h1 h2 ⊢
    rw [sq_neg (by omega : k ≤ 0), sq_neg (by omega : a ≤ 0)] at h1
    rw [sq_neg (by omega : l ≤ 0), sq_neg (by omega : b ≤ 0)] at h2
    rw [sq_neg (by omega), sq_neg (by omega)]
    have f1 : -(k * k) * u = -(-k * -k * u) := by grind
    have f2 : -(l * l) * u = -(-l * -l * u) := by grind
    have f3 : -a * -a = a * a := by grind
    have f4 : -b * -b = b * b := by grind
    have := cross_ge (k := -k) (l := -l) (a := -a) (b := -b) (by omega) (by omega) (by omega) (by omega) hu0 (by omega) (by omega)
    have e1 : -((k + l) * (k + l)) * u = -(-k * -k * u + 2 * (-k * -l * u) + -l * -l * u) := by grind
    have e2 : (a + b) * (a + b) = a * a + 2 * (-a * -b) + b * b := by grind
    omega
end Go.Ev.SkyTrue
