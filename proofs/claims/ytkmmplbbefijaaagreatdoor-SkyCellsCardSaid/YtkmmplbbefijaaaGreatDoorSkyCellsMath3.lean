/- Cells of directions, directions of cells. -/
import Derived.Test.YtkmmplbbefijaaaGreatDoorSkyCellsMath2
namespace Go.Ev.SkyCells
open Go Go.Ev Go.Proofs
set_option linter.unusedVariables false
theorem place_sign {n m p : Int} (hn : 1 ≤ n ∧ n ≤ 8) (hm : 0 < m) (hp : -m ≤ p ∧ p ≤ m) : 0 ≤ (2 * placeM n m p + 1 - n) * p := by
  have h0 : 0 ≤ (p + m) * n := Int.mul_nonneg (by omega) (by omega)
  have h1 := Int.mul_ediv_self_le (x := (p + m) * n) (k := 2 * m) (by omega)
  have h2 := Int.lt_mul_ediv_self_add (x := (p + m) * n) (k := 2 * m) (by omega)
  unfold placeM
  generalize (p + m) * n / (2 * m) = q at h1 h2 ⊢
  by_cases hq : n - 1 ≤ q
  · rw [Int.min_eq_right hq]
    by_cases h : 0 ≤ p
    · exact Int.mul_nonneg (by omega) h
    · by_cases hn1 : n = 1
      · subst hn1; simp
      · exfalso
        have h3 : 2 * m * (n - 1) ≤ 2 * m * q := Int.mul_le_mul_of_nonneg_left hq (by omega)
        have h4 : p * n ≤ -1 * n := Int.mul_le_mul_of_nonneg_right (by omega) (by omega)
        have e1 : (p + m) * n = p * n + m * n := by grind
        have e2 : 2 * m * (n - 1) = 2 * (m * n) - 2 * m := by grind
        have h5 : m * 2 ≤ m * n := Int.mul_le_mul_of_nonneg_left (by omega) (by omega)
        omega
  · rw [Int.min_eq_left (by omega)]
    by_cases h : 0 ≤ p
    · refine Int.mul_nonneg ?_ h
      apply Classical.byContradiction
      intro hc
      have h3 : m * (2 * q + 2) ≤ m * n := Int.mul_le_mul_of_nonneg_left (by omega) (by omega)
      have h4 : 0 ≤ p * n := Int.mul_nonneg h (by omega)
      have e1 : (p + m) * n = p * n + m * n := by grind
      have e2 : m * (2 * q + 2) = 2 * m * q + 2 * m := by grind
      omega
    · have : 2 * q + 1 - n ≤ 0 := by
        apply Classical.byContradiction
        intro hc
        have h3 : m * n ≤ m * (2 * q) := Int.mul_le_mul_of_nonneg_left (by omega) (by omega)
        have h4 : p * n ≤ -1 * n := Int.mul_le_mul_of_nonneg_right (by omega) (by omega)
        have e1 : (p + m) * n = p * n + m * n := by grind
        have e2 : m * (2 * q) = 2 * m * q := by grind
        omega
      have h5 := Int.mul_nonneg (show 0 ≤ -(2 * q + 1 - n) by omega) (show 0 ≤ -p by omega)
      rwa [Int.neg_mul_neg] at h5
theorem decomp {n f i j : Int} (hn : 1 ≤ n ∧ n ≤ 8) (hi : 0 ≤ i ∧ i ≤ n - 1) (hj : 0 ≤ j ∧ j ≤ n - 1) : ((f * n + i) * n + j) / (n * n) = f ∧ ((f * n + i) * n + j) / n % n = i ∧ ((f * n + i) * n + j) % n = j := by
  rcases eight hn with rfl | rfl | rfl | rfl | rfl | rfl | rfl | rfl <;> omega
theorem recomp {n c : Int} (hn : 1 ≤ n ∧ n ≤ 8) (hc : 0 ≤ c) : (c / (n * n) * n + c / n % n) * n + c % n = c := by
  rcases eight hn with rfl | rfl | rfl | rfl | rfl | rfl | rfl | rfl <;> omega
theorem place_of {n b i : Int} (hn : 1 ≤ n ∧ n ≤ 8) (hb : 0 < b) (hi : 0 ≤ i ∧ i ≤ n - 1) : placeM n (b * n) (b * (2 * i + 1 - n)) = i := by
  have h1 : 0 < b * n := Int.mul_pos hb (by omega)
  have e : (b * (2 * i + 1 - n) + b * n) * n = (2 * i + 1) * (b * n) := by grind
  unfold placeM
  rw [e, Int.mul_ediv_mul_of_pos_left _ _ h1]
  omega
theorem abs_pos {x : Int} (h : 0 < x) : absM x = x := by unfold absM; omega
theorem abs_neg {x : Int} (h : 0 < -x) : absM x = -x := by unfold absM; omega
theorem abs_in {x y : Int} (h : absM x ≤ y) : -y ≤ x ∧ x ≤ y := by unfold absM at h; omega
/-- Each cell has the direction of its own side. -/
theorem home2 {n : Int} (hn : 1 ≤ n ∧ n ≤ 8) (v : S__3_int) (hz : isZ v = false) : (0 ≤ cellM n v ∧ cellM n v < 6 * (n * n)) ∧ 0 < (dirM n (cellM n v)).e0 * v.e0 + (dirM n (cellM n v)).e1 * v.e1 + (dirM n (cellM n v)).e2 * v.e2 := by
  have key : ∀ (f m p q : Int), 0 ≤ f ∧ f ≤ 5 → 0 < m → -m ≤ p ∧ p ≤ m → -m ≤ q ∧ q ≤ m →
      (0 ≤ (f * n + placeM n m p) * n + placeM n m q ∧ (f * n + placeM n m p) * n + placeM n m q < 6 * (n * n)) ∧ (0 < n * m + (2 * placeM n m p + 1 - n) * p + (2 * placeM n m q + 1 - n) * q)
      ∧ ((f * n + placeM n m p) * n + placeM n m q) / (n * n) = f ∧ ((f * n + placeM n m p) * n + placeM n m q) / n % n = placeM n m p ∧ ((f * n + placeM n m p) * n + placeM n m q) % n = placeM n m q := by
    intro f m p q hf hm hp hq
    have ha := place_in hn hm hp
    have hb := place_in hn hm hq
    have h6 := bound6 hn hf ha hb
    have s1 := place_sign hn hm hp
    have s2 := place_sign hn hm hq
    have s3 : 0 < n * m := Int.mul_pos (by omega) hm
    exact ⟨h6.2.2.2.2, by omega, decomp hn ha hb⟩
  unfold cellM viaM
  rcases face_is v hz with ⟨e, h1, h2, h3⟩ | ⟨e, h1, h2, h3⟩ | ⟨e, h1, h2, h3⟩ | ⟨e, h1, h2, h3⟩ | ⟨e, h1, h2, h3⟩ | ⟨e, h1, h2, h3⟩ <;> rw [e]
  · obtain ⟨k1, k2, k3, k4, k5⟩ := key 0 v.e0 v.e1 v.e2 (by omega) h1 (abs_in h2) (abs_in h3)
    show (_ ∧ _ < _) ∧ 0 < _
    simp only [show (0 : Int) / 2 = 0 from rfl, decide_true, cond_true, abs_pos h1]
    unfold dirM
    rw [k3, k4, k5]
    exact ⟨k1, k2⟩
  · obtain ⟨k1, k2, k3, k4, k5⟩ := key 1 (-v.e0) v.e1 v.e2 (by omega) h1 (abs_in h2) (abs_in h3)
    simp only [show (1 : Int) / 2 = 0 from rfl, decide_true, cond_true, abs_neg h1]
    unfold dirM
    rw [k3, k4, k5]
    refine ⟨k1, ?_⟩
    show 0 < -n * v.e0 + _ + _
    rw [Int.neg_mul, ← Int.mul_neg]
    exact k2
  · obtain ⟨k1, k2, k3, k4, k5⟩ := key 2 v.e1 v.e0 v.e2 (by omega) h1 (abs_in (by omega)) (abs_in h3)
    simp only [show (2 : Int) / 2 = 1 from rfl, show decide ((1 : Int) = 0) = false from rfl, cond_false, decide_true, cond_true, abs_pos h1]
    unfold dirM
    rw [k3, k4, k5]
    refine ⟨k1, ?_⟩
    show 0 < (2 * placeM n v.e1 v.e0 + 1 - n) * v.e0 + n * v.e1 + (2 * placeM n v.e1 v.e2 + 1 - n) * v.e2
    omega
  · obtain ⟨k1, k2, k3, k4, k5⟩ := key 3 (-v.e1) v.e0 v.e2 (by omega) h1 (abs_in (by omega)) (abs_in h3)
    simp only [show (3 : Int) / 2 = 1 from rfl, show decide ((1 : Int) = 0) = false from rfl, cond_false, decide_true, cond_true, abs_neg h1]
    unfold dirM
    rw [k3, k4, k5]
    refine ⟨k1, ?_⟩
    show 0 < (2 * placeM n (-v.e1) v.e0 + 1 - n) * v.e0 + -n * v.e1 + (2 * placeM n (-v.e1) v.e2 + 1 - n) * v.e2
    rw [Int.neg_mul, ← Int.mul_neg]
    omega
  · obtain ⟨k1, k2, k3, k4, k5⟩ := key 4 v.e2 v.e0 v.e1 (by omega) h1 (abs_in (by omega)) (abs_in (by omega))
    simp only [show (4 : Int) / 2 = 2 from rfl, show decide ((2 : Int) = 0) = false from rfl, show decide ((2 : Int) = 1) = false from rfl, cond_false, abs_pos h1]
    unfold dirM
    rw [k3, k4, k5]
    refine ⟨k1, ?_⟩
    show 0 < (2 * placeM n v.e2 v.e0 + 1 - n) * v.e0 + (2 * placeM n v.e2 v.e1 + 1 - n) * v.e1 + n * v.e2
    omega
  · obtain ⟨k1, k2, k3, k4, k5⟩ := key 5 (-v.e2) v.e0 v.e1 (by omega) h1 (abs_in (by omega)) (abs_in (by omega))
    simp only [show (5 : Int) / 2 = 2 from rfl, show decide ((2 : Int) = 0) = false from rfl, show decide ((2 : Int) = 1) = false from rfl, cond_false, abs_neg h1]
    unfold dirM
    rw [k3, k4, k5]
    refine ⟨k1, ?_⟩
    show 0 < (2 * placeM n (-v.e2) v.e0 + 1 - n) * v.e0 + (2 * placeM n (-v.e2) v.e1 + 1 - n) * v.e1 + -n * v.e2
    rw [Int.neg_mul, ← Int.mul_neg]
    omega
def scale (b : Int) (d : S__3_int) : S__3_int := ⟨b * d.e0, b * d.e1, b * d.e2⟩
/-- The cell of a cell's direction, or of a multiple of it. -/
theorem home1 {n c b : Int} (h : (1 ≤ n ∧ n ≤ 8) ∧ 0 ≤ c ∧ c < 6 * (n * n)) (hb : 0 < b) : isZ (scale b (dirM n c)) = false ∧ cellM n (scale b (dirM n c)) = c := by
  have hi : 0 ≤ c / n % n ∧ c / n % n ≤ n - 1 := ⟨Int.emod_nonneg _ (by omega), by have := Int.emod_lt_of_pos (c / n) (show 0 < n by omega); omega⟩
  have hj : 0 ≤ c % n ∧ c % n ≤ n - 1 := ⟨Int.emod_nonneg _ (by omega), by have := Int.emod_lt_of_pos c (show 0 < n by omega); omega⟩
  have hbn : 0 < b * n := Int.mul_pos hb (by omega)
  have lt : ∀ x, 0 ≤ x ∧ x ≤ n - 1 → absM (b * (2 * x + 1 - n)) < b * n := by
    intro x hx
    have h1 : b * (2 * x + 1 - n) ≤ b * (n - 1) := Int.mul_le_mul_of_nonneg_left (by omega) (by omega)
    have h2 : b * (-(n - 1)) ≤ b * (2 * x + 1 - n) := Int.mul_le_mul_of_nonneg_left (by omega) (by omega)
    have e1 : b * (n - 1) = b * n - b := by grind
    have e2 : b * (-(n - 1)) = b - b * n := by grind
    unfold absM
    omega
  have la := lt _ hi
  have lb := lt _ hj
  have pa := place_of h.1 hb hi
  have pb := place_of h.1 hb hj
  have hr := recomp h.1 h.2.1
  have hzz : ∀ v : S__3_int, (v.e0 ≠ 0 ∨ v.e1 ≠ 0 ∨ v.e2 ≠ 0) → isZ v = false := by
    intro v hv
    unfold isZ
    cases hx : (v.e0 == (0 : Int)) && ((v.e1 == (0 : Int)) && ((v.e2 == (0 : Int)) && true)) with
    | false => rfl
    | true =>
      simp only [Bool.and_true, Bool.and_eq_true, beq_iff_eq] at hx
      omega
  have hng : b * -n = -(b * n) := Int.mul_neg b n
  unfold dirM scale
  rcases face_lt h with e | e | e | e | e | e <;> rw [e] at hr ⊢ <;> simp only [if_true, show ¬ ((1 : Int) = 0) by decide, show ¬ ((2 : Int) = 0) by decide, show ¬ ((2 : Int) = 1) by decide, show ¬ ((3 : Int) = 0) by decide, show ¬ ((3 : Int) = 1) by decide, show ¬ ((3 : Int) = 2) by decide, show ¬ ((4 : Int) = 0) by decide, show ¬ ((4 : Int) = 1) by decide, show ¬ ((4 : Int) = 2) by decide, show ¬ ((4 : Int) = 3) by decide, show ¬ ((5 : Int) = 0) by decide, show ¬ ((5 : Int) = 1) by decide, show ¬ ((5 : Int) = 2) by decide, show ¬ ((5 : Int) = 3) by decide, show ¬ ((5 : Int) = 4) by decide, if_false, hng]
  all_goals
    generalize c / n % n = i at *
    generalize c % n = j at *
    generalize b * (2 * i + 1 - n) = p at *
    generalize b * (2 * j + 1 - n) = q at *
    generalize b * n = m at *
  · have hz : isZ ⟨m, p, q⟩ = false := hzz _ (.inl (by simp; omega))
    refine ⟨hz, ?_⟩
    have hf := face_is ⟨m, p, q⟩ hz
    simp only at hf
    have e' : (faceM ⟨m, p, q⟩).1 = 0 := by unfold absM at *; omega
    unfold cellM viaM
    rw [e']
    show (0 * n + placeM n (absM (m)) p) * n + placeM n (absM (m)) q = c
    rw [abs_pos hbn, pa, pb]
    exact hr
  · have hz : isZ ⟨-m, p, q⟩ = false := hzz _ (.inl (by simp; omega))
    refine ⟨hz, ?_⟩
    have hf := face_is ⟨-m, p, q⟩ hz
    simp only at hf
    have e' : (faceM ⟨-m, p, q⟩).1 = 1 := by unfold absM at *; omega
    unfold cellM viaM
    rw [e']
    show (1 * n + placeM n (absM (-m)) p) * n + placeM n (absM (-m)) q = c
    rw [abs_neg (x := -m) (by omega), Int.neg_neg, pa, pb]
    exact hr
  · have hz : isZ ⟨p, m, q⟩ = false := hzz _ (.inr (.inl (by simp; omega)))
    refine ⟨hz, ?_⟩
    have hf := face_is ⟨p, m, q⟩ hz
    simp only at hf
    have e' : (faceM ⟨p, m, q⟩).1 = 2 := by unfold absM at *; omega
    unfold cellM viaM
    rw [e']
    show (2 * n + placeM n (absM (m)) p) * n + placeM n (absM (m)) q = c
    rw [abs_pos hbn, pa, pb]
    exact hr
  · have hz : isZ ⟨p, -m, q⟩ = false := hzz _ (.inr (.inl (by simp; omega)))
    refine ⟨hz, ?_⟩
    have hf := face_is ⟨p, -m, q⟩ hz
    simp only at hf
    have e' : (faceM ⟨p, -m, q⟩).1 = 3 := by unfold absM at *; omega
    unfold cellM viaM
    rw [e']
    show (3 * n + placeM n (absM (-m)) p) * n + placeM n (absM (-m)) q = c
    rw [abs_neg (x := -m) (by omega), Int.neg_neg, pa, pb]
    exact hr
  · have hz : isZ ⟨p, q, m⟩ = false := hzz _ (.inr (.inr (by simp; omega)))
    refine ⟨hz, ?_⟩
    have hf := face_is ⟨p, q, m⟩ hz
    simp only at hf
    have e' : (faceM ⟨p, q, m⟩).1 = 4 := by unfold absM at *; omega
    unfold cellM viaM
    rw [e']
    show (4 * n + placeM n (absM (m)) p) * n + placeM n (absM (m)) q = c
    rw [abs_pos hbn, pa, pb]
    exact hr
  · have hz : isZ ⟨p, q, -m⟩ = false := hzz _ (.inr (.inr (by simp; omega)))
    refine ⟨hz, ?_⟩
    have hf := face_is ⟨p, q, -m⟩ hz
    simp only at hf
    have e' : (faceM ⟨p, q, -m⟩).1 = 5 := by unfold absM at *; omega
    unfold cellM viaM
    rw [e']
    show (5 * n + placeM n (absM (-m)) p) * n + placeM n (absM (-m)) q = c
    rw [abs_neg (x := -m) (by omega), Int.neg_neg, pa, pb]
    exact hr
end Go.Ev.SkyCells
