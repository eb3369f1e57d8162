/- The energy beneath a tile. -/
import Derived.Test.YtmdeiglnjimlnaaSearchTilesMath7
namespace Go.Ev.SearchTiles
open Go Go.Ev Go.Proofs
set_option linter.unusedVariables false
theorem sqS {x : List Int} {m : Nat} (hx : x.length = 2 * m) (p : Nat) : ∀ n : Nat, p + n ≤ m → 2 * sq x (2 * p) - sq (S x) p ≤ 2 * sq x (2 * (p + n)) - sq (S x) (p + n)
  | 0, _ => Int.le_refl _
  | n + 1, h => by
    have ih := sqS hx p n (by omega)
    obtain ⟨a, ha⟩ := get_lt (l := x) (i := 2 * (p + n)) (by omega)
    obtain ⟨b, hb⟩ := get_lt (l := x) (i := 2 * (p + n) + 1) (by omega)
    obtain ⟨h1, _⟩ := SD_get x (p + n) ha hb
    have e1 : sq x (2 * (p + (n + 1))) = sq x (2 * (p + n)) + a * a + b * b := by
      rw [show 2 * (p + (n + 1)) = 2 * (p + n) + 1 + 1 by omega, sq, sq, ha, hb]
      rfl
    have e2 : sq (S x) (p + (n + 1)) = sq (S x) (p + n) + (a + b) * (a + b) := by
      rw [show p + (n + 1) = p + n + 1 by omega, sq, h1]
      rfl
    have h0 : 0 ≤ (a - b) * (a - b) := by
      by_cases hc : 0 ≤ a - b
      · exact Int.mul_nonneg hc hc
      · have := Int.mul_nonneg (show 0 ≤ -(a - b) by omega) (show 0 ≤ -(a - b) by omega)
        rwa [Int.neg_mul_neg] at this
    have h2 : (a - b) * (a - b) = 2 * (a * a) + 2 * (b * b) - (a + b) * (a + b) := by grind
    rw [e1, e2]
    omega
theorem mem_tilesOf (lev : Int) : ∀ (l : List Int) (i : Nat) (t : S_api_Tile), t ∈ tilesOf lev i l → ∃ j : Nat, t.Level = lev ∧ t.At = ((i + j : Nat) : Int) ∧ l[j]? = some t.D
  | [], i, t, h => nomatch h
  | d :: l, i, t, h => by
    rcases List.mem_cons.1 h with rfl | h
    · exact ⟨0, rfl, rfl, rfl⟩
    · obtain ⟨j, h1, h2, h3⟩ := mem_tilesOf lev l (i + 1) t h
      exact ⟨j + 1, h1, by rw [h2]; congr 1; omega, by simpa using h3⟩
theorem tile_pow : ∀ (k : Nat) (lev : Int) (x : List Int), x.length = 2 ^ k → ∀ t ∈ tl k lev x, ∃ j a : Nat, j < k ∧ t.Level = lev + j ∧ t.At = a ∧ (a + 1) * 2 ^ (j + 1) ≤ x.length ∧ t.D * t.D ≤ ((2 ^ (j + 1) : Nat) : Int) * (sq x ((a + 1) * 2 ^ (j + 1)) - sq x (a * 2 ^ (j + 1)))
  | 0, _, _, _, t, h => nomatch h
  | k + 1, lev, x, hx, t, h => by
    have hx2 : x.length = 2 * 2 ^ k := by rw [hx, Nat.pow_succ]; omega
    rcases List.mem_append.1 h with h | h
    · obtain ⟨j, h1, h2, h3⟩ := mem_tilesOf lev (D x) 0 t h
      have hj : j < (D x).length := (List.getElem?_eq_some_iff.1 h3).1
      rw [D_len _ x hx2] at hj
      obtain ⟨a, ha⟩ := get_lt (l := x) (i := 2 * j) (by omega)
      obtain ⟨b, hb⟩ := get_lt (l := x) (i := 2 * j + 1) (by omega)
      obtain ⟨_, h4⟩ := SD_get x j ha hb
      rw [h4] at h3
      have hd : a - b = t.D := Option.some.inj h3
      refine ⟨0, j, by omega, by rw [h1]; simp, by rw [h2]; simp, by rw [Nat.pow_one]; omega, ?_⟩
      have e1 : sq x ((j + 1) * 2 ^ (0 + 1)) = sq x (j * 2 ^ (0 + 1)) + a * a + b * b := by
        rw [show (j + 1) * 2 ^ (0 + 1) = 2 * j + 1 + 1 by rw [Nat.pow_one]; omega, show j * 2 ^ (0 + 1) = 2 * j by rw [Nat.pow_one]; omega, sq, sq, ha, hb]
        rfl
      have h0 : 0 ≤ (a + b) * (a + b) := by
        by_cases hc : 0 ≤ a + b
        · exact Int.mul_nonneg hc hc
        · have := Int.mul_nonneg (show 0 ≤ -(a + b) by omega) (show 0 ≤ -(a + b) by omega)
          rwa [Int.neg_mul_neg] at this
      have h5 : (a - b) * (a - b) = 2 * (a * a) + 2 * (b * b) - (a + b) * (a + b) := by grind
      rw [e1, ← hd]
      show (a - b) * (a - b) ≤ 2 * _
      omega
    · have hS := S_len _ x hx2
      obtain ⟨j, a, h1, h2, h3, h4, h5⟩ := tile_pow k (lev + 1) (S x) hS t h
      have hp : (2 : Nat) ^ (j + 1 + 1) = 2 * 2 ^ (j + 1) := by rw [Nat.pow_succ]; omega
      have q1 : a * 2 ^ (j + 1 + 1) = 2 * (a * 2 ^ (j + 1)) := by rw [hp]; exact Nat.mul_left_comm a 2 _
      have q2 : (a + 1) * 2 ^ (j + 1 + 1) = 2 * ((a + 1) * 2 ^ (j + 1)) := by rw [hp]; exact Nat.mul_left_comm (a + 1) 2 _
      refine ⟨j + 1, a, by omega, by rw [h2]; simp; omega, h3, by rw [q2]; omega, ?_⟩
      have h6 := sqS hx2 (a * 2 ^ (j + 1)) (2 ^ (j + 1)) (by rw [← Nat.succ_mul]; rw [hS] at h4; exact h4)
      rw [← Nat.succ_mul] at h6
      have h6' : 2 * sq x (2 * (a * 2 ^ (j + 1))) - sq (S x) (a * 2 ^ (j + 1)) ≤ 2 * sq x (2 * ((a + 1) * 2 ^ (j + 1))) - sq (S x) ((a + 1) * 2 ^ (j + 1)) := h6
      have h7 : sq (S x) ((a + 1) * 2 ^ (j + 1)) - sq (S x) (a * 2 ^ (j + 1)) ≤ 2 * (sq x (2 * ((a + 1) * 2 ^ (j + 1))) - sq x (2 * (a * 2 ^ (j + 1)))) := by omega
      have h8 := Int.mul_le_mul_of_nonneg_left h7 (show (0 : Int) ≤ ((2 ^ (j + 1) : Nat) : Int) by omega)
      rw [q1, q2, hp]
      have h9 : ((2 * 2 ^ (j + 1) : Nat) : Int) * (sq x (2 * ((a + 1) * 2 ^ (j + 1))) - sq x (2 * (a * 2 ^ (j + 1)))) = ((2 ^ (j + 1) : Nat) : Int) * (2 * (sq x (2 * ((a + 1) * 2 ^ (j + 1))) - sq x (2 * (a * 2 ^ (j + 1))))) := by
        rw [Int.natCast_mul]
        grind
      rw [h9]
      exact Int.le_trans h5 h8
end Go.Ev.SearchTiles
