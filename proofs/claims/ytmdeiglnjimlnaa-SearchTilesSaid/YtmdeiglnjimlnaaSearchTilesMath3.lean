/- Tiles. -/
import Derived.Test.YtmdeiglnjimlnaaSearchTilesMath2
namespace Go.Ev.SearchTiles
open Go Go.Ev Go.Proofs
set_option linter.unusedVariables false
def tilesOf (lev : Int) : Nat → List Int → List S_api_Tile
  | _, [] => []
  | i, d :: l => ⟨lev, i, d⟩ :: tilesOf lev (i + 1) l
def tl : Nat → Int → List Int → List S_api_Tile
  | 0, _, _ => []
  | k + 1, lev, x => tilesOf lev 0 (D x) ++ tl k (lev + 1) (S x)
theorem tilesOf_len (lev : Int) : ∀ (l : List Int) (i : Nat), (tilesOf lev i l).length = l.length
  | [], _ => rfl
  | _ :: l, i => by simp [tilesOf, tilesOf_len lev l]
theorem tl_len : ∀ (k : Nat) (lev : Int) (x : List Int), x.length = 2 ^ k → (tl k lev x).length + 1 = 2 ^ k
  | 0, _, _, _ => rfl
  | k + 1, lev, x, h => by
    have h2 : x.length = 2 * 2 ^ k := by rw [h, Nat.pow_succ]; omega
    have := tl_len k (lev + 1) (S x) (S_len _ x h2)
    rw [tl, List.length_append, tilesOf_len, D_len _ x h2, Nat.pow_succ]
    omega
theorem ti2 (F : Nat) (hd : List Int → Int → Int → List Int → List S_api_Tile → Option (List S_api_Tile × Int)) (c x d : List Int) (lev m : Int) (hd1 : d.length ≤ 4096) :
    ∀ (k N i : Nat) (acc : List S_api_Tile), k = d.length - i → i ≤ d.length → k < N → acc.length + d.length ≤ 8192 + i → glitch_Tiles_2 F hd N c lev m d d.length i x acc = hd c lev (w64 (Int.tdiv m 2)) x (acc ++ tilesOf lev i (d.drop i))
  | k, 0, i, acc, _, _, h, _ => by omega
  | 0, N + 1, i, acc, hk, hi, _, _ => by
    rw [glitch_Tiles_2, bif_neg' (by omega : ¬ ((i : Int) < d.length)), List.drop_of_length_le (by omega)]
    simp [tilesOf]
  | k + 1, N + 1, i, acc, hk, hi, hN, ha => by
    obtain ⟨a, hx⟩ := get_lt (l := d) (i := i) (by omega)
    have e : w64 ((i : Int) + 1) = ((i + 1 : Nat) : Int) := by rw [w64_id (by omega) (by omega)]; simp
    rw [glitch_Tiles_2, bif_pos' (by omega : ((i : Int) < d.length)), idx_nat, hx, bnd_eq, apd_eq (by simp; omega) (by simp; omega), bnd_eq, e, ti2 F hd c x d lev m hd1 k N (i + 1) _ (by omega) (by omega) (by omega) (by simp; omega), drop_get hx, tilesOf, List.append_assoc]
    rfl
theorem ti1 (F : Nat) (x : List Int) : ∀ (j N : Nat) (y r : List Int) (lev : Int) (acc : List S_api_Tile), j ≤ 10 → y.length = 2 ^ j → j < N → 1100 < F → 0 ≤ lev → lev + j ≤ 100 → acc.length + y.length ≤ 4096 →
    glitch_Tiles_1 F N (T j y ++ r) lev ((2 ^ j / 2 : Nat) : Int) x acc = some (acc ++ tl j (lev + 1) y, 0)
  | j, 0, _, _, _, _, _, _, h, _, _, _, _ => by omega
  | 0, N + 1, y, r, lev, acc, _, _, _, _, _, _, _ => by
    rw [glitch_Tiles_1, bif_neg' (by simp)]
    simp [tl]
  | j + 1, N + 1, y, r, lev, acc, hj, hy, hN, hF, hl0, hl1, hac => by
    have hpow : (2 : Nat) ^ j ≤ 2 ^ 10 := Nat.pow_le_pow_right (by omega) (by omega)
    have hpos : 1 ≤ (2 : Nat) ^ j := Nat.one_le_two_pow
    have hy2 : y.length = 2 * 2 ^ j := by rw [hy, Nat.pow_succ]; omega
    have hS := S_len _ y hy2
    have hD := D_len _ y hy2
    have hT := T_len j (S y) hS
    have em : (2 ^ (j + 1) / 2 : Nat) = 2 ^ j := by rw [Nat.pow_succ]; omega
    have el : w64 (lev + 1) = lev + 1 := w64_id (by omega) (by omega)
    have ih := ti1 F x j N (S y) (D y ++ r) (lev + 1) (acc ++ tilesOf (lev + 1) 0 (D y)) (by omega) hS (by omega) hF (by omega)
    rw [em, T, tl]
    generalize hM : (2 : Nat) ^ j = m at *
    have e1 : w64 ((2 : Int) * m) = ((2 * m : Nat) : Int) := by rw [w64_id (by omega) (by omega)]; simp
    have hsub : sub (T j (S y) ++ D y ++ r) (m : Int) ((2 * m : Nat) : Int) = some (D y) := by
      show (bif decide (m ≤ 2 * m) && decide (2 * m ≤ (T j (S y) ++ D y ++ r).length) then some (((T j (S y) ++ D y ++ r).take (2 * m)).drop m) else none) = _
      have g1 : decide (m ≤ 2 * m) = true := by simp; omega
      have g2 : decide (2 * m ≤ (T j (S y) ++ D y ++ r).length) = true := by simp; omega
      rw [g1, g2]
      simp only [Bool.and_self, cond_true]
      have g3 : (T j (S y) ++ D y ++ r).take (2 * m) = T j (S y) ++ D y := by
        rw [show 2 * m = (T j (S y) ++ D y).length by simp; omega]
        exact List.take_left
      rw [g3, ← hT]
      simp
    have e5 : w64 (Int.tdiv (m : Int) 2) = ((m / 2 : Nat) : Int) := by
      have : Int.tdiv (m : Int) 2 = ((m / 2 : Nat) : Int) := tdiv_nat m 2
      rw [this, w64_nat (by omega)]
    have h2 := ti2 F (glitch_Tiles_1 F N) (T j (S y) ++ D y ++ r) x (D y) (lev + 1) m (by omega) (D y).length F 0 acc (by omega) (by omega) (by omega) (by omega)
    rw [glitch_Tiles_1, bif_pos' (by omega : (0 : Int) < m), e1, hsub, bnd_eq, el]
    have h3 : glitch_Tiles_2 F (glitch_Tiles_1 F N) F (T j (S y) ++ D y ++ r) (lev + 1) m (D y) (D y).length 0 x acc = _ := h2
    rw [h3, List.drop_zero, e5, List.append_assoc]
    rw [ih (by omega) (by simp [tilesOf_len]; omega), List.append_assoc]
theorem Tiles_eq (F : Nat) (x : List Int) (hl : x.length ≤ 9223372036854775807) (hF : x.length + 1100 < F) {k : Nat} (hk : sig x = true → k ≤ 10 ∧ x.length = 2 ^ k ∧ Wi 1048576 x) : glitch_Tiles F x = some (bif sig x then (tl k 1 x, 0) else ([], 60)) := by
  unfold glitch_Tiles
  rw [isSignal_eq F x hl (by omega), bnd_eq]
  cases hs : sig x with
  | false => rfl
  | true =>
    obtain ⟨h1, h2, h3⟩ := hk hs
    have hpow : (2 : Nat) ^ k ≤ 2 ^ 10 := Nat.pow_le_pow_right (by omega) (by omega)
    have hT := T_len k x h2
    have e : w64 (Int.tdiv ((T k x).length : Int) 2) = ((2 ^ k / 2 : Nat) : Int) := by
      have h1 : Int.tdiv ((T k x).length : Int) 2 = (((T k x).length / 2 : Nat) : Int) := tdiv_nat _ 2
      rw [h1, w64_nat (by omega), hT]
    have h4 := ti1 F x k F x [] 0 [] h1 h2 (by omega) (by omega) (by omega) (by omega) (by simp; omega)
    rw [List.append_nil, List.nil_append] at h4
    simp only [Bool.not_true, cond_false, cond_true]
    rw [transform_eq F k x h1 h2 h3 (by omega), bnd_eq, e]
    exact h4
theorem Transform_ex (x : List Int) : ∃ k, True ∧ (sig x = true → k ≤ 10 ∧ x.length = 2 ^ k ∧ Wi 1048576 x) := by
  cases hs : sig x with
  | false => exact ⟨0, trivial, fun h => by simp at h⟩
  | true =>
    have h := hs
    simp only [sig, Bool.and_eq_true] at h
    obtain ⟨k, hk, hx⟩ := isPow_k h.1
    exact ⟨k, trivial, fun _ => ⟨hk, hx, win_iff.1 h.2⟩⟩
end Go.Ev.SearchTiles
