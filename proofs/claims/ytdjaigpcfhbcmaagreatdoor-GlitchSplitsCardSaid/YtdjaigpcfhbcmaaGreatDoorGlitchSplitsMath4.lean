/- Parts. -/
import Derived.Test.YtdjaigpcfhbcmaaGreatDoorGlitchSplitsMath3
namespace Go.Ev.GlitchSplits
open Go Go.Ev Go.Proofs
set_option linter.unusedVariables false
def eqT (a b : S_api_Tile) : Bool := ((a.Level == b.Level) && ((a.At == b.At) && ((a.D == b.D) && true)))
theorem eqT_iff {a b : S_api_Tile} : eqT a b = true ↔ a = b := by
  obtain ⟨a1, a2, a3⟩ := a
  obtain ⟨b1, b2, b3⟩ := b
  simp [eqT]
theorem eqT_comm (a b : S_api_Tile) : eqT a b = eqT b a := by
  rw [Bool.eq_iff_iff, eqT_iff, eqT_iff]
  exact eq_comm
def strip : List S_api_Tile → List S_api_Tile → List S_api_Tile
  | [], l => l
  | _ :: ts, [] => strip ts []
  | t :: ts, a :: l => bif eqT a t then strip ts l else strip ts (a :: l)
theorem strip_nil : ∀ ts, strip ts [] = []
  | [] => rfl
  | _ :: ts => strip_nil ts
theorem strip_app : ∀ (a b l : List S_api_Tile), strip (a ++ b) l = strip b (strip a l)
  | [], _, _ => rfl
  | t :: a, b, [] => by rw [List.cons_append, strip, strip, strip_app]
  | t :: a, b, x :: l => by
    rw [List.cons_append, strip, strip]
    cases eqT x t with
    | true => exact strip_app a b l
    | false => exact strip_app a b (x :: l)
theorem ar2 (F : Nat) (hd : List Int → Int → Int → Bool → List S_api_Tile → List Int → Option Bool) (c x d : List Int) (lev m : Int) (g : Bool) (hd1 : d.length ≤ 4096) :
    ∀ (k N i : Nat) (l : List S_api_Tile), k = d.length - i → i ≤ d.length → k < N → l.length ≤ 9223372036854775807 → glitch_areTilesOf_2 F hd N c lev m d d.length i g l x = hd c lev (w64 (Int.tdiv m 2)) g (strip (tilesOf lev i (d.drop i)) l) x
  | k, 0, i, l, _, _, h, _ => by omega
  | 0, N + 1, i, l, hk, hi, _, _ => by
    rw [glitch_areTilesOf_2, bif_neg' (by omega : ¬ ((i : Int) < d.length)), List.drop_of_length_le (by omega)]
    rfl
  | k + 1, N + 1, i, l, hk, hi, hN, hl => by
    obtain ⟨a, hx⟩ := get_lt (l := d) (i := i) (by omega)
    have e : w64 ((i : Int) + 1) = ((i + 1 : Nat) : Int) := by rw [w64_id (by omega) (by omega)]; simp
    rw [glitch_areTilesOf_2, bif_pos' (by omega : ((i : Int) < d.length)), idx_nat, hx, bnd_eq, drop_get hx, tilesOf]
    unfold glitch_areTilesOf_3
    cases l with
    | nil =>
      rw [bif_neg' (by simp)]
      simp only [cond_false]
      rw [e, ar2 F hd c x d lev m g hd1 k N (i + 1) [] (by omega) (by omega) (by omega) (by simp), strip, strip_nil]
    | cons b l =>
      have h0 : idx (b :: l) (0 : Int) = some b := rfl
      have h1 : sub (b :: l) 1 ((b :: l).length : Int) = some l := by
        have := subcL (b :: l) 1 (by simp) (j := 1) rfl
        rw [this]
        rfl
      rw [bif_pos' (by simp), h0, bnd_eq, h1, bnd_eq, e]
      have e2 : ((b.Level == lev) && ((b.At == (i : Int)) && ((b.D == a) && true))) = eqT b ⟨lev, i, a⟩ := rfl
      rw [e2, strip]
      cases eqT b ⟨lev, i, a⟩ with
      | true =>
        simp only [cond_true]
        exact ar2 F hd c x d lev m g hd1 k N (i + 1) l (by omega) (by omega) (by omega) (by simp at hl; omega)
      | false =>
        simp only [cond_false]
        exact ar2 F hd c x d lev m g hd1 k N (i + 1) (b :: l) (by omega) (by omega) (by omega) hl
theorem strip_len : ∀ (ts l : List S_api_Tile), (strip ts l).length ≤ l.length
  | [], l => Nat.le_refl _
  | _ :: ts, [] => by rw [strip]; exact strip_len ts []
  | t :: ts, a :: l => by
    rw [strip]
    cases eqT a t with
    | true => have := strip_len ts l; simp only [cond_true, List.length_cons]; omega
    | false => exact strip_len ts (a :: l)
theorem ar1 (F : Nat) (x : List Int) (g : Bool) : ∀ (j N : Nat) (y r : List Int) (lev : Int) (l : List S_api_Tile), j ≤ 10 → y.length = 2 ^ j → j < N → 1100 < F → 0 ≤ lev → lev + j ≤ 100 → l.length ≤ 9223372036854775807 →
    glitch_areTilesOf_1 F N (T j y ++ r) lev ((2 ^ j / 2 : Nat) : Int) g l x = some (((strip (tl j (lev + 1) y) l).length : Int) == 0)
  | j, 0, _, _, _, _, _, _, h, _, _, _, _ => by omega
  | 0, N + 1, y, r, lev, l, _, _, _, _, _, _, _ => by
    rw [glitch_areTilesOf_1, bif_neg' (by simp)]
    rfl
  | j + 1, N + 1, y, r, lev, l, hj, hy, hN, hF, hl0, hl1, hll => by
    have hpow : (2 : Nat) ^ j ≤ 2 ^ 10 := Nat.pow_le_pow_right (by omega) (by omega)
    have hpos : 1 ≤ (2 : Nat) ^ j := Nat.one_le_two_pow
    have hy2 : y.length = 2 * 2 ^ j := by rw [hy, Nat.pow_succ]; omega
    have hS := S_len _ y hy2
    have hD := D_len _ y hy2
    have hT := T_len j (S y) hS
    have em : (2 ^ (j + 1) / 2 : Nat) = 2 ^ j := by rw [Nat.pow_succ]; omega
    have el : w64 (lev + 1) = lev + 1 := w64_id (by omega) (by omega)
    have hsl := strip_len (tilesOf (lev + 1) 0 (D y)) l
    have ih := ar1 F x g j N (S y) (D y ++ r) (lev + 1) (strip (tilesOf (lev + 1) 0 (D y)) l) (by omega) hS (by omega) hF (by omega) (by omega) (by omega)
    rw [em, T, tl, strip_app]
    generalize hM : (2 : Nat) ^ j = m at *
    have e1 : w64 ((2 : Int) * m) = ((2 * m : Nat) : Int) := by rw [w64_id (by omega) (by omega)]; simp
    have hsub : sub (T j (S y) ++ D y ++ r) (m : Int) ((2 * m : Nat) : Int) = some (D y) := by
      show (bif decide (m ≤ 2 * m) && decide (2 * m ≤ (T j (S y) ++ D y ++ r).length) then some (((T j (S y) ++ D y ++ r).take (2 * m)).drop m) else none) = _
      have g1 : decide (m ≤ 2 * m) = true := by simp; omega
      have g2 : decide (2 * m ≤ (T j (S y) ++ D y ++ r).length) = true := by simp; omega
      rw [g1, g2]
      simp only [Bool.and_self, cond_true]
      have g3 : (T j (S y) ++ D y ++ r).take (2 * m) = T j (S y) ++ D y := by
        rw [show 2 * m = (T j (S y) ++ D y).length by simp; omega]
        exact List.take_left
      rw [g3, ← hT]
      simp
    have e5 : w64 (Int.tdiv (m : Int) 2) = ((m / 2 : Nat) : Int) := by
      have : Int.tdiv (m : Int) 2 = ((m / 2 : Nat) : Int) := tdiv_nat m 2
      rw [this, w64_nat (by omega)]
    have h2 := ar2 F (glitch_areTilesOf_1 F N) (T j (S y) ++ D y ++ r) x (D y) (lev + 1) m g (by omega) (D y).length F 0 l (by omega) (by omega) (by omega) hll
    rw [glitch_areTilesOf_1, bif_pos' (by omega : (0 : Int) < m), e1, hsub, bnd_eq, el]
    have h3 : glitch_areTilesOf_2 F (glitch_areTilesOf_1 F N) F (T j (S y) ++ D y ++ r) (lev + 1) m (D y) (D y).length 0 g l x = _ := h2
    rw [h3, List.drop_zero, e5, List.append_assoc]
    exact ih
theorem areTiles_eq (F : Nat) (x : List Int) (l : List S_api_Tile) (k : Nat) (h1 : k ≤ 10) (h2 : x.length = 2 ^ k) (h3 : Wi 1048576 x) (hF : 1100 < F) (hl : l.length ≤ 9223372036854775807) : glitch_areTilesOf F x l = some (((strip (tl k 1 x) l).length : Int) == 0) := by
  have hpow : (2 : Nat) ^ k ≤ 2 ^ 10 := Nat.pow_le_pow_right (by omega) (by omega)
  have hT := T_len k x h2
  have e : w64 (Int.tdiv ((T k x).length : Int) 2) = ((2 ^ k / 2 : Nat) : Int) := by
    have h1 : Int.tdiv ((T k x).length : Int) 2 = (((T k x).length / 2 : Nat) : Int) := tdiv_nat _ 2
    rw [h1, w64_nat (by omega), hT]
  have h4 := ar1 F x false k F x [] 0 l h1 h2 (by omega) (by omega) (by omega) (by omega) hl
  rw [List.append_nil] at h4
  unfold glitch_areTilesOf
  rw [transform_eq F k x h1 h2 h3 (by omega), bnd_eq, e]
  exact h4
/-- A tile that lies within n samples. -/
def VT (n : Nat) (t : S_api_Tile) : Prop := ∃ lv a : Nat, t.Level = lv ∧ t.At = a ∧ 1 ≤ lv ∧ lv ≤ 10 ∧ (a + 1) * 2 ^ lv ≤ n
theorem VT_of (n lev m : Nat) (h1 : 1 ≤ lev) (h2 : lev ≤ 10) (hn : m * 2 ^ lev ≤ n) : ∀ (l : List Int) (i : Nat), i + l.length ≤ m → ∀ t ∈ tilesOf lev i l, VT n t
  | [], _, _, t, h => by simp [tilesOf] at h
  | d :: l, i, hi, t, h => by
    simp only [tilesOf, List.mem_cons] at h
    rcases h with rfl | h
    · refine ⟨lev, i, rfl, rfl, h1, h2, Nat.le_trans (Nat.mul_le_mul_right _ ?_) hn⟩
      simp at hi
      omega
    · exact VT_of n lev m h1 h2 hn l (i + 1) (by simp at hi; omega) t h
theorem VT_tl : ∀ (k r : Nat) (y : List Int), k + r ≤ 10 → y.length = 2 ^ k → ∀ t ∈ tl k ((r + 1 : Nat) : Int) y, VT (2 ^ (k + r)) t
  | 0, _, _, _, _, t, h => by simp [tl] at h
  | k + 1, r, y, hk, hy, t, h => by
    have hy2 : y.length = 2 * 2 ^ k := by rw [hy, Nat.pow_succ]; omega
    rw [tl] at h
    rcases List.mem_append.1 h with h | h
    · refine VT_of (2 ^ (k + 1 + r)) (r + 1) (2 ^ k) (by omega) (by omega) ?_ (D y) 0 (by rw [D_len _ y hy2]; omega) t h
      rw [← Nat.pow_add]
      exact Nat.pow_le_pow_right (by omega) (by omega)
    · have := VT_tl k (r + 1) (S y) (by omega) (S_len _ y hy2) t h
      rw [show k + 1 + r = k + (r + 1) by omega]
      exact this
/-- What a tile adds. -/
def addR (h : Int) (f b t : Nat) (p : List Int) : List Int := p.mapIdx fun j v => if f ≤ j ∧ j < t then (if j < b then w64 (v + h) else w64 (v - h)) else v
theorem addR_len (h : Int) (f b t : Nat) (p : List Int) : (addR h f b t p).length = p.length := by simp [addR]
theorem addR_step (h : Int) (f b t : Nat) (p : List Int) (v : Int) (hf : f < t) (hv : p[f]? = some v) : addR h f b t p = addR h (f + 1) b t (p.set f (if f < b then w64 (v + h) else w64 (v - h))) := by
  apply List.ext_getElem?
  intro j
  simp only [addR, List.getElem?_mapIdx, List.getElem?_set]
  have hlt := (List.getElem?_eq_some_iff.1 hv).1
  by_cases hj : f = j
  · subst hj
    rw [if_pos rfl, if_pos hlt, hv]
    simp [hf]
    omega
  · rw [if_neg hj]
    congr 1
    funext u
    by_cases h1 : f ≤ j
    · have h2 : f + 1 ≤ j := by omega
      simp [h1, h2]
    · have h2 : ¬ f + 1 ≤ j := by omega
      simp [h1, h2]
theorem addR_end (h : Int) (f b t : Nat) (p : List Int) (hf : t ≤ f) : addR h f b t p = p := by
  apply List.ext_getElem?
  intro j
  simp only [addR, List.getElem?_mapIdx]
  have : ¬ (f ≤ j ∧ j < t) := by omega
  simp [this]
def upT (n : Nat) (p : List Int) (t : S_api_Tile) : List Int := addR (w64 (t.D * ((n / 2 ^ t.Level.toNat : Nat) : Int))) (t.At.toNat * 2 ^ t.Level.toNat) (t.At.toNat * 2 ^ t.Level.toNat + 2 ^ t.Level.toNat / 2) ((t.At.toNat + 1) * 2 ^ t.Level.toNat) p
theorem pa2 (F : Nat) (hd : Int → List S_api_Tile → Int → Int → List Int → Option (List Int)) (n : Int) (L : List S_api_Tile) (LL ii : Int) (h : Int) (f t : Nat) (hft : f ≤ t) (ht : t ≤ 4096) :
    ∀ (k N i : Nat) (p : List Int), k = t - (f + i) → f + i ≤ t → k < N → t ≤ p.length → glitch_part_2 F hd N n f t h L LL ii ((t - f : Nat) : Int) i p = hd n L LL (w64 (ii + 1)) (addR h (f + i) (f + (t - f) / 2) t p)
  | k, 0, i, p, _, _, hh, _ => by omega
  | 0, N + 1, i, p, hk, hi, _, hp => by
    rw [glitch_part_2, bif_neg' (by omega : ¬ ((i : Int) < ((t - f : Nat) : Int))), addR_end _ _ _ _ _ (by omega)]
  | k + 1, N + 1, i, p, hk, hi, hN, hp => by
    obtain ⟨v, hv⟩ := get_lt (l := p) (i := f + i) (by omega)
    have e : w64 ((i : Int) + 1) = ((i + 1 : Nat) : Int) := by rw [w64_id (by omega) (by omega)]; simp
    have e2 : w64 ((f : Int) + i) = ((f + i : Nat) : Int) := by rw [w64_id (by omega) (by omega)]; simp
    have e3 : w64 ((t : Int) - f) = ((t - f : Nat) : Int) := by rw [w64_id (by omega) (by omega)]; omega
    have e4 : w64 (Int.tdiv ((t - f : Nat) : Int) 2) = (((t - f) / 2 : Nat) : Int) := by
      have : Int.tdiv ((t - f : Nat) : Int) 2 = (((t - f) / 2 : Nat) : Int) := tdiv_nat _ 2
      rw [this, w64_nat (by omega)]
    rw [glitch_part_2, bif_pos' (by omega : ((i : Int) < ((t - f : Nat) : Int))), e2, e3, e4, addR_step h (f + i) (f + (t - f) / 2) t p v (by omega) hv]
    unfold glitch_part_3
    by_cases hc : i < (t - f) / 2
    · rw [bif_pos' (by omega : ((i : Int) < (((t - f) / 2 : Nat) : Int))), idx_at hv rfl, bnd_eq, inn_at (i := f + i) (by omega) rfl, bnd_eq, upd_at (by omega), bnd_eq, e, pa2 F hd n L LL ii h f t hft ht k N (i + 1) _ (by omega) (by omega) (by omega) (by simp; omega), if_pos (by omega)]
      rfl
    · rw [bif_neg' (by omega : ¬ ((i : Int) < (((t - f) / 2 : Nat) : Int))), idx_at hv rfl, bnd_eq, inn_at (i := f + i) (by omega) rfl, bnd_eq, upd_at (by omega), bnd_eq, e, pa2 F hd n L LL ii h f t hft ht k N (i + 1) _ (by omega) (by omega) (by omega) (by simp; omega), if_neg (by omega)]
      rfl
end Go.Ev.GlitchSplits
