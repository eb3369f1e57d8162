/- The cell of a vector. -/
import Derived.Test.YtkmmplbbefijaaaGreatDoorSkyCellsMath1
namespace Go.Ev.SkyCells
open Go Go.Ev Go.Proofs
set_option linter.unusedVariables false
theorem checkGrid_eq (F : Nat) (n : Int) : sky_checkGrid F n = some (bif inR 1 n 8 then 0 else 91) := by
  unfold sky_checkGrid
  rw [isValid_eq, bnd_eq]
  cases inR 1 n 8 <;> rfl
def inV (m : Int) (v : S__3_int) : Bool := inR (-m) v.e0 m && (inR (-m) v.e1 m && inR (-m) v.e2 m)
theorem inV_iff {m : Int} {v : S__3_int} : inV m v = true ↔ (-m ≤ v.e0 ∧ v.e0 ≤ m) ∧ (-m ≤ v.e1 ∧ v.e1 ≤ m) ∧ (-m ≤ v.e2 ∧ v.e2 ≤ m) := by
  unfold inV
  rw [Bool.and_eq_true, Bool.and_eq_true, inR_iff, inR_iff, inR_iff]
theorem isWithin_eq (F : Nat) (hF : 4 < F) (v : S__3_int) (m : Int) (hm : 0 ≤ m ∧ m ≤ 4611686018427387904) : sky_vector_isWithin F v m = some (inV m v) := by
  obtain ⟨N, rfl⟩ : ∃ N, F = N + 5 := ⟨F - 5, by omega⟩
  have e : w64 (-m) = -m := w64_id (by omega) (by omega)
  unfold sky_vector_isWithin inV
  rw [sky_vector_isWithin_1, bif_pos' (by decide), show inA (0 : Int) 3 = some 0 from rfl, bnd_eq, e, isFrom_eq, bnd_eq]
  show (bif !(inR (-m) v.e0 m) then _ else _) = _
  cases inR (-m) v.e0 m with
  | false => rfl
  | true =>
    show sky_vector_isWithin_1 (N + 5) (N + 4) m v 1 = _
    rw [sky_vector_isWithin_1, bif_pos' (by decide), show inA (1 : Int) 3 = some 1 from rfl, bnd_eq, e, isFrom_eq, bnd_eq]
    show (bif !(inR (-m) v.e1 m) then _ else _) = _
    cases inR (-m) v.e1 m with
    | false => rfl
    | true =>
      show sky_vector_isWithin_1 (N + 5) (N + 3) m v 2 = _
      rw [sky_vector_isWithin_1, bif_pos' (by decide), show inA (2 : Int) 3 = some 2 from rfl, bnd_eq, e, isFrom_eq, bnd_eq]
      show (bif !(inR (-m) v.e2 m) then _ else _) = _
      cases inR (-m) v.e2 m with
      | false => rfl
      | true =>
        show sky_vector_isWithin_1 (N + 5) (N + 2) m v 3 = _
        rw [sky_vector_isWithin_1, bif_neg' (by decide)]
        rfl
def isZ (v : S__3_int) : Bool := (v.e0 == (0 : Int)) && ((v.e1 == (0 : Int)) && ((v.e2 == (0 : Int)) && true))
theorem isZ_false {v : S__3_int} (h : isZ v = false) : v.e0 ≠ 0 ∨ v.e1 ≠ 0 ∨ v.e2 ≠ 0 := by
  unfold isZ at h
  apply Classical.byContradiction
  intro hn
  have h0 : v.e0 = 0 ∧ v.e1 = 0 ∧ v.e2 = 0 := by omega
  rw [h0.1, h0.2.1, h0.2.2] at h
  simp at h
def fstep (ax x : Int) (p : Int × Int) : Int × Int := bif decide (p.2 < x) then (2 * ax, x) else (bif decide (p.2 < -x) then (2 * ax + 1, -x) else p)
def faceM (v : S__3_int) : Int × Int := fstep 2 v.e2 (fstep 1 v.e1 (fstep 0 v.e0 (0, 0)))
theorem face_step (F N : Nat) (p : Int × Int) (v : S__3_int) (ax : Nat) (h : ax < 3) (hx : -4611686018427387904 ≤ get85 v ax ∧ get85 v ax ≤ 4611686018427387904) : sky_faceOf_1 F (N + 1) p.1 p.2 v ax = sky_faceOf_1 F N (fstep ax (get85 v ax) p).1 (fstep ax (get85 v ax) p).2 v ((ax + 1 : Nat) : Int) := by
  have ei : inA (ax : Int) 3 = some ax := by
    have : ax = 0 ∨ ax = 1 ∨ ax = 2 := by omega
    rcases this with rfl | rfl | rfl <;> rfl
  rw [sky_faceOf_1, bif_pos' (by omega), ei, bnd_eq, w64_id (n := -(get85 v ax)) (by omega) (by omega), w64_id (n := 2 * (ax : Int)) (by omega) (by omega), w64_id (n := 2 * (ax : Int) + 1) (by omega) (by omega)]
  unfold sky_faceOf_2 fstep
  rw [show w64 ((ax : Int) + 1) = ((ax + 1 : Nat) : Int) from up (by omega)]
  by_cases h1 : p.2 < get85 v ax
  · rw [bif_pos' h1, bif_pos' h1]
  · rw [bif_neg' h1, bif_neg' h1]
    by_cases h2 : p.2 < -(get85 v ax)
    · rw [bif_pos' h2, bif_pos' h2]
    · rw [bif_neg' h2, bif_neg' h2]
theorem faceOf_eq (F : Nat) (hF : 4 < F) (v : S__3_int) (h : (-1000 ≤ v.e0 ∧ v.e0 ≤ 1000) ∧ (-1000 ≤ v.e1 ∧ v.e1 ≤ 1000) ∧ (-1000 ≤ v.e2 ∧ v.e2 ≤ 1000)) : sky_faceOf F v = some (faceM v).1 := by
  obtain ⟨N, rfl⟩ : ∃ N, F = N + 4 := ⟨F - 4, by omega⟩
  unfold sky_faceOf
  have e0 : get85 v 0 = v.e0 := rfl
  have e1 : get85 v 1 = v.e1 := rfl
  have e2 : get85 v 2 = v.e2 := rfl
  refine (face_step (N + 4) (N + 3) (0, 0) v 0 (by omega) (by rw [e0]; omega)).trans ?_
  refine (face_step (N + 4) (N + 2) _ v 1 (by omega) (by rw [e1]; omega)).trans ?_
  refine (face_step (N + 4) (N + 1) _ v 2 (by omega) (by rw [e2]; omega)).trans ?_
  rw [sky_faceOf_1, bif_neg' (by omega)]
  rfl
/-- What lies through a face, and the others; how much it is. -/
def viaM (v : S__3_int) : Int × Int × Int := bif decide ((faceM v).1 / 2 = 0) then (v.e0, v.e1, v.e2) else (bif decide ((faceM v).1 / 2 = 1) then (v.e1, v.e0, v.e2) else (v.e2, v.e0, v.e1))
def absM (x : Int) : Int := max x (-x)
def placeM (n m p : Int) : Int := min ((p + m) * n / (2 * m)) (n - 1)
def cellM (n : Int) (v : S__3_int) : Int := ((faceM v).1 * n + placeM n (absM (viaM v).1) (viaM v).2.1) * n + placeM n (absM (viaM v).1) (viaM v).2.2
/-- A face, and its greatest magnitude. -/
theorem face_is (v : S__3_int) (hz : isZ v = false) : ((faceM v).1 = 0 ∧ 0 < v.e0 ∧ absM v.e1 ≤ v.e0 ∧ absM v.e2 ≤ v.e0) ∨ ((faceM v).1 = 1 ∧ 0 < -v.e0 ∧ absM v.e1 ≤ -v.e0 ∧ absM v.e2 ≤ -v.e0)
    ∨ ((faceM v).1 = 2 ∧ 0 < v.e1 ∧ absM v.e0 < v.e1 ∧ absM v.e2 ≤ v.e1) ∨ ((faceM v).1 = 3 ∧ 0 < -v.e1 ∧ absM v.e0 < -v.e1 ∧ absM v.e2 ≤ -v.e1)
    ∨ ((faceM v).1 = 4 ∧ 0 < v.e2 ∧ absM v.e0 < v.e2 ∧ absM v.e1 < v.e2) ∨ ((faceM v).1 = 5 ∧ 0 < -v.e2 ∧ absM v.e0 < -v.e2 ∧ absM v.e1 < -v.e2) := by
  have h0 := isZ_false hz
  unfold faceM fstep absM
  simp only [cond_eq_ite, decide_eq_true_eq]
  obtain ⟨x, y, z⟩ := v
  simp only at h0 ⊢
  by_cases h1 : 0 < x
  · simp only [h1, if_true]
    by_cases h2 : x < y
    · simp only [h2, if_true]
      by_cases h3 : y < z
      · simp only [h3, if_true]; (try simp only [true_and]); omega
      · by_cases h4 : y < -z
        · simp only [h3, h4, if_true, if_false]; (try simp only [true_and]); omega
        · simp only [h3, h4, if_false]; (try simp only [true_and]); omega
    · by_cases h2' : x < -y
      · simp only [h2, h2', if_true, if_false]
        by_cases h3 : -y < z
        · simp only [h3, if_true]; (try simp only [true_and]); omega
        · by_cases h4 : -y < -z
          · simp only [h3, h4, if_true, if_false]; (try simp only [true_and]); omega
          · simp only [h3, h4, if_false]; (try simp only [true_and]); omega
      · simp only [h2, h2', if_false]
        by_cases h3 : x < z
        · simp only [h3, if_true]; (try simp only [true_and]); omega
        · by_cases h4 : x < -z
          · simp only [h3, h4, if_true, if_false]; (try simp only [true_and]); omega
          · simp only [h3, h4, if_false]; (try simp only [true_and]); omega
  · by_cases h1' : 0 < -x
    · simp only [h1, h1', if_true, if_false]
      by_cases h2 : -x < y
      · simp only [h2, if_true]
        by_cases h3 : y < z
        · simp only [h3, if_true]; (try simp only [true_and]); omega
        · by_cases h4 : y < -z
          · simp only [h3, h4, if_true, if_false]; (try simp only [true_and]); omega
          · simp only [h3, h4, if_false]; (try simp only [true_and]); omega
      · by_cases h2' : -x < -y
        · simp only [h2, h2', if_true, if_false]
          by_cases h3 : -y < z
          · simp only [h3, if_true]; (try simp only [true_and]); omega
          · by_cases h4 : -y < -z
            · simp only [h3, h4, if_true, if_false]; (try simp only [true_and]); omega
            · simp only [h3, h4, if_false]; (try simp only [true_and]); omega
        · simp only [h2, h2', if_false]
          by_cases h3 : -x < z
          · simp only [h3, if_true]; (try simp only [true_and]); omega
          · by_cases h4 : -x < -z
            · simp only [h3, h4, if_true, if_false]; (try simp only [true_and]); omega
            · simp only [h3, h4, if_false]; (try simp only [true_and]); omega
    · simp only [h1, h1', if_false]
      by_cases h2 : 0 < y
      · simp only [h2, if_true]
        by_cases h3 : y < z
        · simp only [h3, if_true]; (try simp only [true_and]); omega
        · by_cases h4 : y < -z
          · simp only [h3, h4, if_true, if_false]; (try simp only [true_and]); omega
          · simp only [h3, h4, if_false]; (try simp only [true_and]); omega
      · by_cases h2' : 0 < -y
        · simp only [h2, h2', if_true, if_false]
          by_cases h3 : -y < z
          · simp only [h3, if_true]; (try simp only [true_and]); omega
          · by_cases h4 : -y < -z
            · simp only [h3, h4, if_true, if_false]; (try simp only [true_and]); omega
            · simp only [h3, h4, if_false]; (try simp only [true_and]); omega
        · simp only [h2, h2', if_false]
          by_cases h3 : 0 < z
          · simp only [h3, if_true]; (try simp only [true_and]); omega
          · by_cases h4 : 0 < -z
            · simp only [h3, h4, if_true, if_false]; (try simp only [true_and]); omega
            · simp only [h3, h4, if_false]; (try simp only [true_and]); omega
theorem place_in {n m p : Int} (hn : 1 ≤ n ∧ n ≤ 8) (hm : 0 < m) (hp : -m ≤ p ∧ p ≤ m) : 0 ≤ placeM n m p ∧ placeM n m p ≤ n - 1 := by
  have h1 : 0 ≤ (p + m) * n / (2 * m) := Int.ediv_nonneg (Int.mul_nonneg (by omega) (by omega)) (by omega)
  unfold placeM
  omega
theorem place_w (F : Nat) {n m p : Int} (hn : 1 ≤ n ∧ n ≤ 8) (hm : 0 < m ∧ m ≤ 1000) (hp : -m ≤ p ∧ p ≤ m) : sky_grid_cellOf_1_h1 F p m n = some (placeM n m p) := by
  have h0 : 0 ≤ (p + m) * n := Int.mul_nonneg (by omega) (by omega)
  have h1 : (p + m) * n ≤ 2000 * 8 := Int.mul_le_mul (by omega) (by omega) (by omega) (by omega)
  have h2 : 0 ≤ (p + m) * n / (2 * m) := Int.ediv_nonneg h0 (by omega)
  have h3 := Int.ediv_le_self (2 * m) h0
  unfold sky_grid_cellOf_1_h1 placeM
  rw [w64_id (n := 2 * m) (by omega) (by omega), nz_ok (by omega), bnd_eq, w64_id (n := p + m) (by omega) (by omega), w64_id (n := (p + m) * n) (by omega) (by omega), w64_id (n := n - 1) (by omega) (by omega), Int.tdiv_eq_ediv_of_nonneg h0, w64_id (by omega) (by omega)]
theorem bound6 {n f a b : Int} (hn : 1 ≤ n ∧ n ≤ 8) (hf : 0 ≤ f ∧ f ≤ 5) (ha : 0 ≤ a ∧ a ≤ n - 1) (hb : 0 ≤ b ∧ b ≤ n - 1) : 0 ≤ f * n ∧ f * n ≤ 40 ∧ 0 ≤ (f * n + a) * n ∧ (f * n + a) * n ≤ 400 ∧ 0 ≤ (f * n + a) * n + b ∧ (f * n + a) * n + b < 6 * (n * n) := by
  rcases eight hn with rfl | rfl | rfl | rfl | rfl | rfl | rfl | rfl <;> omega
theorem cell_eq (F : Nat) (hF : 4 < F) {n : Int} (hn : 1 ≤ n ∧ n ≤ 8) (v : S__3_int) (h : (-1000 ≤ v.e0 ∧ v.e0 ≤ 1000) ∧ (-1000 ≤ v.e1 ∧ v.e1 ≤ 1000) ∧ (-1000 ≤ v.e2 ∧ v.e2 ≤ 1000)) (hz : isZ v = false) : sky_grid_cellOf F n v = some (cellM n v) := by
  unfold sky_grid_cellOf cellM viaM
  rw [faceOf_eq F hF v h, bnd_eq]
  have hm : ∀ x : Int, -1000 ≤ x ∧ x ≤ 1000 → max x (w64 (-x)) = absM x := fun x hx => by rw [w64_id (n := -x) (by omega) (by omega)]; rfl
  have fin : ∀ (f m p q : Int), 0 ≤ f ∧ f ≤ 5 → 0 < m ∧ m ≤ 1000 → -m ≤ p ∧ p ≤ m → -m ≤ q ∧ q ≤ m →
      (bnd (sky_grid_cellOf_1_h1 F p m n) fun r40 => bnd (sky_grid_cellOf_1_h1 F q m n) fun r42 => some (w64 ((w64 ((w64 ((w64 (f * n)) + r40)) * n)) + r42))) = some ((f * n + placeM n m p) * n + placeM n m q) := by
    intro f m p q hf h1 h2 h3
    have ha := place_in hn h1.1 h2
    have hb := place_in hn h1.1 h3
    have hb6 := bound6 hn hf ha hb
    rw [place_w F hn h1 h2, bnd_eq, place_w F hn h1 h3, bnd_eq, w64_id (n := f * n) (by omega) (by omega), w64_id (n := f * n + _) (by omega) (by omega), w64_id (n := (f * n + _) * n) (by omega) (by omega), w64_id (by omega) (by omega)]
  have habs : ∀ x y : Int, absM x ≤ y → -y ≤ x ∧ x ≤ y := fun x y h => by unfold absM at h; omega
  have hpos : ∀ x : Int, 0 < x → absM x = x := fun x h => by unfold absM; omega
  have hneg : ∀ x : Int, 0 < -x → absM x = -x := fun x h => by unfold absM; omega
  rcases face_is v hz with ⟨e, h1, h2, h3⟩ | ⟨e, h1, h2, h3⟩ | ⟨e, h1, h2, h3⟩ | ⟨e, h1, h2, h3⟩ | ⟨e, h1, h2, h3⟩ | ⟨e, h1, h2, h3⟩ <;> rw [e]
  · have := fin 0 (absM v.e0) v.e1 v.e2 (by omega) (by rw [hpos _ h1]; omega) (by rw [hpos _ h1]; exact habs _ _ h2) (by rw [hpos _ h1]; exact habs _ _ h3)
    show (bnd (sky_grid_cellOf_1_h1 F v.e1 (max v.e0 (w64 (-v.e0))) n) fun r40 => bnd (sky_grid_cellOf_1_h1 F v.e2 (max v.e0 (w64 (-v.e0))) n) fun r42 => some (w64 ((w64 ((w64 ((w64 (0 * n)) + r40)) * n)) + r42))) = _
    rw [hm _ h.1]
    exact this
  · have := fin 1 (absM v.e0) v.e1 v.e2 (by omega) (by rw [hneg _ h1]; omega) (by rw [hneg _ h1]; exact habs _ _ h2) (by rw [hneg _ h1]; exact habs _ _ h3)
    show (bnd (sky_grid_cellOf_1_h1 F v.e1 (max v.e0 (w64 (-v.e0))) n) fun r40 => bnd (sky_grid_cellOf_1_h1 F v.e2 (max v.e0 (w64 (-v.e0))) n) fun r42 => some (w64 ((w64 ((w64 ((w64 (1 * n)) + r40)) * n)) + r42))) = _
    rw [hm _ h.1]
    exact this
  · have := fin 2 (absM v.e1) v.e0 v.e2 (by omega) (by rw [hpos _ h1]; omega) (by rw [hpos _ h1]; exact habs _ _ (by omega)) (by rw [hpos _ h1]; exact habs _ _ h3)
    show (bnd (sky_grid_cellOf_1_h1 F v.e0 (max v.e1 (w64 (-v.e1))) n) fun r40 => bnd (sky_grid_cellOf_1_h1 F v.e2 (max v.e1 (w64 (-v.e1))) n) fun r42 => some (w64 ((w64 ((w64 ((w64 (2 * n)) + r40)) * n)) + r42))) = _
    rw [hm _ h.2.1]
    exact this
  · have := fin 3 (absM v.e1) v.e0 v.e2 (by omega) (by rw [hneg _ h1]; omega) (by rw [hneg _ h1]; exact habs _ _ (by omega)) (by rw [hneg _ h1]; exact habs _ _ h3)
    show (bnd (sky_grid_cellOf_1_h1 F v.e0 (max v.e1 (w64 (-v.e1))) n) fun r40 => bnd (sky_grid_cellOf_1_h1 F v.e2 (max v.e1 (w64 (-v.e1))) n) fun r42 => some (w64 ((w64 ((w64 ((w64 (3 * n)) + r40)) * n)) + r42))) = _
    rw [hm _ h.2.1]
    exact this
  · have := fin 4 (absM v.e2) v.e0 v.e1 (by omega) (by rw [hpos _ h1]; omega) (by rw [hpos _ h1]; exact habs _ _ (by omega)) (by rw [hpos _ h1]; exact habs _ _ (by omega))
    show (bnd (sky_grid_cellOf_1_h1 F v.e0 (max v.e2 (w64 (-v.e2))) n) fun r40 => bnd (sky_grid_cellOf_1_h1 F v.e1 (max v.e2 (w64 (-v.e2))) n) fun r42 => some (w64 ((w64 ((w64 ((w64 (4 * n)) + r40)) * n)) + r42))) = _
    rw [hm _ h.2.2]
    exact this
  · have := fin 5 (absM v.e2) v.e0 v.e1 (by omega) (by rw [hneg _ h1]; omega) (by rw [hneg _ h1]; exact habs _ _ (by omega)) (by rw [hneg _ h1]; exact habs _ _ (by omega))
    show (bnd (sky_grid_cellOf_1_h1 F v.e0 (max v.e2 (w64 (-v.e2))) n) fun r40 => bnd (sky_grid_cellOf_1_h1 F v.e1 (max v.e2 (w64 (-v.e2))) n) fun r42 => some (w64 ((w64 ((w64 ((w64 (5 * n)) + r40)) * n)) + r42))) = _
    rw [hm _ h.2.2]
    exact this
def cellOfM (n : Int) (v : S__3_int) : Int × Int := bif inR 1 n 8 then (bif inV 1000 v then (bif isZ v then (0, 4) else (cellM n v, 0)) else (0, 8)) else (0, 91)
theorem CellOf_eq (F : Nat) (hF : 4 < F) (n : Int) (v : S__3_int) : sky_CellOf F n v = some (cellOfM n v) := by
  unfold sky_CellOf cellOfM sky_isVector sky_vector_isNone
  rw [checkGrid_eq, bnd_eq]
  cases e1 : inR 1 n 8 with
  | false => rfl
  | true =>
    rw [bif_t', bif_t', isWithin_eq F hF v 1000 (by omega)]
    show (bnd (some (inV 1000 v)) fun r29 => _) = _
    rw [bnd_eq]
    cases e2 : inV 1000 v with
    | false => rfl
    | true =>
      rw [bif_t']
      show (bif isZ v then _ else _) = _
      cases e3 : isZ v with
      | true => rfl
      | false =>
        rw [bif_f', bif_f', cell_eq F hF (inR_iff.1 e1) v (inV_iff.1 e2) e3]
        rfl
end Go.Ev.SkyCells
