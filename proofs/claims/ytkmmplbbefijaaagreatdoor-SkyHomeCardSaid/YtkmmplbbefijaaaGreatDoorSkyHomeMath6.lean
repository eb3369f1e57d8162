/- SkyHome. -/
import Derived.Test.YtkmmplbbefijaaaGreatDoorSkyHomeMath5
namespace Go.Ev.SkyHome
open Go Go.Ev Go.Proofs
set_option linter.unusedVariables false
theorem Cells_eq (F : Nat) (n : Int) : sky_Cells F n = some (bif inR 1 n 8 then (6 * (n * n), 0) else (0, 91)) := by
  unfold sky_Cells
  rw [checkGrid_eq, bnd_eq]
  cases e : inR 1 n 8 with
  | false => rfl
  | true => rw [bif_t', bif_t', cells_eq F (inR_iff.1 e)]; rfl
theorem dir_le {n c : Int} (h : (1 ≤ n ∧ n ≤ 8) ∧ 0 ≤ c ∧ c < 6 * (n * n)) : (-8 ≤ (dirM n c).e0 ∧ (dirM n c).e0 ≤ 8) ∧ (-8 ≤ (dirM n c).e1 ∧ (dirM n c).e1 ≤ 8) ∧ (-8 ≤ (dirM n c).e2 ∧ (dirM n c).e2 ≤ 8) := by
  have hi : 0 ≤ c / n % n ∧ c / n % n ≤ n - 1 := ⟨Int.emod_nonneg _ (by omega), by have := Int.emod_lt_of_pos (c / n) (show 0 < n by omega); omega⟩
  have hj : 0 ≤ c % n ∧ c % n ≤ n - 1 := ⟨Int.emod_nonneg _ (by omega), by have := Int.emod_lt_of_pos c (show 0 < n by omega); omega⟩
  unfold dirM
  rcases face_lt h with e | e | e | e | e | e <;> rw [e] <;> simp only [if_true, show ¬ ((1 : Int) = 0) by decide, show ¬ ((2 : Int) = 0) by decide, show ¬ ((2 : Int) = 1) by decide, show ¬ ((3 : Int) = 0) by decide, show ¬ ((3 : Int) = 1) by decide, show ¬ ((3 : Int) = 2) by decide, show ¬ ((4 : Int) = 0) by decide, show ¬ ((4 : Int) = 1) by decide, show ¬ ((4 : Int) = 2) by decide, show ¬ ((4 : Int) = 3) by decide, show ¬ ((5 : Int) = 0) by decide, show ¬ ((5 : Int) = 1) by decide, show ¬ ((5 : Int) = 2) by decide, show ¬ ((5 : Int) = 3) by decide, show ¬ ((5 : Int) = 4) by decide, if_false] <;> omega
theorem mul_in {a b x y : Int} (ha : -x ≤ a ∧ a ≤ x) (hb : -y ≤ b ∧ b ≤ y) (hx : 0 ≤ x) (hy : 0 ≤ y) : -(x * y) ≤ a * b ∧ a * b ≤ x * y := by
  have h1 : a.natAbs ≤ x.natAbs := by omega
  have h2 : b.natAbs ≤ y.natAbs := by omega
  have h3 : (a * b).natAbs ≤ (x * y).natAbs := by rw [Int.natAbs_mul, Int.natAbs_mul]; exact Nat.mul_le_mul h1 h2
  have h4 : 0 ≤ x * y := Int.mul_nonneg hx hy
  omega
theorem law2 (F : Nat) (hF : 4 < F) (hw : works F = some true) (n : Int) (v d : S__3_int) : law09_SkyHome_2 F n v d = some true := by
  unfold law09_SkyHome_2 law09_SkyHome_3
  rw [CellOf_eq F hF, bnd_eq]
  unfold cellOfM
  cases e1 : inR 1 n 8 with
  | false => simp only [cond_false]; rw [hw]; rfl
  | true =>
    rw [bif_t']
    cases e2 : inV 1000 v with
    | false => simp only [cond_false]; rw [hw]; rfl
    | true =>
      rw [bif_t']
      cases e3 : isZ v with
      | true => simp only [cond_true]; rw [hw]; rfl
      | false =>
        rw [bif_f']
        have hn := inR_iff.1 e1
        obtain ⟨h1, h2⟩ := home2 hn v e3
        have hv := inV_iff.1 e2
        have hn2 : 6 * (n * n) ≤ 384 := by rcases eight hn with rfl | rfl | rfl | rfl | rfl | rfl | rfl | rfl <;> decide
        have hcb : cellB n (cellM n v) = true := cellB_iff.2 ⟨hn, h1.1, h1.2⟩
        have hd := dir_le ⟨hn, h1.1, h1.2⟩
        show (bnd (sky_Cells F n) fun r62 => _) = _
        rw [Cells_eq, e1, bif_t', bnd_eq]
        show (bnd (ref00_In F (cellM n v) 0 (w64 (6 * (n * n) - 1))) fun r88 => _) = _
        have hw6 : w64 (6 * (n * n) - 1) = 6 * (n * n) - 1 := w64_id (by omega) (by omega)
        rw [hw6, In_eq, bnd_eq, show inR 0 (cellM n v) (6 * (n * n) - 1) = true from inR_iff.2 (by omega)]
        show law09_SkyHome_4 F n (cellM n v) false v d = _
        unfold law09_SkyHome_4
        rw [bif_f', Direction_eq, hcb, bif_t', bnd_eq]
        have m0 := mul_in hd.1 hv.1 (by omega) (by omega)
        have m1 := mul_in hd.2.1 hv.2.1 (by omega) (by omega)
        have m2 := mul_in hd.2.2 hv.2.2 (by omega) (by omega)
        show law09_SkyHome_5 F (decide (0 < w64 (w64 (w64 ((dirM n (cellM n v)).e0 * v.e0) + w64 ((dirM n (cellM n v)).e1 * v.e1)) + w64 ((dirM n (cellM n v)).e2 * v.e2)))) = _
        rw [w64_id (n := (dirM n (cellM n v)).e0 * v.e0) (by omega) (by omega), w64_id (n := (dirM n (cellM n v)).e1 * v.e1) (by omega) (by omega), w64_id (n := (dirM n (cellM n v)).e2 * v.e2) (by omega) (by omega)]
        rw [w64_id (n := (dirM n (cellM n v)).e0 * v.e0 + (dirM n (cellM n v)).e1 * v.e1) (by omega) (by omega), w64_id (by omega) (by omega), decide_eq_true h2]
        unfold law09_SkyHome_5 law09_SkyHome_6
        rw [bif_t', hw]
        rfl
theorem law_eq (F : Nat) (n : Int) (x : S__2_int) (v : S__3_int) (hF : 4 < F) (hw : works F = some true) : law09_SkyHome F n x v = some true := by
  unfold law09_SkyHome
  have hm1 := Int.emod_nonneg x.e1 (show (100 : Int) ≠ 0 by omega)
  have hm2 := Int.emod_lt_of_pos x.e1 (show (0 : Int) < 100 by omega)
  rw [Mod_eq F _ 100 (by omega) (by omega), bnd_eq, Direction_eq, bnd_eq]
  cases e : cellB n x.e0 with
  | false => exact law2 F hF hw n v _
  | true =>
    have h := cellB_iff.1 e
    have hd := dir_le h
    obtain ⟨hz, hc⟩ := home1 h (b := 1 + x.e1 % 100) (by omega)
    have m0 := mul_in (a := 1 + x.e1 % 100) (x := 100) (by omega) hd.1 (by omega) (by omega)
    have m1 := mul_in (a := 1 + x.e1 % 100) (x := 100) (by omega) hd.2.1 (by omega) (by omega)
    have m2 := mul_in (a := 1 + x.e1 % 100) (x := 100) (by omega) hd.2.2 (by omega) (by omega)
    have hco : cellOfM n (scale (1 + x.e1 % 100) (dirM n x.e0)) = (x.e0, 0) := by
      unfold cellOfM
      rw [inR_iff.2 h.1, inV_iff.2 (by unfold scale; simp only; omega), hz, hc]
      rfl
    show (bnd (sky_CellOf F n ⟨w64 (w64 (1 + x.e1 % 100) * (dirM n x.e0).e0), w64 (w64 (1 + x.e1 % 100) * (dirM n x.e0).e1), w64 (w64 (1 + x.e1 % 100) * (dirM n x.e0).e2)⟩) fun r49 => _) = _
    rw [w64_id (n := 1 + x.e1 % 100) (by omega) (by omega), w64_id (n := _ * (dirM n x.e0).e0) (by omega) (by omega), w64_id (n := _ * (dirM n x.e0).e1) (by omega) (by omega), w64_id (n := _ * (dirM n x.e0).e2) (by omega) (by omega)]
    rw [CellOf_eq F hF, bnd_eq]
    unfold scale at hco
    rw [hco]
    show law09_SkyHome_1 F n (!(x.e0 == x.e0)) v _ = _
    rw [beq_self_eq_true]
    exact law2 F hF hw n v _
end Go.Ev.SkyHome
