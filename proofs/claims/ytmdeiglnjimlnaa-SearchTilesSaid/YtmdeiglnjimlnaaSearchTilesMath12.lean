/- SearchTiles. -/
import Derived.Test.YtmdeiglnjimlnaaSearchTilesMath11
namespace Go.Ev.SearchTiles
open Go Go.Ev Go.Proofs
set_option linter.unusedVariables false
theorem errB_at {x : List Int} {w thr : Int} (h0 : isRec x = true) (h1 : 1 ≤ w ∧ w ≤ 1024) (h2 : 1 ≤ thr ∧ thr ≤ 1152921504606846976) : errB x w thr = 0 := by
  unfold errB
  rw [h0, cond_true, inR_iff.2 h1, inR_iff.2 h2]
  rfl
theorem errB_not {x : List Int} {w thr : Int} (h0 : isRec x = false) : errB x w thr = 82 := by
  unfold errB
  rw [h0, cond_false]
theorem sq_any {x : List Int} (h : ∀ a ∈ x, -1048576 ≤ a ∧ a ≤ 1048576) (p : Nat) : ∀ n : Nat, 0 ≤ sq x (p + n) - sq x p ∧ sq x (p + n) - sq x p ≤ (n : Int) * 1099511627776
  | 0 => by simp
  | n + 1 => by
    have ih := sq_any h p n
    have hb : -1048576 ≤ x[p + n]?.getD 0 ∧ x[p + n]?.getD 0 ≤ 1048576 := by
      cases e : x[p + n]? with
      | none => exact ⟨by decide, by decide⟩
      | some a => exact h a (List.mem_of_getElem? e)
    have h1 : (x[p + n]?.getD 0).natAbs ≤ 1048576 := by omega
    have h2 : x[p + n]?.getD 0 * x[p + n]?.getD 0 = (((x[p + n]?.getD 0).natAbs * (x[p + n]?.getD 0).natAbs : Nat) : Int) := Int.natAbs_mul_self.symm
    have h3 : (x[p + n]?.getD 0).natAbs * (x[p + n]?.getD 0).natAbs ≤ 1048576 * 1048576 := Nat.mul_le_mul h1 h1
    have h4 : ((n + 1 : Nat) : Int) * 1099511627776 = (n : Int) * 1099511627776 + 1099511627776 := by rw [Int.natCast_add, Int.add_mul]; rfl
    have e : sq x (p + (n + 1)) = sq x (p + n) + x[p + n]?.getD 0 * x[p + n]?.getD 0 := by rw [show p + (n + 1) = p + n + 1 by omega, sq]
    rw [e]
    omega
theorem ti3 (F : Nat) (hw : works F = some true) (w : Nat) (hwb : 1 ≤ w ∧ w ≤ 1024) (t : S_api_Tile) (a : Nat) (ha : t.At = a) (hab : (a + 1) * w ≤ 1024) (L : List S_api_Burst) (hL : L.length ≤ 2000) (hg : L.Pairwise gapR) (k0 : Nat) (b0 : S_api_Burst) (hk0 : L[k0]? = some b0) (hi0 : ins w (a * w) b0) :
    ∀ (k N i : Nat), k = L.length - i → i ≤ L.length → k < N → law08_SearchTiles_3 F N w (if k0 < i then 1 else 0) i t L = some true
  | k, 0, i, _, _, h => by omega
  | 0, N + 1, i, hk, hi, _ => by
    have hlt := (List.getElem?_eq_some_iff.1 hk0).1
    rw [law08_SearchTiles_3, bif_neg' (by omega), if_pos (by omega), hw]
    rfl
  | k + 1, N + 1, i, hk, hi, hN => by
    obtain ⟨b, hb⟩ := get_lt (l := L) (i := i) (by omega)
    have hm : a * w ≤ (a + 1) * w := Nat.mul_le_mul_right w (by omega)
    have e1 : w64 (t.At * (w : Int)) = ((a * w : Nat) : Int) := by rw [ha, ← Int.natCast_mul, w64_id (by omega) (by omega)]
    have hale : a ≤ a * w := Nat.le_mul_of_pos_right a (by omega)
    have e2 : w64 (w64 (t.At + 1) * (w : Int)) = (((a + 1) * w : Nat) : Int) := by
      rw [ha, w64_id (n := (a : Int) + 1) (by omega) (by omega), show (a : Int) + 1 = ((a + 1 : Nat) : Int) by simp, ← Int.natCast_mul, w64_id (by omega) (by omega)]
    have e3 : (a + 1) * w = a * w + w := by rw [Nat.add_mul, Nat.one_mul]
    have next := ti3 F hw w hwb t a ha hab L hL hg k0 b0 hk0 hi0 k N (i + 1) (by omega) (by omega) (by omega)
    rw [law08_SearchTiles_3, bif_pos' (by omega), idx_nat, hb, bnd_eq, e1, e2]
    unfold law08_SearchTiles_4 law08_SearchTiles_5
    rw [up (by omega)]
    by_cases hin : ins w (a * w) b
    · have hik := ins_one hwb.1 hg hb hk0 hin hi0
      subst hik
      have h1 := hin.1
      have h2 := hin.2
      rw [bif_pos' (by omega), bnd_eq, decide_eq_true (by omega), if_neg (by omega), cond_true]
      rw [if_pos (by omega)] at next
      exact next
    · have hne : k0 ≠ i := by
        intro e
        subst e
        rw [hb] at hk0
        cases hk0
        exact hin hi0
      have e4 : (if k0 < i + 1 then (1 : Int) else 0) = if k0 < i then 1 else 0 := by
        by_cases h : k0 < i
        · rw [if_pos h, if_pos (by omega)]
        · rw [if_neg h, if_neg (by omega)]
      rw [e4] at next
      by_cases h1 : b.From ≤ ((a * w : Nat) : Int)
      · have h2 : ¬ (((a + 1) * w : Nat) : Int) ≤ b.To := fun h2 => hin ⟨h1, by rw [← e3]; exact h2⟩
        rw [bif_pos' h1, bnd_eq, decide_eq_false h2, cond_false]
        exact next
      · rw [bif_neg' h1, cond_false]
        exact next
theorem law_eq (F : Nat) (x : List Int) (n : Int) (hl : x.length ≤ 9223372036854775807) (hF : x.length + 2200 < F) (hw : works F = some true) : law08_SearchTiles F x n = some true := by
  obtain ⟨k, _, hk⟩ := Transform_ex x
  unfold law08_SearchTiles
  rw [Tiles_eq F x hl (by omega) hk, bnd_eq]
  unfold law08_SearchTiles_1
  cases hs : sig x with
  | false => simp only [cond_false, hw]; rfl
  | true =>
    obtain ⟨hk1, hk2, hk3⟩ := hk hs
    have hpow : (2 : Nat) ^ k ≤ 2 ^ 10 := Nat.pow_le_pow_right (by omega) (by omega)
    have htl := tl_len k 1 x hk2
    simp only [cond_true, beq_self_eq_true, Bool.not_true, cond_false]
    by_cases h0 : (tl k 1 x).length = 0
    · rw [h0, hw]
      rfl
    · have e0 : (((tl k 1 x).length : Int) == 0) = false := by rw [beq_eq_false_iff_ne]; omega
      have hm1 := Int.emod_nonneg n (show ((tl k 1 x).length : Int) ≠ 0 by omega)
      have hm2 := Int.emod_lt_of_pos n (show 0 < ((tl k 1 x).length : Int) by omega)
      obtain ⟨q, hq⟩ : ∃ q : Nat, n % ((tl k 1 x).length : Int) = q := ⟨(n % ((tl k 1 x).length : Int)).toNat, by omega⟩
      obtain ⟨t, ht⟩ := get_lt (l := tl k 1 x) (i := q) (by omega)
      obtain ⟨j, a, j1, j2, j3, j4, j5⟩ := tile_pow k 1 x hk2 t (List.mem_of_getElem? ht)
      have hw1 : (2 : Nat) ^ (j + 1) ≤ 2 ^ 10 := Nat.pow_le_pow_right (by omega) (by omega)
      have hw2 : 2 ^ 1 ≤ (2 : Nat) ^ (j + 1) := Nat.pow_le_pow_right (by omega) (by omega)
      have esh : ∀ {β : Type} (f : Nat → Option β), bnd (shn t.Level) f = f (j + 1) := by
        intro β f
        have : t.Level = ((j + 1 : Nat) : Int) := by rw [j2]; simp; omega
        rw [this]
        rfl
      have emin : min (j + 1) (IntKind.bits .i64) = j + 1 := by show min (j + 1) 64 = j + 1; omega
      have epw : w64 (1 * 2 ^ (j + 1)) = ((2 ^ (j + 1) : Nat) : Int) := by
        have : (1 : Int) * 2 ^ (j + 1) = ((2 ^ (j + 1) : Nat) : Int) := by simp
        rw [this, w64_id (by omega) (by omega)]
      rw [e0, cond_false, Mod_eq F n _ (by omega) (by omega), bnd_eq, hq, idx_nat, ht, bnd_eq, In_eq, bnd_eq, inR_iff.2 (by omega), Bool.not_true, cond_false, esh, emin, epw]
      generalize hW : (2 : Nat) ^ (j + 1) = W at *
      have eaw : (a + 1) * W = a * W + W := by rw [Nat.add_mul, Nat.one_mul]
      have hE := sq_any hk3 (a * W) W
      rw [← eaw] at hE
      generalize hEE : sq x ((a + 1) * W) - sq x (a * W) = E at *
      have hD0 : 0 ≤ t.D * t.D := by
        by_cases hc : 0 ≤ t.D
        · exact Int.mul_nonneg hc hc
        · have := Int.mul_nonneg (show 0 ≤ -t.D by omega) (show 0 ≤ -t.D by omega)
          rwa [Int.neg_mul_neg] at this
      have hE2 : E ≤ 1125899906842624 := by omega
      have hWE : (W : Int) * E ≤ 1024 * 1125899906842624 := Int.mul_le_mul (by omega) hE2 (by omega) (by omega)
      rw [w64_id (n := t.D * t.D) (by omega) (by omega), w64_id (n := t.D * t.D + (W : Int)) (by omega) (by omega), w64_id (n := t.D * t.D + (W : Int) - 1) (by omega) (by omega), nz_ok (by omega), bnd_eq, Int.tdiv_eq_ediv_of_nonneg (by omega)]
      have hd0 : 0 ≤ (t.D * t.D + (W : Int) - 1) / (W : Int) := Int.ediv_nonneg (by omega) (by omega)
      have hd1 : (t.D * t.D + (W : Int) - 1) / (W : Int) ≤ E := by
        have h1 : (t.D * t.D + (W : Int) - 1) / (W : Int) < E + 1 := by
          apply Int.ediv_lt_of_lt_mul (by omega)
          rw [Int.add_mul, Int.one_mul, Int.mul_comm E]
          omega
        omega
      rw [w64_id (n := (t.D * t.D + (W : Int) - 1) / (W : Int)) (by omega) (by omega)]
      generalize hT : (t.D * t.D + (W : Int) - 1) / (W : Int) = thr at *
      by_cases hz : thr = 0
      · subst hz
        simp only [beq_self_eq_true, cond_true, hw, bnd_eq]
      · have ez : (thr == 0) = false := by rw [beq_eq_false_iff_ne]; exact hz
        rw [ez, cond_false, Bursts_eq F x W thr (by omega) hl, bnd_eq]
        cases hr : isRec x with
        | false =>
          rw [errB_not hr]
          unfold law08_SearchTiles_2
          simp only [show ((82 : Int) == 0) = false from rfl, beq_self_eq_true, Bool.not_false, cond_true, hw, bnd_eq]
        | true =>
          rw [errB_at hr (by omega) (by omega)]
          simp only [beq_self_eq_true, Bool.not_true, cond_false, cond_true, Int.toNat_natCast]
          obtain ⟨hxl, hxs⟩ := isRec_ok hr
          have ho := ho_all x W (by omega) thr
          have hu : thr ≤ pw x W (a * W) := by
            unfold pw
            rw [← eaw, hEE]
            exact hd1
          obtain ⟨b0, hb0, hin⟩ := ho.some1 (a * W) (by omega) hu
          obtain ⟨k0, hk0⟩ := List.getElem?_of_mem hb0
          have hlen : (burF x W thr).length ≤ 2000 := by
            have := brs_len x W thr (x.length + 1 - W) 0 []
            unfold burF
            simp at this
            omega
          have := ti3 F hw W (by omega) t a j3 (by omega) (burF x W thr) hlen ho.gap k0 b0 hk0 hin (burF x W thr).length F 0 rfl (by omega) (by omega)
          rw [if_neg (by omega)] at this
          exact this
end Go.Ev.SearchTiles
