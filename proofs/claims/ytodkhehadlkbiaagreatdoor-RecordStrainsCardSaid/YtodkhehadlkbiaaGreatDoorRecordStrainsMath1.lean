/- RecordStrains: the bands agree. -/
import Derived.Test.YtodkhehadlkbiaaGreatDoorRecordStrainsMath0
namespace Go.Ev.RecordStrains
open Go Go.Ev Go.Proofs
set_option linter.unusedVariables false

theorem sub0 {α : Type} (l : List α) (b : Nat) (h0 : 0 < b) (h1 : b ≤ l.length) : sub l 0 (b : Int) = some (l.take b) := by
  show sub l (Int.ofNat 0) (Int.ofNat b) = _
  simp [sub, h0, h1]

theorem bandOf_eq (F : Nat) (m : S_api_Model) (x : List Int) (t : Nat) (hs0 : 0 ≤ m.Shift) (hs1 : m.Shift ≤ 20) (ht : t < x.length) (hx : x.length ≤ 4096) (hm : m.Taps.length ≤ 16) (hm1 : 1 ≤ m.Taps.length) (hF : m.Taps.length < F) :
    record_bandOf F m (x.take (t + 1)) = some (bandAt m x t) := by
  unfold record_bandOf bandAt
  have hl : (x.take (t + 1)).length = t + 1 := by rw [List.length_take]; omega
  have e : (min (m.Taps.length : Int) ((x.take (t + 1)).length : Int)) = ((min m.Taps.length (t + 1) : Nat) : Int) := by rw [hl]; omega
  rw [e, sub0 _ _ (by omega) (by omega), bnd_eq]
  have hll : (m.Taps.take (min m.Taps.length (t + 1))).length = min m.Taps.length (t + 1) := by rw [List.length_take]; omega
  exact bandOf_go F m x _ t 0 0 hs0 hs1 ht rfl hx hm _ F 0 0 0 _ rfl rfl (by omega) (by omega)

theorem strain1 (F : Nat) (m : S_api_Model) (x : List Int) (hs0 : 0 ≤ m.Shift) (hs1 : m.Shift ≤ 20) (hx : x.length ≤ 4096) (hm : m.Taps.length ≤ 16) (hm1 : 1 ≤ m.Taps.length) (hF : m.Taps.length < F) :
    ∀ (k N t : Nat) (l : List S_api_Tap), k = x.length - t → t ≤ x.length → k < N → l.length = x.length → l.take t = (List.range t).map (bandAt m x) →
      record_Strain_1 F N x l x.length t m.Taps m.Shift = some ((List.range x.length).map (bandAt m x), 0)
  | k, 0, t, l, _, _, h, _, _ => by omega
  | k, N + 1, t, l, hk, ht, hN, hl, hp => by
    rw [record_Strain_1]
    by_cases hlt : t < x.length
    · rw [bif_pos' (by omega : ((t : Int) < x.length))]
      have hblt : Nat.blt t x.length = true := Nat.ble_eq_true_of_le hlt
      have e : w64 ((t : Int) + 1) = ((t + 1 : Nat) : Int) := by rw [w64_id (by omega) (by omega)]; simp
      rw [e, sub0 _ _ (by omega) (by omega), bnd_eq]
      have hb := bandOf_eq F m x t hs0 hs1 hlt hx hm hm1 hF
      rw [show (S_api_Model.mk m.Taps m.Shift) = m from rfl, hb, bnd_eq]
      have hi : inn l (t : Int) = some t := by
        show inn l (Int.ofNat t) = _
        simp [inn, hl, hblt]
      have hu : upd l (t : Int) (bandAt m x t) = some (l.set t (bandAt m x t)) := by
        show upd l (Int.ofNat t) _ = _
        simp [upd, hl, hblt]
      rw [hi, bnd_eq, hu, bnd_eq]
      exact strain1 F m x hs0 hs1 hx hm hm1 hF (x.length - (t + 1)) N (t + 1) _ rfl (by omega) (by omega) (by simpa using hl) (by
        rw [List.take_succ_eq_append_getElem (by simpa [hl] using hlt)]
        rw [List.take_set, List.getElem_set_self, List.range_succ, List.map_append, ← hp]
        rw [List.set_eq_of_length_le (by rw [List.length_take]; omega)]
        rfl)
    · have : t = x.length := by omega
      rw [bif_neg' (by omega : ¬ ((t : Int) < x.length))]
      subst this
      rw [← hp, List.take_of_length_le (by omega)]

theorem strain_eq (F : Nat) (m : S_api_Model) (x : List Int) (hm2 : m.Taps.length ≤ 9223372036854775807) (hx2 : x.length ≤ 9223372036854775807) (hF : m.Taps.length < F) (hF2 : x.length < F) :
    record_Strain F m x = some (bif okM m then bif okS x then ((List.range x.length).map (bandAt m x), 0) else ([], 55) else ([], 53)) := by
  unfold record_Strain
  rw [checkModel_eq F m hm2 hF, bnd_eq]
  rcases btf (okM m) with h1 | h1
  · rw [h1]
    simp only [cond_true]
    rw [checkSeries_eq F x hx2 hF2]
    rcases btf (okS x) with h2 | h2
    · rw [h2]
      have hx : x.length ≤ 4096 := by
        unfold okS at h2; rw [Bool.and_eq_true] at h2; simpa using h2.1
      have hm : (1 ≤ m.Taps.length ∧ m.Taps.length ≤ 16) ∧ 0 ≤ m.Shift ∧ m.Shift ≤ 20 := by
        unfold okM at h1
        simp only [Bool.and_eq_true, decide_eq_true_eq] at h1
        omega
      simp only [cond_true, bnd_eq]
      have hmk : mk (x.length : Int) 16 (S_api_Tap.mk 0 0) = some (List.replicate x.length (S_api_Tap.mk 0 0)) := by
        show mk (Int.ofNat x.length) 16 _ = _
        have a1 : Nat.ble x.length 1073741824 = true := Nat.ble_eq_true_of_le (by omega)
        have a2 : Nat.ble (x.length * 16) 281474976710656 = true := Nat.ble_eq_true_of_le (by omega)
        simp only [mk, a1, a2, Bool.and_self, cond_true]
      rw [hmk]
      show record_Strain_1 F F x _ x.length ((0 : Nat) : Int) m.Taps m.Shift = _
      exact strain1 F m x hm.2.1 hm.2.2 hx hm.1.2 hm.1.1 hF _ F 0 _ rfl (by omega) (by omega) (by simp) (by simp)
    · rw [h2]; rfl
  · rw [h1]; rfl

theorem rstrain2 (F : Nat) (hd : List Int → List S_api_Tap → Int → List S_api_Tap → Int → Option (List S_api_Tap × Int)) (m : S_api_Model) (x : List Int) (t : Nat) (l : List S_api_Tap) (hs0 : 0 ≤ m.Shift) (hs1 : m.Shift ≤ 20) (ht : t < x.length) (hx : x.length ≤ 4096) (hm : m.Taps.length ≤ 16) (hl : l.length < 4096) :
    ∀ (k N i : Nat) (lo hi : Int), k = m.Taps.length - i → i ≤ m.Taps.length → k < N → -9223372036854775808 ≤ lo → lo ≤ 9223372036854775807 →
      ref05_Strain_2 F hd N x l t lo hi i m.Taps m.Shift = hd x (l ++ [S_api_Tap.mk ((lows x t (m.Taps.drop i) i lo hi).1.fdiv (2 ^ m.Shift.toNat)) (w64 (-((w64 (-(lows x t (m.Taps.drop i) i lo hi).2)).fdiv (2 ^ m.Shift.toNat))))]) ((t + 1 : Nat) : Int) m.Taps m.Shift
  | k, 0, i, lo, hi, _, _, h, _, _ => by omega
  | k, N + 1, i, lo, hi, hk, hi', hN, hlo1, hlo2 => by
    have hend : ∀ hd2, lows x t (m.Taps.drop i) i lo hi = (lo, hi) → ref05_Strain_3 F hd hd2 x l t lo hi i false m.Taps m.Shift = hd x (l ++ [S_api_Tap.mk ((lows x t (m.Taps.drop i) i lo hi).1.fdiv (2 ^ m.Shift.toNat)) (w64 (-((w64 (-(lows x t (m.Taps.drop i) i lo hi).2)).fdiv (2 ^ m.Shift.toNat))))]) ((t + 1 : Nat) : Int) m.Taps m.Shift := by
      intro hd2 hlow
      unfold ref05_Strain_3
      simp only [cond_false]
      rw [shn_nat hs0, bnd_eq, bnd_eq, pow_w64 (by omega), down_eq F lo _ hlo1 hlo2, bnd_eq, up_eq, bnd_eq, hlow]
      have a1 : Nat.ble (l.length + 1) 1073741824 = true := Nat.ble_eq_true_of_le (by omega)
      have a2 : Nat.ble (2 * (l.length + 1) * 16) 281474976710656 = true := Nat.ble_eq_true_of_le (by omega)
      have e : w64 ((t : Int) + 1) = ((t + 1 : Nat) : Int) := by rw [w64_id (by omega) (by omega)]; simp
      simp only [apd, List.length_cons, List.length_nil, Nat.zero_add, a1, a2, Bool.and_self, cond_true, bnd_eq, e]
    rw [ref05_Strain_2]
    by_cases hlt : i < m.Taps.length
    · rw [bif_pos' (by omega : ((i : Int) < m.Taps.length))]
      by_cases hit : i ≤ t
      · have hde : decide ((i : Int) ≤ (t : Int)) = true := by simp; omega
        rw [hde]
        unfold ref05_Strain_3
        simp only [cond_true]
        have e0 : w64 ((t : Int) - i) = ((t - i : Nat) : Int) := by
          rw [w64_id (by omega) (by omega)]; omega
        have hg2 : x[t - i]? = some (x.getD (t - i) 0) := by
          rw [List.getElem?_eq_getElem (by omega), List.getD_eq_getElem?_getD, List.getElem?_eq_getElem (by omega)]
          rfl
        have e : w64 ((i : Int) + 1) = ((i + 1 : Nat) : Int) := by rw [w64_id (by omega) (by omega)]; simp
        rw [idx_nat, List.getElem?_eq_getElem hlt, bnd_eq, e0, idx_nat, hg2, bnd_eq, bnd_eq, bnd_eq, e]
        rw [rstrain2 F hd m x t l hs0 hs1 ht hx hm hl (m.Taps.length - (i + 1)) N (i + 1) _ _ rfl (by omega) (by omega) (w64_lo _) (w64_hi _)]
        rw [drop_get hlt]
        conv => rhs; rw [lows]
        rw [bif_pos' hit]
      · have hde : decide ((i : Int) ≤ (t : Int)) = false := by simp; omega
        rw [hde]
        exact hend _ (by rw [drop_get hlt, lows, bif_neg' hit])
    · rw [bif_neg' (by omega : ¬ ((i : Int) < m.Taps.length))]
      exact hend _ (by rw [List.drop_of_length_le (by omega)]; rfl)

theorem rstrain1 (F : Nat) (m : S_api_Model) (x : List Int) (hs0 : 0 ≤ m.Shift) (hs1 : m.Shift ≤ 20) (hx : x.length ≤ 4096) (hm : m.Taps.length ≤ 16) (hF : m.Taps.length < F) :
    ∀ (k N t : Nat), k = x.length - t → t ≤ x.length → k < N →
      ref05_Strain_1 F N x ((List.range t).map (bandAt m x)) t m.Taps m.Shift = some ((List.range x.length).map (bandAt m x), 0)
  | k, 0, t, _, _, h => by omega
  | k, N + 1, t, hk, ht, hN => by
    rw [ref05_Strain_1]
    by_cases hlt : t < x.length
    · rw [bif_pos' (by omega : ((t : Int) < x.length))]
      have := rstrain2 F (ref05_Strain_1 F N) m x t ((List.range t).map (bandAt m x)) hs0 hs1 hlt hx hm (by simp; omega) m.Taps.length F 0 0 0 (by omega) (by omega) hF (by omega) (by omega)
      simp only [List.drop_zero] at this
      refine Eq.trans this ?_
      have e : ((List.range t).map (bandAt m x)) ++ [S_api_Tap.mk ((lows x t m.Taps 0 0 0).1.fdiv (2 ^ m.Shift.toNat)) (w64 (-((w64 (-(lows x t m.Taps 0 0 0).2)).fdiv (2 ^ m.Shift.toNat))))] = (List.range (t + 1)).map (bandAt m x) := by
        rw [List.range_succ, List.map_append]; rfl
      rw [e]
      exact rstrain1 F m x hs0 hs1 hx hm hF (x.length - (t + 1)) N (t + 1) rfl (by omega) (by omega)
    · have : t = x.length := by omega
      rw [bif_neg' (by omega : ¬ ((t : Int) < x.length)), this]

theorem rstrain_eq (F : Nat) (m : S_api_Model) (x : List Int) (hm2 : m.Taps.length ≤ 9223372036854775807) (hx2 : x.length ≤ 9223372036854775807) (hF : m.Taps.length < F) (hF2 : x.length < F) :
    ref05_Strain F m x = some (bif okM m then bif okS x then ((List.range x.length).map (bandAt m x), 0) else ([], 55) else ([], 53)) := by
  unfold ref05_Strain
  rw [rcheckModel_eq F m hm2 hF, bnd_eq]
  rcases btf (okM m) with h1 | h1
  · rw [h1]
    simp only [cond_true]
    rw [rcheckSeries_eq F x hx2 hF2]
    rcases btf (okS x) with h2 | h2
    · rw [h2]
      have hx : x.length ≤ 4096 := by
        unfold okS at h2; rw [Bool.and_eq_true] at h2; simpa using h2.1
      have hm : (1 ≤ m.Taps.length ∧ m.Taps.length ≤ 16) ∧ 0 ≤ m.Shift ∧ m.Shift ≤ 20 := by
        unfold okM at h1
        simp only [Bool.and_eq_true, decide_eq_true_eq] at h1
        omega
      simp only [cond_true, bnd_eq]
      exact rstrain1 F m x hm.2.1 hm.2.2 hx hm.1.2 hF x.length F 0 rfl (by omega) hF2
    · rw [h2]; rfl
  · rw [h1]; rfl

theorem same1 (F : Nat) (l : List S_api_Tap) (hl : l.length ≤ 9223372036854775807) : ∀ (k N i : Nat), k = l.length - i → i ≤ l.length → k < N → law05_sameBands_1 F N l l i = some true
  | k, 0, i, _, _, h => by omega
  | k, N + 1, i, hk, hi, hN => by
    rw [law05_sameBands_1]
    by_cases hlt : i < l.length
    · have e : w64 ((i : Int) + 1) = ((i + 1 : Nat) : Int) := by rw [w64_id (by omega) (by omega)]; simp
      rw [bif_pos' (by omega : ((i : Int) < l.length)), idx_nat, List.getElem?_eq_getElem hlt, bnd_eq, bnd_eq, e]
      simp only [beq_self_eq_true, Bool.and_true, Bool.not_true, cond_false]
      exact same1 F l hl _ N (i + 1) rfl (by omega) (by omega)
    · rw [bif_neg' (by omega : ¬ ((i : Int) < l.length))]
theorem same_eq (F : Nat) (l : List S_api_Tap) (hl : l.length ≤ 9223372036854775807) (hF : l.length < F) : law05_sameBands F l l = some true := by
  unfold law05_sameBands
  simp only [beq_self_eq_true, Bool.not_true, cond_false]
  exact same1 F l hl _ F 0 rfl (by omega) (by omega)

theorem law_eq (F : Nat) (m : S_api_Model) (x : List Int) (hm2 : m.Taps.length ≤ 9223372036854775807) (hx2 : x.length ≤ 9223372036854775807) (hF : m.Taps.length < F) (hF2 : x.length < F) (hw : works F = some true) :
    law05_RecordStrains F m x = some true := by
  unfold law05_RecordStrains
  rw [strain_eq F m x hm2 hx2 hF hF2, rstrain_eq F m x hm2 hx2 hF hF2, checkModel_eq F m hm2 hF, rcheckModel_eq F m hm2 hF, checkSeries_eq F x hx2 hF2, rcheckSeries_eq F x hx2 hF2]
  simp only [bnd_eq, beq_self_eq_true, cond_true]
  rw [same_eq F _ (by rcases btf (okM m) with h | h <;> rcases btf (okS x) with h' | h' <;> simp [h, h'] <;> omega) (by rcases btf (okM m) with h | h <;> rcases btf (okS x) with h' | h' <;> simp [h, h'] <;> omega)]
  simp only [bnd_eq, cond_true, hw]
  rfl
end Go.Ev.RecordStrains
