/- SearchGrows. -/
import Derived.Test.YtgaofnakcccbkaaSearchGrowsMath13
namespace Go.Ev.SearchGrows
open Go Go.Ev Go.Proofs
set_option linter.unusedVariables false
theorem grow12 (F : Nat) (hw : works F = some true) : law08_SearchGrows_12 F true = some true := by
  unfold law08_SearchGrows_12 law08_SearchGrows_13
  rw [cond_true, hw, bnd_eq]
theorem grow9 (F : Nat) (hw : works F = some true) (x : List S_api_Candidate) (l m : List S_api_Pair) (hl : l.length ≤ 65536) (hm : m.length ≤ 65536) : ∀ (k N i j : Nat), k = m.length - i → i ≤ m.length → k < N → j ≤ l.length → (l.drop j).Sublist (m.drop i) →
    law08_SearchGrows_9 F N (x.length : Int) j i x l m = some true
  | k, 0, i, j, _, _, h, _, _ => by omega
  | 0, N + 1, i, j, hk, hi, _, hj, hs => by
    rw [List.drop_of_length_le (show m.length ≤ i by omega)] at hs
    have := sub_nil hj hs
    subst this
    rw [law08_SearchGrows_9, bif_neg' (by omega)]
    unfold law08_SearchGrows_10
    simp only [cond_false, beq_self_eq_true, cond_true]
    exact grow12 F hw
  | k + 1, N + 1, i, j, hk, hi, hN, hj, hs => by
    rw [law08_SearchGrows_9, bif_pos' (by omega)]
    unfold law08_SearchGrows_10
    by_cases h : j < l.length
    · obtain ⟨p, hp⟩ := get_lt (l := l) (i := j) h
      obtain ⟨q, hq⟩ := get_lt (l := m) (i := i) (by omega)
      rw [drop_get hp, drop_get hq] at hs
      obtain ⟨s1, s2⟩ := sub_step hs
      rw [bif_pos' (by omega), idx_nat, hq, bnd_eq, idx_nat, hp, bnd_eq]
      unfold law08_SearchGrows_11
      rw [up (by omega), up (by omega)]
      by_cases e : q = p
      · rw [eqP_iff.2 e, cond_true]
        exact grow9 F hw x l m hl hm k N (i + 1) (j + 1) (by omega) (by omega) (by omega) (by omega) (s1 e.symm)
      · have e2 : ((q.A == p.A) && ((q.B == p.B) && ((q.Loud == p.Loud) && true))) = false := Bool.eq_false_iff.2 fun h => e (eqP_iff.1 h)
        rw [e2, cond_false]
        refine grow9 F hw x l m hl hm k N (i + 1) j (by omega) (by omega) (by omega) hj ?_
        rw [drop_get hp]
        exact s2 fun h => e h.symm
    · have : j = l.length := by omega
      subst this
      rw [bif_neg' (by omega)]
      simp only [beq_self_eq_true, cond_true]
      exact grow12 F hw
theorem grow6 (F : Nat) (x al : List S_api_Candidate) (l m : List S_api_Pair) (f : S_api_Pair → S_api_Chance) (hal : al = l.map fun p => ⟨p, f p⟩) (hl : l.length ≤ 65536) (h9 : law08_SearchGrows_9 F F (x.length : Int) (0 : Int) (0 : Int) x l m = some true) : ∀ (k N i j : Nat), k = al.length - i → i ≤ al.length → k < N → j ≤ x.length → x.length ≤ 65536 → (x.drop j).Sublist (al.drop i) →
    law08_SearchGrows_6 F N j (0 : Int) i x al l m = some true
  | k, 0, i, j, _, _, h, _, _, _ => by omega
  | 0, N + 1, i, j, hk, hi, _, hj, _, hs => by
    rw [List.drop_of_length_le (show al.length ≤ i by omega)] at hs
    have := sub_nil hj hs
    subst this
    rw [law08_SearchGrows_6, bif_neg' (by omega)]
    exact h9
  | k + 1, N + 1, i, j, hk, hi, hN, hj, hxl, hs => by
    have hall : al.length = l.length := by rw [hal, List.length_map]
    obtain ⟨p, hp⟩ := get_lt (l := l) (i := i) (by omega)
    have hz : al[i]? = some ⟨p, f p⟩ := by rw [hal, List.getElem?_map, hp]; rfl
    rw [law08_SearchGrows_6, bif_pos' (by omega), idx_nat, hz, bnd_eq, idx_nat, hp, bnd_eq, eqP_iff.2 rfl, Bool.not_true, cond_false]
    unfold law08_SearchGrows_7 law08_SearchGrows_8
    by_cases h : j < x.length
    · obtain ⟨y, hy⟩ := get_lt (l := x) (i := j) h
      rw [drop_get hy, drop_get hz] at hs
      obtain ⟨s1, s2⟩ := sub_step hs
      rw [bif_pos' (by omega), idx_nat, hy, bnd_eq, bnd_eq, up (by omega), up (by omega)]
      by_cases e : y = ⟨p, f p⟩
      · rw [eqC_iff.2 e, cond_true]
        exact grow6 F x al l m f hal hl h9 k N (i + 1) (j + 1) (by omega) (by omega) (by omega) (by omega) hxl (s1 e)
      · have e2 := Bool.eq_false_iff.2 fun h => e (eqC_iff.1 h)
        rw [e2, cond_false]
        refine grow6 F x al l m f hal hl h9 k N (i + 1) j (by omega) (by omega) (by omega) hj hxl ?_
        rw [drop_get hy]
        exact s2 e
    · rw [bif_neg' (by omega), cond_false, up (by omega)]
      refine grow6 F x al l m f hal hl h9 k N (i + 1) j (by omega) (by omega) (by omega) hj hxl ?_
      rw [List.drop_of_length_le (show x.length ≤ j by omega)]
      exact List.nil_sublist _
theorem okC_T {T w w' s : Int} (h : okC ⟨T, w, s⟩ = true) (h1 : 0 ≤ w') (h2 : w' ≤ T - 1) : okC ⟨T, w', T⟩ = true := by
  obtain ⟨t1, t2, _⟩ := okC_live h
  have t1' : 1 ≤ T := t1
  have t2' : T ≤ 1073741824 := t2
  unfold okC
  show ((inR 1 T 1073741824 && (inR 0 w' (T - 1) && inR 1 T T)) && ((Int.tmod T T == 0) && decide (Int.tdiv T T ≤ 256))) = true
  rw [inR_iff.2 ⟨t1', t2'⟩, inR_iff.2 ⟨h1, h2⟩, inR_iff.2 ⟨t1', by omega⟩, Int.tmod_self, Int.tdiv_self (by omega)]
  rfl
theorem isOne_wide {T w s w' s' : Int} (h : w ≤ w') (x y : S_api_Trigger) : isOne ⟨T, w, s⟩ x y = true → isOne ⟨T, w', s'⟩ x y = true := by
  intro e
  unfold isOne at e ⊢
  rw [Bool.and_eq_true] at e ⊢
  have := of_decide_eq_true e.2
  exact ⟨e.1, decide_eq_true (Int.le_trans this h)⟩
theorem law_eq (F : Nat) (a b : List S_api_Trigger) (c : S_ringdownlaw08_Clock) (ha : a.length ≤ 9223372036854775807) (hb : b.length ≤ 9223372036854775807) (hFa : a.length + 70000 < F) (hFb : b.length + 70000 < F) (hw : works F = some true) : law08_SearchGrows F a b c = some true := by
  unfold law08_SearchGrows
  rw [Cand_eq F a b _ _ _ _ (by omega) ha hb (by omega) (by omega), bnd_eq]
  by_cases e0 : (candR ⟨c.Live, c.Window, c.Step⟩ a b c.Limit).2 = 0
  · have hok : chkE ⟨c.Live, c.Window, c.Step⟩ [a, b] = 0 ∧ inR 0 c.Limit (cntS ⟨c.Live, c.Window, c.Step⟩) = true := by
      unfold candR at e0
      cases e : (chkE ⟨c.Live, c.Window, c.Step⟩ [a, b] == 0) with
      | false =>
        rw [e, cond_false] at e0
        have e0' : chkE ⟨c.Live, c.Window, c.Step⟩ [a, b] = 0 := e0
        rw [e0'] at e
        exact absurd e (by decide)
      | true =>
        rw [e, cond_true] at e0
        cases e2 : inR 0 c.Limit (cntS ⟨c.Live, c.Window, c.Step⟩) with
        | false => rw [e2] at e0; exact absurd (show (8 : Int) = 0 from e0) (by decide)
        | true => exact ⟨eq_of_beq e, rfl⟩
    obtain ⟨hck, hlim⟩ := hok
    obtain ⟨h1, h2, h3⟩ := chkE_0.1 hck
    obtain ⟨t1, t2, t3, t4, t5, t6⟩ := okC_live h2
    obtain ⟨n0, n256, n1, _⟩ := cntS_ok h2
    have t1' : 1 ≤ c.Live := t1
    have t2' : c.Live ≤ 1073741824 := t2
    have t3' : 0 ≤ c.Window := t3
    have t4' : c.Window ≤ c.Live - 1 := t4
    have t5' : 1 ≤ c.Step := t5
    have n0' : Int.tdiv c.Live c.Step = (cntS ⟨c.Live, c.Window, c.Step⟩ : Int) := n0
    simp only [List.all_cons, List.all_nil, Bool.and_true, Bool.and_eq_true] at h1 h3
    have hla := okT_len h1.1
    have hlb := okT_len h1.2
    have hl := stF_len ⟨c.Live, c.Window, c.Step⟩ a b (cntS ⟨c.Live, c.Window, c.Step⟩) 0
    have hr1 : candR ⟨c.Live, c.Window, c.Step⟩ a b c.Limit = (candF c.Limit (stF ⟨c.Live, c.Window, c.Step⟩ a b (cntS ⟨c.Live, c.Window, c.Step⟩) 0) (prs ⟨c.Live, c.Window, c.Step⟩ b 0 a), 0) := by
      unfold candR
      rw [hck, hlim]
      rfl
    have hr2 : candR ⟨c.Live, c.Window, c.Step⟩ a b (cntS ⟨c.Live, c.Window, c.Step⟩) = ((prs ⟨c.Live, c.Window, c.Step⟩ b 0 a).map fun p => ⟨p, chF (stF ⟨c.Live, c.Window, c.Step⟩ a b (cntS ⟨c.Live, c.Window, c.Step⟩) 0) p.Loud⟩, 0) := by
      unfold candR
      rw [hck, inR_iff.2 ⟨by omega, by omega⟩, candF_all hl n1]
      rfl
    have hc1 : chkE ⟨c.Live, c.Window, c.Live⟩ [a, b] = 0 := chkE_0.2 ⟨by simp [h1.1, h1.2], okC_T h2 t3' t4', by simp [h3.1, h3.2]⟩
    have hc2 : chkE ⟨c.Live, c.Live - 1, c.Live⟩ [a, b] = 0 := chkE_0.2 ⟨by simp [h1.1, h1.2], okC_T h2 (by omega) (by omega), by simp [h3.1, h3.2]⟩
    have hp1 : prs ⟨c.Live, c.Window, c.Live⟩ b 0 a = prs ⟨c.Live, c.Window, c.Step⟩ b 0 a := prs_same (c := ⟨c.Live, c.Window, c.Live⟩) (d := ⟨c.Live, c.Window, c.Step⟩) (fun _ _ => rfl) b a 0
    have hp2 : (prs ⟨c.Live, c.Window, c.Step⟩ b 0 a).Sublist (prs ⟨c.Live, c.Live - 1, c.Live⟩ b 0 a) := prs_sub (isOne_wide t4') b a 0
    have hn1 := prs_len2 (c := ⟨c.Live, c.Window, c.Step⟩) hla hlb
    have hn2 := prs_len2 (c := ⟨c.Live, c.Live - 1, c.Live⟩) hla hlb
    have hn3 := hp2.length_le
    have hn4 := candF_len c.Limit (stF ⟨c.Live, c.Window, c.Step⟩ a b (cntS ⟨c.Live, c.Window, c.Step⟩) 0) (prs ⟨c.Live, c.Window, c.Step⟩ b 0 a)
    rw [hr1, n0', w64_id (n := ((cntS ⟨c.Live, c.Window, c.Step⟩ : Nat) : Int)) (by omega) (by omega), w64_id (n := c.Live - 1) (by omega) (by omega)]
    simp only [beq_self_eq_true, Bool.not_true, cond_false]
    rw [nz_ok (by omega), bnd_eq, Cand_eq F a b _ _ _ _ (by omega) ha hb (by omega) (by omega), bnd_eq, hr2, Coincide_eq F a b _ _ (by omega) ha hb (by omega) (by omega), bnd_eq, Coincide_eq F a b _ _ (by omega) ha hb (by omega) (by omega), bnd_eq, hc1, hc2, hp1]
    simp only [beq_self_eq_true, Bool.not_true, cond_false, cond_true, law08_SearchGrows_2, law08_SearchGrows_3, law08_SearchGrows_4, law08_SearchGrows_5, List.length_map]
    rw [bif_neg' (by omega)]
    refine grow6 F _ _ _ _ (fun p => chF (stF ⟨c.Live, c.Window, c.Step⟩ a b (cntS ⟨c.Live, c.Window, c.Step⟩) 0) p.Loud) rfl hn1 ?_ _ F 0 0 rfl (Nat.zero_le _) (by rw [List.length_map]; omega) (Nat.zero_le _) (by omega) (candF_sub _ _ _)
    exact grow9 F hw _ _ _ hn1 hn2 _ F 0 0 rfl (Nat.zero_le _) (by omega) (Nat.zero_le _) hp2
  · have e1 : ((candR ⟨c.Live, c.Window, c.Step⟩ a b c.Limit).2 == 0) = false := beq_eq_false_iff_ne.2 e0
    have e2 : (candR ⟨c.Live, c.Window, c.Step⟩ a b c.Limit).1 = [] := by
      unfold candR at e0 ⊢
      cases e : (chkE ⟨c.Live, c.Window, c.Step⟩ [a, b] == 0) with
      | false => rfl
      | true =>
        rw [e, cond_true] at e0
        cases e2 : inR 0 c.Limit (cntS ⟨c.Live, c.Window, c.Step⟩) with
        | false => rfl
        | true => rw [e2] at e0; exact absurd rfl e0
    rw [e1, e2]
    simp only [Bool.not_false, cond_true, List.length_nil, Int.natCast_zero, beq_self_eq_true, hw, bnd_eq, law08_SearchGrows_1]
end Go.Ev.SearchGrows
