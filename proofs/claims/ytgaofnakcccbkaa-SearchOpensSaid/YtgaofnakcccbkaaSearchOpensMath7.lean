/- SearchOpens. -/
import Derived.Test.YtgaofnakcccbkaaSearchOpensMath6
namespace Go.Ev.SearchOpens
open Go Go.Ev Go.Proofs
set_option linter.unusedVariables false
theorem openR_no {a : S_api_Envelope} {y : List Int} {ws : List S_api_Wave} {key : Int} (h : chkS y ws key = 0) (h2 : sameE a (envE ws key) = false) : openR a y ws key = ([], 84) := by
  unfold openR
  rw [h, h2]
  rfl
theorem chkS_ok {y : List Int} {ws : List S_api_Wave} {key : Int} (h1 : isRec y = true) (h2 : wavesB y.length ws = true) (h3 : inR 0 key 1073741824 = true) : chkS y ws key = 0 := by
  have : chkW y ws = 0 := by
    unfold chkW
    rw [h1, h2]
    rfl
  unfold chkS
  rw [this, h3]
  rfl
theorem bent_ne {key : Int} {pre : List S_api_Wave} {w : S_api_Wave} {g : Int} (hk : 0 ≤ key ∧ key ≤ 1073741824) (hsm : ∀ v ∈ pre ++ [w], wSm v) (hg : -64 ≤ g ∧ g ≤ 64) (hne : w.Gain ≠ g) : sameE (envE (pre ++ [w]) key) (envE (pre ++ [⟨w.At, g, w.Samples⟩]) key) = false := by
  have hc : w64 (key + 1) = key + 1 := w64_id (by omega) (by omega)
  obtain ⟨c1, c2⟩ := envs_in pre (key + 1) (by omega) (by omega) fun v hv => hsm v (List.mem_append_left _ hv)
  have hw := hsm w (List.mem_append_right _ List.mem_cons_self)
  have hn := envW_ne hw c1 c2 hg hne
  unfold sameE envE
  rw [hc]
  simp only [List.foldl_append, List.foldl_cons, List.foldl_nil]
  rw [beq_eq_false_iff_ne.2 hn, Bool.false_and, Bool.and_false]
theorem opens6 (F : Nat) (hF : 1300 < F) (hw : works F = some true) (y : List Int) (ws : List S_api_Wave) (key : Int) (c : S_api_Envelope) (hy : y.length ≤ 9223372036854775807) (hl : ws.length ≤ 64) (hc : c.Many = ws.length) (h : chkS y ws key = 0) : law08_SearchOpens_6 F ws key c y = some true := by
  unfold law08_SearchOpens_6 law08_SearchOpens_7
  have hne : sameE ⟨w64 (c.Many + 1), c.Code⟩ (envE ws key) = false := by
    rw [hc, w64_id (n := (ws.length : Int) + 1) (by omega) (by omega)]
    unfold sameE envE
    rw [show (((ws.length : Int) + 1) == (ws.length : Int)) = false from beq_eq_false_iff_ne.2 (by omega)]
    rfl
  rw [Open_eq F (by omega) _ y ws key hy, bnd_eq, openR_no h hne]
  simp only [beq_self_eq_true, cond_true, hw, bnd_eq]
theorem opens5 (F : Nat) (hF : 1300 < F) (hw : works F = some true) (y : List Int) (pre : List S_api_Wave) (w : S_api_Wave) (g key : Int) (hy : isRec y = true) (hk : inR 0 key 1073741824 = true) (hb : wavesB y.length (pre ++ [w]) = true) (hg : -64 ≤ g ∧ g ≤ 64) (hne : w.Gain ≠ g) :
    law08_SearchOpens_5 F (pre ++ [w]) key (envE (pre ++ [w]) key) w.At g w.Samples y (pre ++ [w]) = some true := by
  have hyl := (isRec_ok hy).1
  have hk' := inR_iff.1 hk
  have hsm := wavesB_sm (n := (y.length : Int)) (by omega) hb
  obtain ⟨hl, hall⟩ := wavesB_ok hb
  have hll : (pre ++ [w]).length = pre.length + 1 := by simp
  have hwo := (hall w (List.mem_append_right _ List.mem_cons_self)).1
  have hwo' : wOk ⟨w.At, g, w.Samples⟩ = true := by
    rw [wOk, Bool.and_eq_true] at hwo ⊢
    exact ⟨inR_iff.2 hg, hwo.2⟩
  have hb' : wavesB y.length (pre ++ [⟨w.At, g, w.Samples⟩]) = true := by
    rw [wavesB, Bool.and_eq_true] at hb ⊢
    refine ⟨?_, wvs_bent (w := w) (w' := ⟨w.At, g, w.Samples⟩) rfl rfl hwo' pre (-1) hb.2⟩
    have := of_decide_eq_true hb.1
    exact decide_eq_true (by simp at this ⊢; omega)
  have e : w64 (((pre ++ [w]).length : Int) - 1) = ((pre.length : Nat) : Int) := by
    rw [w64_id (by omega) (by omega)]
    omega
  have hset : (pre ++ [w]).set pre.length ⟨w.At, g, w.Samples⟩ = pre ++ [⟨w.At, g, w.Samples⟩] := by
    rw [List.set_append_right _ _ (Nat.le_refl _), Nat.sub_self]
    rfl
  unfold law08_SearchOpens_5
  rw [e, inn_at (by omega), bnd_eq, upd_at (by omega), bnd_eq, hset, Open_eq F (by omega) _ y _ key (by omega), bnd_eq, openR_no (chkS_ok hy hb' hk) (bent_ne hk' hsm hg hne)]
  simp only [beq_self_eq_true, Bool.not_true, cond_false]
  exact opens6 F hF hw y _ key _ (by omega) hl rfl (chkS_ok hy hb hk)
theorem law_eq (F : Nat) (x : List Int) (ws : List S_api_Wave) (key : Int) (hx : x.length ≤ 9223372036854775807) (hws : ws.length ≤ 9223372036854775807) (hFx : x.length + 1300 < F) (hF2 : ws.length + 1300 < F) (hS : ∀ w ∈ ws, w.Samples.length ≤ 9223372036854775807) (hw : works F = some true) : law08_SearchOpens F x ws key = some true := by
  have hF : 1300 < F := by omega
  unfold law08_SearchOpens
  rw [Inject_eq F (by omega) x ws hx, bnd_eq]
  unfold injR recR
  cases e : (chkW x ws == 0) with
  | false =>
    simp only [cond_false, e, Bool.not_false, cond_true, List.length_nil, Int.natCast_zero, beq_self_eq_true, hw, bnd_eq, law08_SearchOpens_1]
  | true =>
    have e' := eq_of_beq e
    obtain ⟨h1, h2⟩ := chkW_0 e'
    have hxl := (isRec_ok h1).1
    obtain ⟨hl, _⟩ := wavesB_ok h2
    cases e2 : isRec (addAll 1 x ws) with
    | false =>
      simp only [cond_false, cond_true, show ((8 : Int) == 0) = false from rfl, Bool.not_false, List.length_nil, Int.natCast_zero, beq_self_eq_true, hw, bnd_eq, law08_SearchOpens_1]
    | true =>
      have hyl : (addAll 1 x ws).length = x.length := addAll_len 1 ws x
      have hyb : wavesB ((addAll 1 x ws).length : Int) ws = true := by rw [hyl]; exact h2
      simp only [cond_true, beq_self_eq_true, Bool.not_true, cond_false]
      rw [Seal_eq F (by omega) x ws key hx, bnd_eq]
      cases e3 : inR 0 key 1073741824 with
      | false =>
        have hs : sealR x ws key = (⟨0, 0⟩, 8) := by
          unfold sealR chkS
          rw [e', e3]
          rfl
        rw [hs]
        simp only [show ((8 : Int) == 0) = false from rfl, Bool.not_false, cond_true, beq_self_eq_true, hw, bnd_eq, law08_SearchOpens_2]
      | true =>
        have hs : sealR x ws key = (envE ws key, 0) := by
          unfold sealR
          rw [chkS_ok h1 h2 e3]
          rfl
        have hk := chkS_ok e2 hyb e3
        have ho : openR (envE ws key) (addAll 1 x ws) ws key = (x, 0) := by
          unfold openR
          have hsame : sameE (envE ws key) (envE ws key) = true := by
            unfold sameE
            simp
          rw [hk, hsame, taken_out e']
          unfold recR
          rw [h1]
          rfl
        rw [hs]
        simp only [beq_self_eq_true, Bool.not_true, cond_false]
        rw [Open_eq F (by omega) _ _ ws key (by omega), bnd_eq, ho]
        simp only [beq_self_eq_true, Bool.not_true, cond_false]
        rw [same_self F x (by omega) (by omega), bnd_eq]
        have hm : ((envE ws key).Many == (ws.length : Int)) = true := beq_self_eq_true _
        simp only [Bool.not_true, law08_SearchOpens_3, cond_false, hm, law08_SearchOpens_4]
        by_cases h0 : ws.length = 0
        · rw [bif_neg' (by omega)]
          exact opens6 F hF hw _ ws key _ (by omega) hl rfl hk
        · rw [bif_pos' (by omega)]
          rcases List.eq_nil_or_concat ws with h | ⟨pre, w, h⟩
          · exact absurd (by rw [h]; rfl) h0
          · rw [List.concat_eq_append] at h
            have hgn := wOk_gain ((wavesB_ok h2).2 w (by rw [h]; exact List.mem_append_right _ List.mem_cons_self)).1
            have hll : ws.length = pre.length + 1 := by rw [h]; simp
            have ei : w64 (((ws.length : Nat) : Int) - 1) = ((pre.length : Nat) : Int) := by
              rw [w64_id (by omega) (by omega)]
              omega
            have eg : ws[pre.length]? = some w := by
              rw [h, List.getElem?_append_right (Nat.le_refl _), Nat.sub_self]
              rfl
            rw [apd_ok (by simp; omega) (by omega), bnd_eq, List.nil_append, ei, idx_nat, eg, bnd_eq, w64_id (n := -w.Gain) (by omega) (by omega), w64_id (n := -w.Gain - 1) (by omega) (by omega)]
            have h5 := fun g hg hne => opens5 F hF hw (addAll 1 x ws) pre w g key e2 e3 (by rw [← h]; exact hyb) hg hne
            rw [← h] at h5
            by_cases hb : -w.Gain - 1 < -64
            · rw [bif_pos' hb]
              exact h5 0 ⟨by omega, by omega⟩ (by omega)
            · rw [bif_neg' hb]
              exact h5 _ ⟨by omega, by omega⟩ (by omega)
end Go.Ev.SearchOpens
