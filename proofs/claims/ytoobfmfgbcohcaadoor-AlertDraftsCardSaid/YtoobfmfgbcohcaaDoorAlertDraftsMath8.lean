/- AlertDrafts. -/
import Derived.Test.YtoobfmfgbcohcaaDoorAlertDraftsMath7
namespace Go.Ev.AlertDrafts
open Go Go.Ev Go.Proofs
set_option linter.unusedVariables false
theorem law3 (F : Nat) (hF : 20000 < F) (hw : works F = some true) (a : S_api_Alert) (ha : a.Cells.length ≤ 9223372036854775807) (haF : a.Cells.length < F) (e0 : List UInt8) (t x1 x2 x3 x4 x5 x6 x7 : Int) (l : List Int) (hl : l.length ≤ 17592186044416) (hlF : l.length < F)
    (b0 : List UInt8) (b1 b2 b3 b4 b5 : Int) (b7 : Bool) (b8 : Int) (d0 : List UInt8) (d1 d2 d3 d4 d5 : Int) (d7 : Bool) (d8 : Int) (l2 : List Int) : ∀ (n N i : Nat) (c : List Int), n = c.length - i → i ≤ c.length → n < N → c.length ≤ 384 →
    law10_AlertDrafts_3 F N i a.Event a.Version a.Time a.Chance.N a.Chance.Of a.Grid a.Cells a.Withdrawn a.Before e0 t x1 x2 x3 x4 x5 x6 x7 l b0 b1 b2 b3 b4 b5 b7 b8 d0 d1 d2 d3 d4 d5 d7 d8 c l2 l = some true
  | n, 0, i, c, _, _, h, _ => by omega
  | 0, N + 1, i, c, hn, hi, _, hc => by
    have hnc := next_cells a t a.Chance a.Grid [] true
    rw [law10_AlertDrafts_3, bif_neg' (by omega), alert_eta, withdraw_eq F a t hF ha haF, bnd_eq, rwithdraw_eq F a t hF ha haF, bnd_eq, same_self F _ (by omega) (by omega), bnd_eq]
    unfold law10_AlertDrafts_4 law10_AlertDrafts_5 law10_AlertDrafts_6
    rw [sameInts_self F l (by omega) hlF, bnd_eq, hw, bnd_eq]
    simp only [beq_self_eq_true, cond_true]
  | n + 1, N + 1, i, c, hn, hi, hN, hc => by
    rw [law10_AlertDrafts_3, bif_pos' (by omega), inn_at (by omega), bnd_eq, upd_at (by omega), bnd_eq, up (by omega)]
    exact law3 F hF hw a ha haF e0 t x1 x2 x3 x4 x5 x6 x7 l hl hlF b0 b1 b2 b3 b4 b5 b7 b8 d0 d1 d2 d3 d4 d5 d7 d8 l2 n N (i + 1) _ (by rw [List.length_set]; omega) (by rw [List.length_set]; omega) (by omega) (by rw [List.length_set]; omega)
theorem law_eq (F : Nat) (a : S_api_Alert) (x : S_ringdownlaw10_Idea) (h1 : a.Cells.length ≤ 9223372036854775807) (h2 : a.Cells.length + 70000 < F) (h3 : x.Cells.length ≤ 17592186044416) (h4 : x.Cells.length + 70000 < F) (hw : works F = some true) : law10_AlertDrafts F a x = some true := by
  have hd := draft_cells x.Event x.Time x.C x.Limit x.Grid x.Cells
  have hn := next_cells a x.Time x.C.Chance x.Grid x.Cells false
  have e : S_api_Candidate.mk x.C.Pair x.C.Chance = x.C := rfl
  have e2 : S_api_Chance.mk x.C.Chance.N x.C.Chance.Of = x.C.Chance := rfl
  unfold law10_AlertDrafts
  rw [e, draft_eq F _ _ _ _ _ _ (by omega) (by omega) (by omega), bnd_eq, rdraft_eq F _ _ _ _ _ _ (by omega) (by omega) (by omega), bnd_eq, same_self F _ (by omega) (by omega), bnd_eq, Bool.not_true, cond_false, beq_self_eq_true, Bool.not_true]
  unfold law10_AlertDrafts_1
  rw [cond_false, alert_eta, e2, follow_eq F a _ _ _ _ (by omega) h1 (by omega) (by omega) (by omega), bnd_eq, rfollow_eq F a _ _ _ _ (by omega) h1 (by omega) (by omega) (by omega), bnd_eq, same_self F _ (by omega) (by omega), bnd_eq, Bool.not_true, cond_false, beq_self_eq_true, Bool.not_true]
  unfold law10_AlertDrafts_2
  rw [cond_false]
  unfold ref00_OwnInts
  rw [apd8 h3, bnd_eq, bnd_eq]
  exact law3 F (by omega) hw a h1 (by omega) _ _ _ _ _ _ _ _ _ x.Cells h3 (by omega) _ _ _ _ _ _ _ _ _ _ _ _ _ _ _ _ _ _ F 0 _ rfl (by omega) (by omega) hn
end Go.Ev.AlertDrafts
