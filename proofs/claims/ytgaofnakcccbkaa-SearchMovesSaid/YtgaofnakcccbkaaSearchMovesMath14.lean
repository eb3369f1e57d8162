/- SearchMoves. -/
import Derived.Test.YtgaofnakcccbkaaSearchMovesMath13
namespace Go.Ev.SearchMoves
open Go Go.Ev Go.Proofs
set_option linter.unusedVariables false
theorem errS_ok {T : Int} {l : List S_api_Trigger} {d : Int} (h1 : okT l = true) (h2 : fit T l = true) (h3 : okC ⟨T, 0, T⟩ = true) (h4 : 0 ≤ d) (h5 : d < T) : errS T l d = 0 := by
  unfold errS
  have : chkE ⟨T, 0, T⟩ [l] = 0 := chkE_0.2 ⟨by simpa using h1, h3, by simpa using h2⟩
  rw [this, inR_iff.2 ⟨h4, by omega⟩]
  rfl
theorem okC_self {T : Int} (h1 : 1 ≤ T) (h2 : T ≤ 1073741824) : okC ⟨T, 0, T⟩ = true := by
  unfold okC
  show ((inR 1 T 1073741824 && (inR 0 0 (T - 1) && inR 1 T T)) && ((Int.tmod T T == 0) && decide (Int.tdiv T T ≤ 256))) = true
  rw [inR_iff.2 ⟨h1, h2⟩, inR_iff.2 ⟨by omega, by omega⟩, inR_iff.2 ⟨h1, by omega⟩, Int.tmod_self, Int.tdiv_self (by omega)]
  rfl
theorem law_eq (F : Nat) (a b : List S_api_Trigger) (c : S_ringdownlaw08_Clock) (ha : a.length ≤ 9223372036854775807) (hb : b.length ≤ 9223372036854775807) (hFa : a.length + 70000 < F) (hFb : b.length + 70000 < F) (hw : works F = some true) : law08_SearchMoves F a b c = some true := by
  unfold law08_SearchMoves
  rw [Stat_eq F a b _ _ _ (by omega) ha hb (by omega) (by omega), bnd_eq]
  cases e : (chkE ⟨c.Live, c.Window, c.Step⟩ [a, b] == 0) with
  | false => simp only [Bool.not_false, cond_true, cond_false, List.length_nil, Int.natCast_zero, beq_self_eq_true, hw, bnd_eq, law08_SearchMoves_1]
  | true =>
    have e' := e
    rw [beq_iff_eq] at e
    obtain ⟨h1, h2, h3⟩ := chkE_0.1 e
    obtain ⟨t1, t2, t3, t4, t5, t6⟩ := okC_live h2
    obtain ⟨n0, n256, n1, _⟩ := cntS_ok h2
    simp only [List.all_cons, List.all_nil, Bool.and_true, Bool.and_eq_true] at h1 h3
    have t1' : 1 ≤ c.Live := t1
    have t2' : c.Live ≤ 1073741824 := t2
    have hm1 := Int.emod_nonneg c.Limit (show c.Live ≠ 0 by omega)
    have hm2 := Int.emod_lt_of_pos c.Limit (show 0 < c.Live by omega)
    have hself := okC_self t1' t2'
    obtain ⟨k1, k2⟩ := sld_ok ⟨hm1, hm2⟩ t2' h1.1 h3.1
    obtain ⟨k3, k4⟩ := sld_ok ⟨hm1, hm2⟩ t2' h1.2 h3.2
    have hla := okT_len h1.1
    have hlb := okT_len h1.2
    simp only [Bool.not_true, cond_true, cond_false]
    rw [Mod_eq F c.Limit c.Live t1' (by omega), bnd_eq, Slide_eq F (by omega) a _ _ ha (by omega), bnd_eq, Slide_eq F (by omega) b _ _ hb (by omega), bnd_eq, errS_ok h1.1 h3.1 hself hm1 hm2, errS_ok h1.2 h3.2 hself hm1 hm2]
    simp only [beq_self_eq_true, Bool.not_true, cond_true, cond_false, law08_SearchMoves_2]
    rw [Stat_eq F _ _ _ _ _ (by omega) (by rw [sld_len]; omega) (by rw [sld_len]; omega) (by rw [sld_len]; omega) (by rw [sld_len]; omega), bnd_eq]
    have hc : chkE ⟨c.Live, c.Window, c.Step⟩ [sld c.Live (c.Limit % c.Live) a, sld c.Live (c.Limit % c.Live) b] = 0 := chkE_0.2 ⟨by simp [k1, k3], h2, by simp [k2, k4]⟩
    have hst := stF_mv (c := ⟨c.Live, c.Window, c.Step⟩) (k := c.Limit % c.Live) (a := a) (b := b) (show 0 < c.Live by omega) (show 0 ≤ c.Step by have : 1 ≤ c.Step := t5; omega) ⟨hm1, hm2⟩ (fun x hx => ⟨(okT_ok h1.1 x hx).1, fit_iff.1 h3.1 x hx⟩) (fun y hy => (okT_ok h1.2 y hy).1) (cntS ⟨c.Live, c.Window, c.Step⟩) 0
    have hst' : stF ⟨c.Live, c.Window, c.Step⟩ (sld c.Live (c.Limit % c.Live) a) (sld c.Live (c.Limit % c.Live) b) (cntS ⟨c.Live, c.Window, c.Step⟩) 0 = stF ⟨c.Live, c.Window, c.Step⟩ a b (cntS ⟨c.Live, c.Window, c.Step⟩) 0 := hst
    have hl : (stF ⟨c.Live, c.Window, c.Step⟩ a b (cntS ⟨c.Live, c.Window, c.Step⟩) 0).length ≤ 256 := by rw [stF_len]; exact n256
    rw [hc]
    simp only [beq_self_eq_true, cond_true]
    rw [hst', same_self F _ (by omega) (by omega), bnd_eq]
    simp only [law08_SearchMoves_3, cond_true, hw, bnd_eq, law08_SearchMoves_4]
end Go.Ev.SearchMoves
