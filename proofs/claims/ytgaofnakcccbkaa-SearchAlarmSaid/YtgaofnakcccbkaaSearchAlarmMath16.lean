/- SearchAlarm. -/
import Derived.Test.YtgaofnakcccbkaaSearchAlarmMath15
namespace Go.Ev.SearchAlarm
open Go Go.Ev Go.Proofs
set_option linter.unusedVariables false
theorem errS_ok {T : Int} {l : List S_api_Trigger} {d : Int} (h1 : okT l = true) (h2 : fit T l = true) (h3 : okC ⟨T, 0, T⟩ = true) (h4 : 0 ≤ d) (h5 : d < T) : errS T l d = 0 := by
  unfold errS
  have : chkE ⟨T, 0, T⟩ [l] = 0 := chkE_0.2 ⟨by simpa using h1, h3, by simpa using h2⟩
  rw [this, inR_iff.2 ⟨h4, by omega⟩]
  rfl
theorem okC_self {T : Int} (h1 : 1 ≤ T) (h2 : T ≤ 1073741824) : okC ⟨T, 0, T⟩ = true := by
  unfold okC
  show ((inR 1 T 1073741824 && (inR 0 0 (T - 1) && inR 1 T T)) && ((Int.tmod T T == 0) && decide (Int.tdiv T T ≤ 256))) = true
  rw [inR_iff.2 ⟨h1, h2⟩, inR_iff.2 ⟨by omega, by omega⟩, inR_iff.2 ⟨h1, by omega⟩, Int.tmod_self, Int.tdiv_self (by omega)]
  rfl
theorem alarm2 (F : Nat) (hF : 300 < F) (hw : works F = some true) (a b : List S_api_Trigger) (c : S_ringdownlaw08_Clock) (q : Nat) (hc : okC ⟨c.Live, c.Window, c.Step⟩ = true) (ha : okT a = true) (hb : okT b = true) (hfa : fit c.Live a = true) (hfb : fit c.Live b = true) (hq : q ≤ cntS ⟨c.Live, c.Window, c.Step⟩) :
    ∀ (k N i many : Nat), k = cntS ⟨c.Live, c.Window, c.Step⟩ - i → i ≤ cntS ⟨c.Live, c.Window, c.Step⟩ → k < N →
      many ≤ ((stF ⟨c.Live, c.Window, c.Step⟩ a b (cntS ⟨c.Live, c.Window, c.Step⟩) 0).take i).countP (fun x => decide (cnt x (stF ⟨c.Live, c.Window, c.Step⟩ a b (cntS ⟨c.Live, c.Window, c.Step⟩) 0) ≤ q)) →
      law08_SearchAlarm_2 F N a b q many i c (stF ⟨c.Live, c.Window, c.Step⟩ a b (cntS ⟨c.Live, c.Window, c.Step⟩) 0) = some true
  | k, 0, i, many, _, _, h, _ => by omega
  | 0, N + 1, i, many, hk, hi, _, hm => by
    have hl := stF_len ⟨c.Live, c.Window, c.Step⟩ a b (cntS ⟨c.Live, c.Window, c.Step⟩) 0
    have hb' := bound (stF ⟨c.Live, c.Window, c.Step⟩ a b (cntS ⟨c.Live, c.Window, c.Step⟩) 0) q
    rw [List.take_of_length_le (by omega)] at hm
    rw [law08_SearchAlarm_2, bif_neg' (by omega), bif_pos' (by omega), hw, bnd_eq]
    rfl
  | k + 1, N + 1, i, many, hk, hi, hN, hm => by
    have hl := stF_len ⟨c.Live, c.Window, c.Step⟩ a b (cntS ⟨c.Live, c.Window, c.Step⟩) 0
    obtain ⟨n0, n256, n1, hjs⟩ := cntS_ok hc
    obtain ⟨t1, t2, t3, t4, t5, t6⟩ := okC_live hc
    have t1' : 1 ≤ c.Live := t1
    have t2' : c.Live ≤ 1073741824 := t2
    have t5' : 1 ≤ c.Step := t5
    obtain ⟨d1, d2⟩ := hjs i (by omega)
    have d1' : 0 ≤ (i : Int) * c.Step := d1
    have d2' : (i : Int) * c.Step < c.Live := d2
    obtain ⟨k1, k2⟩ := sld_ok ⟨d1', d2'⟩ t2' hb hfb
    have hla := okT_len ha
    have hlb := okT_len hb
    have hcnt : ((stF ⟨c.Live, c.Window, c.Step⟩ a b (cntS ⟨c.Live, c.Window, c.Step⟩) 0).take i).countP (fun x => decide (cnt x (stF ⟨c.Live, c.Window, c.Step⟩ a b (cntS ⟨c.Live, c.Window, c.Step⟩) 0) ≤ q)) ≤ i := Nat.le_trans List.countP_le_length (by rw [List.length_take]; omega)
    have hget := stF_get ⟨c.Live, c.Window, c.Step⟩ a b (cntS ⟨c.Live, c.Window, c.Step⟩) 0 i (by omega)
    rw [Nat.zero_add] at hget
    have ht : ((stF ⟨c.Live, c.Window, c.Step⟩ a b (cntS ⟨c.Live, c.Window, c.Step⟩) 0).take (i + 1)).countP (fun x => decide (cnt x (stF ⟨c.Live, c.Window, c.Step⟩ a b (cntS ⟨c.Live, c.Window, c.Step⟩) 0) ≤ q)) =
        ((stF ⟨c.Live, c.Window, c.Step⟩ a b (cntS ⟨c.Live, c.Window, c.Step⟩) 0).take i).countP (fun x => decide (cnt x (stF ⟨c.Live, c.Window, c.Step⟩ a b (cntS ⟨c.Live, c.Window, c.Step⟩) 0) ≤ q)) + if cnt (sta ⟨c.Live, c.Window, c.Step⟩ a b i) (stF ⟨c.Live, c.Window, c.Step⟩ a b (cntS ⟨c.Live, c.Window, c.Step⟩) 0) ≤ q then 1 else 0 := by
      rw [List.take_add_one, hget, List.countP_append]
      simp [List.countP_cons]
    have ih := fun many' h => alarm2 F hF hw a b c q hc ha hb hfa hfb hq k N (i + 1) many' (by omega) (by omega) (by omega) h
    rw [ht] at ih
    rw [law08_SearchAlarm_2, bif_pos' (by omega), w64_id (n := (i : Int) * c.Step) (by omega) (by omega), Slide_eq F (by omega) b _ _ (by omega) (by omega), bnd_eq, errS_ok hb hfb (okC_self t1' t2') d1' d2']
    simp only [beq_self_eq_true, Bool.not_true, cond_true, cond_false]
    rw [Cand_eq F a _ _ _ _ _ (by omega) (by omega) (by rw [sld_len]; omega) (by omega) (by rw [sld_len]; omega), bnd_eq]
    have hck : chkE ⟨c.Live, c.Window, c.Step⟩ [a, sld c.Live ((i : Int) * c.Step) b] = 0 := chkE_0.2 ⟨by simp [k1, ha], hc, by simp [k2, hfa]⟩
    have hr : candR ⟨c.Live, c.Window, c.Step⟩ a (sld c.Live ((i : Int) * c.Step) b) q = (candF q (stF ⟨c.Live, c.Window, c.Step⟩ a (sld c.Live ((i : Int) * c.Step) b) (cntS ⟨c.Live, c.Window, c.Step⟩) 0) (prs ⟨c.Live, c.Window, c.Step⟩ (sld c.Live ((i : Int) * c.Step) b) 0 a), 0) := by
      unfold candR
      rw [hck, inR_iff.2 ⟨by omega, by omega⟩]
      rfl
    rw [hr]
    simp only [beq_self_eq_true, Bool.not_true, cond_false, law08_SearchAlarm_3]
    rw [up (by omega), up (by omega)]
    by_cases hp : 0 < (candF q (stF ⟨c.Live, c.Window, c.Step⟩ a (sld c.Live ((i : Int) * c.Step) b) (cntS ⟨c.Live, c.Window, c.Step⟩) 0) (prs ⟨c.Live, c.Window, c.Step⟩ (sld c.Live ((i : Int) * c.Step) b) 0 a)).length
    · have hfew := cand_few (c := ⟨c.Live, c.Window, c.Step⟩) (a := a) (b := b) (k := i) (n := cntS ⟨c.Live, c.Window, c.Step⟩) (q := q) (show 0 < c.Live by omega) (show 0 ≤ c.Step by omega) (fun y hy => (okT_ok hb y hy).1) (by omega) (okC_mul hc) hp
      rw [bif_pos' (by omega)]
      exact ih (many + 1) (by rw [if_pos hfew]; omega)
    · rw [bif_neg' (by omega)]
      exact ih many (by omega)
theorem law_eq (F : Nat) (a b : List S_api_Trigger) (c : S_ringdownlaw08_Clock) (ha : a.length ≤ 9223372036854775807) (hb : b.length ≤ 9223372036854775807) (hFa : a.length + 70000 < F) (hFb : b.length + 70000 < F) (hw : works F = some true) : law08_SearchAlarm F a b c = some true := by
  unfold law08_SearchAlarm
  rw [Stat_eq F a b _ _ _ (by omega) ha hb (by omega) (by omega), bnd_eq]
  cases e : (chkE ⟨c.Live, c.Window, c.Step⟩ [a, b] == 0) with
  | false => simp only [Bool.not_false, cond_true, hw, bnd_eq, law08_SearchAlarm_1]
  | true =>
    rw [beq_iff_eq] at e
    obtain ⟨h1, h2, h3⟩ := chkE_0.1 e
    obtain ⟨n0, n256, n1, _⟩ := cntS_ok h2
    simp only [List.all_cons, List.all_nil, Bool.and_true, Bool.and_eq_true] at h1 h3
    have hl := stF_len ⟨c.Live, c.Window, c.Step⟩ a b (cntS ⟨c.Live, c.Window, c.Step⟩) 0
    rw [e]
    simp only [Bool.not_true, cond_true, cond_false]
    unfold law08_SearchAlarm_1
    by_cases hm : (24 : Int) < (stF ⟨c.Live, c.Window, c.Step⟩ a b (cntS ⟨c.Live, c.Window, c.Step⟩) 0).length
    · rw [bif_pos' hm, hw, bnd_eq]
    · rw [bif_neg' hm, w64_id (n := ((stF ⟨c.Live, c.Window, c.Step⟩ a b (cntS ⟨c.Live, c.Window, c.Step⟩) 0).length : Int) + 1) (by omega) (by omega), Mod_eq F c.Limit _ (by omega) (by omega), bnd_eq]
      have hm1 := Int.emod_nonneg c.Limit (show ((stF ⟨c.Live, c.Window, c.Step⟩ a b (cntS ⟨c.Live, c.Window, c.Step⟩) 0).length : Int) + 1 ≠ 0 by omega)
      have hm2 := Int.emod_lt_of_pos c.Limit (show 0 < ((stF ⟨c.Live, c.Window, c.Step⟩ a b (cntS ⟨c.Live, c.Window, c.Step⟩) 0).length : Int) + 1 by omega)
      obtain ⟨q, hq⟩ : ∃ q : Nat, c.Limit % (((stF ⟨c.Live, c.Window, c.Step⟩ a b (cntS ⟨c.Live, c.Window, c.Step⟩) 0).length : Int) + 1) = q := ⟨_, (Int.toNat_of_nonneg hm1).symm⟩
      rw [hq] at hm2 ⊢
      exact alarm2 F (by omega) hw a b c q h2 h1.1 h1.2 h3.1 h3.2 (by omega) _ F 0 0 rfl (Nat.zero_le _) (by omega) (Nat.zero_le _)
end Go.Ev.SearchAlarm
