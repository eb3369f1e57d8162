/- SearchSlides. -/
import Derived.Test.YtcifnjdjnoadfaaSearchSlidesMath14
namespace Go.Ev.SearchSlides
open Go Go.Ev Go.Proofs
set_option linter.unusedVariables false
theorem triggers1 (F : Nat) (l : List S_api_Trigger) (hl : l.length ≤ 256) : ∀ (k N i : Nat), k = l.length - i → i ≤ l.length → k < N → law08_triggers_1 F N l l i = some true
  | k, 0, i, _, _, h => by omega
  | 0, N + 1, i, hk, hi, _ => by rw [law08_triggers_1, bif_neg' (by omega : ¬ ((i : Int) < l.length))]
  | k + 1, N + 1, i, hk, hi, hN => by
    obtain ⟨x, hx⟩ := get_lt (l := l) (i := i) (by omega)
    rw [law08_triggers_1, bif_pos' (by omega : ((i : Int) < l.length)), idx_nat, hx, bnd_eq, bnd_eq]
    simp only [beq_self_eq_true, Bool.and_self, Bool.not_true, cond_false]
    rw [up (by omega), triggers1 F l hl k N (i + 1) (by omega) (by omega) (by omega)]
theorem triggers_self (F : Nat) (l : List S_api_Trigger) (hl : l.length ≤ 256) (hF : 256 < F) : law08_triggers F l l = some true := by
  unfold law08_triggers
  simp only [beq_self_eq_true, Bool.not_true, cond_false]
  exact triggers1 F l hl l.length F 0 rfl (Nat.zero_le _) (by omega)
theorem errS_len {T d : Int} {l : List S_api_Trigger} : (bif errS T l d == 0 then sld T d l else []).length ≤ 256 := by
  cases e : (errS T l d == 0) with
  | false => exact Nat.zero_le _
  | true =>
    rw [beq_iff_eq] at e
    unfold errS at e
    cases e2 : (chkE ⟨T, 0, T⟩ [l] == 0) with
    | false => rw [e2, cond_false] at e; rw [e] at e2; exact absurd e2 (by decide)
    | true =>
      rw [beq_iff_eq] at e2
      have := (chkE_0.1 e2).1
      simp only [List.all_cons, List.all_nil, Bool.and_true] at this
      rw [cond_true, sld_len]
      exact okT_len this
theorem st_len {T w s : Int} {a b : List S_api_Trigger} : (bif chkE ⟨T, w, s⟩ [a, b] == 0 then stF ⟨T, w, s⟩ a b (cntS ⟨T, w, s⟩) 0 else []).length ≤ 256 := by
  cases e : (chkE ⟨T, w, s⟩ [a, b] == 0) with
  | false => exact Nat.zero_le _
  | true =>
    rw [beq_iff_eq] at e
    rw [cond_true, stF_len]
    exact (cntS_ok (chkE_0.1 e).2.1).2.1
theorem law_eq (F : Nat) (a b : List S_api_Trigger) (c : S_ringdownlaw08_Clock) (ha : a.length ≤ 9223372036854775807) (hb : b.length ≤ 9223372036854775807) (hFa : a.length + 70000 < F) (hFb : b.length + 70000 < F) (hw : works F = some true) : law08_SearchSlides F a b c = some true := by
  unfold law08_SearchSlides
  rw [Slide_eq F (by omega) b _ _ hb (by omega), bnd_eq, rSlide_eq F (by omega) b _ _ hb, bnd_eq, triggers_self F _ errS_len (by omega)]
  simp only [beq_self_eq_true, Bool.not_true, cond_false, bnd_eq, law08_SearchSlides_1]
  rw [Stat_eq F a b _ _ _ (by omega) ha hb (by omega) (by omega), bnd_eq, rStat_eq F a b _ _ _ (by omega) ha hb, bnd_eq, same_self F _ (Nat.le_trans st_len (by omega)) (Nat.lt_of_le_of_lt st_len (by omega))]
  simp only [bnd_eq, cond_true, beq_self_eq_true, law08_SearchSlides_2, law08_SearchSlides_3, hw]
end Go.Ev.SearchSlides
