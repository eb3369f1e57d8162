/- SearchRound. -/
import Derived.Test.YtcifnjdjnoadfaaSearchRoundMath6
namespace Go.Ev.SearchRound
open Go Go.Ev Go.Proofs
set_option linter.unusedVariables false
theorem triggers1 (F : Nat) (l : List S_api_Trigger) (hl : l.length ≤ 256) : ∀ (k N i : Nat), k = l.length - i → i ≤ l.length → k < N → law08_triggers_1 F N l l i = some true
  | k, 0, i, _, _, h => by omega
  | 0, N + 1, i, hk, hi, _ => by rw [law08_triggers_1, bif_neg' (by omega : ¬ ((i : Int) < l.length))]
  | k + 1, N + 1, i, hk, hi, hN => by
    obtain ⟨x, hx⟩ := get_lt (l := l) (i := i) (by omega)
    rw [law08_triggers_1, bif_pos' (by omega : ((i : Int) < l.length)), idx_nat, hx, bnd_eq, bnd_eq]
    simp only [beq_self_eq_true, Bool.and_self, Bool.not_true, cond_false]
    rw [up (by omega), triggers1 F l hl k N (i + 1) (by omega) (by omega) (by omega)]
theorem triggers_self (F : Nat) (l : List S_api_Trigger) (hl : l.length ≤ 256) (hF : 256 < F) : law08_triggers F l l = some true := by
  unfold law08_triggers
  simp only [beq_self_eq_true, Bool.not_true, cond_false]
  exact triggers1 F l hl l.length F 0 rfl (Nat.zero_le _) (by omega)
theorem Chk_eq (F : Nat) (l : List S_api_Trigger) (hF : 256 < F) (hl : l.length ≤ 9223372036854775807) : search_CheckTriggers F l = some (bif okT l then 0 else 80) := by
  unfold search_CheckTriggers
  rw [chk_eq F hF [l] (by simp) (by simp; omega), bnd_eq]
  simp only [List.all_cons, List.all_nil, Bool.and_true]
theorem errS_0 {T : Int} {l : List S_api_Trigger} {d : Int} (h : errS T l d = 0) : okT l = true ∧ fit T l = true ∧ okC ⟨T, 0, T⟩ = true ∧ 1 ≤ T ∧ T ≤ 1073741824 ∧ 0 ≤ d ∧ d < T := by
  unfold errS at h
  cases e : (chkE ⟨T, 0, T⟩ [l] == 0) with
  | false =>
    rw [e, cond_false] at h
    rw [h] at e
    exact absurd e (by decide)
  | true =>
    rw [e, cond_true] at h
    rw [beq_iff_eq] at e
    obtain ⟨h1, h2, h3⟩ := chkE_0.1 e
    simp only [List.all_cons, List.all_nil, Bool.and_true] at h1 h3
    obtain ⟨t1, t2, _⟩ := okC_live h2
    cases e2 : inR 0 d (T - 1) with
    | false => rw [e2] at h; exact absurd h (by decide)
    | true =>
      have := inR_iff.1 e2
      exact ⟨h1, h3, h2, t1, t2, this.1, by omega⟩
theorem errS_ok {T : Int} {l : List S_api_Trigger} {d : Int} (h1 : okT l = true) (h2 : fit T l = true) (h3 : okC ⟨T, 0, T⟩ = true) (h4 : 0 ≤ d) (h5 : d < T) : errS T l d = 0 := by
  unfold errS
  have : chkE ⟨T, 0, T⟩ [l] = 0 := chkE_0.2 ⟨by simpa using h1, h3, by simpa using h2⟩
  rw [this, inR_iff.2 ⟨h4, by omega⟩]
  rfl
theorem neg_mod {d T : Int} (h0 : 0 < d) (h1 : d < T) : -d % T = T - d :=
  ((Int.ediv_emod_unique (a := -d) (b := T) (r := T - d) (q := -1) (by omega)).2 ⟨by omega, by omega, by omega⟩).2
theorem law_eq (F : Nat) (l : List S_api_Trigger) (T d : Int) (hl : l.length ≤ 9223372036854775807) (hF : l.length + 1200 < F) (hw : works F = some true) : law08_SearchRound F l T d = some true := by
  unfold law08_SearchRound
  rw [Slide_eq F (by omega) l T d hl (by omega), bnd_eq]
  cases e : (errS T l d == 0) with
  | false => simp only [Bool.not_false, cond_true, cond_false, List.length_nil, Int.natCast_zero, beq_self_eq_true, hw, bnd_eq, law08_SearchRound_1]
  | true =>
    have e' := e
    rw [beq_iff_eq] at e
    obtain ⟨h1, h2, h3, h4, h5, h6, h7⟩ := errS_0 e
    obtain ⟨k1, k2⟩ := sld_ok ⟨h6, h7⟩ h5 h1 h2
    have hlen := okT_len h1
    have hsl := sld_len T d l
    simp only [Bool.not_true, cond_true, cond_false]
    rw [Chk_eq F _ (by omega) (by omega), bnd_eq, k1]
    simp only [cond_true, beq_self_eq_true, Bool.not_true, cond_false]
    rw [w64_id (n := -d) (by omega) (by omega), Mod_eq F (-d) T (by omega) (by omega), bnd_eq]
    have hm1 := Int.emod_nonneg (-d) (show T ≠ 0 by omega)
    have hm2 := Int.emod_lt_of_pos (-d) (show 0 < T by omega)
    rw [Slide_eq F (by omega) _ T _ (by omega) (by omega), bnd_eq, errS_ok k1 k2 h3 hm1 hm2]
    have hb : sld T (-d % T) (sld T d l) = l := by
      by_cases h0 : d = 0
      · subst h0
        rw [Int.neg_zero, Int.zero_emod, sld_zero (okT_ok h1) h2, sld_zero (okT_ok h1) h2]
      · rw [neg_mod (by omega) h7, sld_back ⟨by omega, h7⟩ h5 h1 h2]
    simp only [beq_self_eq_true, cond_true, hb]
    rw [triggers_self F l hlen (by omega), bnd_eq]
    simp only [law08_SearchRound_2, cond_true, hw, bnd_eq, law08_SearchRound_3]
end Go.Ev.SearchRound
