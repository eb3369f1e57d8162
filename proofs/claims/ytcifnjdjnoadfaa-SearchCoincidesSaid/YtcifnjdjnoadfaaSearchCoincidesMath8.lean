/- SearchCoincides. -/
import Derived.Test.YtcifnjdjnoadfaaSearchCoincidesMath7
namespace Go.Ev.SearchCoincides
open Go Go.Ev Go.Proofs
set_option linter.unusedVariables false
theorem pairs1 (F : Nat) (l : List S_api_Pair) (hl : l.length ≤ 65536) : ∀ (k N i : Nat), k = l.length - i → i ≤ l.length → k < N → law08_pairs_1 F N l l i = some true
  | k, 0, i, _, _, h => by omega
  | 0, N + 1, i, hk, hi, _ => by rw [law08_pairs_1, bif_neg' (by omega : ¬ ((i : Int) < l.length))]
  | k + 1, N + 1, i, hk, hi, hN => by
    obtain ⟨x, hx⟩ := get_lt (l := l) (i := i) (by omega)
    rw [law08_pairs_1, bif_pos' (by omega : ((i : Int) < l.length)), idx_nat, hx, bnd_eq, bnd_eq]
    simp only [beq_self_eq_true, Bool.and_self, Bool.not_true, cond_false]
    rw [up (by omega), pairs1 F l hl k N (i + 1) (by omega) (by omega) (by omega)]
theorem pairs_self (F : Nat) (l : List S_api_Pair) (hl : l.length ≤ 65536) (hF : 65536 < F) : law08_pairs F l l = some true := by
  unfold law08_pairs
  simp only [beq_self_eq_true, Bool.not_true, cond_false]
  exact pairs1 F l hl l.length F 0 rfl (Nat.zero_le _) (by omega)
theorem rLoudest_eq (F : Nat) (a b : List S_api_Trigger) (T w : Int) (hF0 : 65536 < F) (ha : a.length ≤ 9223372036854775807) (hb : b.length ≤ 9223372036854775807) :
    ref08_Loudest F a b T w = some (bif chkE ⟨T, w, T⟩ [a, b] == 0 then louF (-1) (prs ⟨T, w, T⟩ b 0 a) else 0, chkE ⟨T, w, T⟩ [a, b]) := by
  unfold ref08_Loudest
  rw [rCoincide_eq F a b T w (by omega) ha hb, bnd_eq]
  cases e : (chkE ⟨T, w, T⟩ [a, b] == 0) with
  | false => simp only [Bool.not_false, cond_true, cond_false]
  | true =>
    have e' := e
    rw [beq_iff_eq] at e
    obtain ⟨h1, h2, h3⟩ := chkE_0.1 e
    simp only [List.all_cons, List.all_nil, Bool.and_true, Bool.and_eq_true] at h1
    simp only [Bool.not_true, cond_true, cond_false]
    rw [rloudest_eq F _ (prs_len2 (okT_len h1.1) (okT_len h1.2)) hF0, bnd_eq, e]
theorem Chk_eq (F : Nat) (l : List S_api_Trigger) (hF : 256 < F) (hl : l.length ≤ 9223372036854775807) : search_CheckTriggers F l = some (bif okT l then 0 else 80) := by
  unfold search_CheckTriggers
  rw [chk_eq F hF [l] (by simp) (by simp; omega), bnd_eq]
  simp only [List.all_cons, List.all_nil, Bool.and_true]
theorem pairs_bif (F : Nat) (hF : 65536 < F) (a b : List S_api_Trigger) (T w : Int) : law08_pairs F (bif chkE ⟨T, w, T⟩ [a, b] == 0 then prs ⟨T, w, T⟩ b 0 a else []) (bif chkE ⟨T, w, T⟩ [a, b] == 0 then prs ⟨T, w, T⟩ b 0 a else []) = some true := by
  cases e : (chkE ⟨T, w, T⟩ [a, b] == 0) with
  | false => exact pairs_self F _ (by simp) hF
  | true =>
    rw [beq_iff_eq] at e
    obtain ⟨h1, h2, h3⟩ := chkE_0.1 e
    simp only [List.all_cons, List.all_nil, Bool.and_true, Bool.and_eq_true] at h1
    exact pairs_self F _ (prs_len2 (okT_len h1.1) (okT_len h1.2)) hF
theorem law_eq (F : Nat) (a b : List S_api_Trigger) (c : S_ringdownlaw08_Clock) (ha : a.length ≤ 9223372036854775807) (hb : b.length ≤ 9223372036854775807) (hFa : a.length + 70000 < F) (hFb : b.length + 70000 < F) (hw : works F = some true) : law08_SearchCoincides F a b c = some true := by
  unfold law08_SearchCoincides
  rw [Chk_eq F a (by omega) ha, bnd_eq, rChk_eq F a (by omega) ha, bnd_eq, Coincide_eq F a b _ _ (by omega) ha hb (by omega) (by omega), bnd_eq, rCoincide_eq F a b _ _ (by omega) ha hb, bnd_eq, pairs_bif F (by omega)]
  simp only [beq_self_eq_true, Bool.not_true, cond_false, bnd_eq, law08_SearchCoincides_1]
  rw [Loudest_eq F a b _ _ (by omega) ha hb (by omega) (by omega), rLoudest_eq F a b _ _ (by omega) ha hb]
  simp only [bnd_eq, beq_self_eq_true, cond_true, law08_SearchCoincides_2, law08_SearchCoincides_3, hw]
end Go.Ev.SearchCoincides
