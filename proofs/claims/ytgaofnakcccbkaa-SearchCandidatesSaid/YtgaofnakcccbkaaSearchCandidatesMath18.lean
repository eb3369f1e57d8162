/- SearchCandidates. -/
import Derived.Test.YtgaofnakcccbkaaSearchCandidatesMath17
namespace Go.Ev.SearchCandidates
open Go Go.Ev Go.Proofs
set_option linter.unusedVariables false
theorem rcand1 (F : Nat) (lim : Int) (S : List Int) (hS : S.length ≤ 256) (hF : 256 < F) (l : List S_api_Pair) (hl : l.length ≤ 65536) : ∀ (k N j : Nat) (acc : List S_api_Candidate), k = l.length - j → j ≤ l.length → k < N → acc.length ≤ j →
    ref08_Candidates_1 F N lim j l S acc = some (acc ++ candF lim S (l.drop j), 0)
  | k, 0, j, acc, _, _, h, _ => by omega
  | 0, N + 1, j, acc, hk, hj, _, _ => by
    rw [ref08_Candidates_1, bif_neg' (by omega : ¬ ((j : Int) < l.length)), List.drop_of_length_le (by omega), candF_nil, List.append_nil]
  | k + 1, N + 1, j, acc, hk, hj, hN, hacc => by
    obtain ⟨p, hp⟩ := get_lt (l := l) (i := j) (by omega)
    have ih := fun acc' h => rcand1 F lim S hS hF l hl k N (j + 1) acc' (by omega) (by omega) (by omega) h
    rw [ref08_Candidates_1, bif_pos' (by omega : ((j : Int) < l.length)), idx_nat, hp, bnd_eq, rchance_eq F S _ (by omega) (by omega), bnd_eq, Int.max_comm, drop_get hp, candF_cons]
    show (bif keepB lim S p then _ else _) = _
    unfold ref08_Candidates_2
    rw [up (by omega)]
    cases e3 : keepB lim S p with
    | false =>
      simp only [cond_false]
      exact ih acc (by omega)
    | true =>
      simp only [cond_true]
      rw [bnd_eq, apd_ok (by simp; omega) (by omega), bnd_eq, ih _ (by simp; omega), List.append_assoc]
      rfl
theorem rCand_eq (F : Nat) (a b : List S_api_Trigger) (T w s lim : Int) (hF0 : 65536 < F) (ha : a.length ≤ 9223372036854775807) (hb : b.length ≤ 9223372036854775807) :
    ref08_Candidates F a b T w s lim = some (candR ⟨T, w, s⟩ a b lim) := by
  unfold ref08_Candidates candR
  rw [ready_eq F a b ⟨T, w, s⟩ (by omega) ha hb, bnd_eq]
  show (bif !(chkE ⟨T, w, s⟩ [a, b] == 0) then some ([], chkE ⟨T, w, s⟩ [a, b]) else _) = _
  cases e : (chkE ⟨T, w, s⟩ [a, b] == 0) with
  | false => rfl
  | true =>
    rw [beq_iff_eq] at e
    obtain ⟨h1, h2, h3⟩ := chkE_0.1 e
    obtain ⟨t1, t2, t3, t4, t5, t6⟩ := okC_live h2
    obtain ⟨n0, n256, n1, _⟩ := cntS_ok h2
    have t5' : 1 ≤ s := t5
    have n0' : Int.tdiv T s = (cntS ⟨T, w, s⟩ : Int) := n0
    simp only [List.all_cons, List.all_nil, Bool.and_true, Bool.and_eq_true] at h1
    rw [Bool.not_true, cond_false, cond_true, nz_ok (by omega), bnd_eq, n0', w64_id (n := ((cntS ⟨T, w, s⟩ : Nat) : Int)) (by omega) (by omega), In_eq, bnd_eq]
    cases e2 : inR 0 lim (cntS ⟨T, w, s⟩) with
    | false => rfl
    | true =>
      have hco : ref08_coincide F a b ⟨T, w, s⟩ = some (prs ⟨T, w, s⟩ b 0 a) := by
        unfold ref08_coincide
        exact rcoin1 F (by omega) a b ⟨T, w, s⟩ (okT_len h1.1) (okT_len h1.2) (okT_ok h1.1) (okT_ok h1.2) ⟨by have : 1 ≤ T := t1; show 0 ≤ T; omega, t2⟩ a.length F 0 [] rfl (Nat.zero_le _) (by have := okT_len h1.1; omega) (Nat.zero_le _)
      have hst : ref08_statistics F a b ⟨T, w, s⟩ = some (stF ⟨T, w, s⟩ a b (cntS ⟨T, w, s⟩) 0) := by
        unfold ref08_statistics
        exact rstat1 F hF0 a b ⟨T, w, s⟩ h1.1 h1.2 h2 (cntS ⟨T, w, s⟩) F 0 [] rfl (Nat.zero_le _) (by omega) rfl
      rw [Bool.not_true, cond_false, cond_true, hco, bnd_eq, hst, bnd_eq]
      have hl : (stF ⟨T, w, s⟩ a b (cntS ⟨T, w, s⟩) 0).length ≤ 256 := by rw [stF_len]; exact n256
      have hl2 := prs_len2 (c := ⟨T, w, s⟩) (okT_len h1.1) (okT_len h1.2)
      exact rcand1 F lim _ hl (by omega) _ hl2 _ F 0 [] rfl (Nat.zero_le _) (by omega) (Nat.zero_le _)
theorem candR_len (c : S_search_clock) (a b : List S_api_Trigger) (lim : Int) : (candR c a b lim).1.length ≤ 65536 := by
  unfold candR
  cases e : (chkE c [a, b] == 0) with
  | false => exact Nat.zero_le _
  | true =>
    rw [beq_iff_eq] at e
    have h1 := (chkE_0.1 e).1
    simp only [List.all_cons, List.all_nil, Bool.and_true, Bool.and_eq_true] at h1
    cases inR 0 lim (cntS c) with
    | false => exact Nat.zero_le _
    | true => exact Nat.le_trans (candF_len _ _ _) (prs_len2 (okT_len h1.1) (okT_len h1.2))
theorem cmp3 (F : Nat) (hw : works F = some true) (l : List S_api_Candidate) (hl : l.length ≤ 65536) : ∀ (k N j : Nat), k = l.length - j → j ≤ l.length → k < N → law08_SearchCandidates_2 F N j l l = some true
  | k, 0, j, _, _, h => by omega
  | 0, N + 1, j, hk, hj, _ => by rw [law08_SearchCandidates_2, bif_neg' (by omega : ¬ ((j : Int) < l.length)), hw, bnd_eq]
  | k + 1, N + 1, j, hk, hj, hN => by
    obtain ⟨p, hp⟩ := get_lt (l := l) (i := j) (by omega)
    rw [law08_SearchCandidates_2, bif_pos' (by omega : ((j : Int) < l.length)), idx_nat, hp, bnd_eq, bnd_eq]
    simp only [beq_self_eq_true, Bool.and_self, Bool.not_true, cond_false]
    rw [up (by omega)]
    exact cmp3 F hw l hl k N (j + 1) (by omega) (by omega) (by omega)
theorem law_eq (F : Nat) (a b : List S_api_Trigger) (c : S_ringdownlaw08_Clock) (ha : a.length ≤ 9223372036854775807) (hb : b.length ≤ 9223372036854775807) (hFa : a.length + 70000 < F) (hFb : b.length + 70000 < F) (hw : works F = some true) : law08_SearchCandidates F a b c = some true := by
  unfold law08_SearchCandidates
  rw [Cand_eq F a b _ _ _ _ (by omega) ha hb (by omega) (by omega), bnd_eq, rCand_eq F a b _ _ _ _ (by omega) ha hb, bnd_eq]
  simp only [beq_self_eq_true, Bool.not_true, cond_false, law08_SearchCandidates_1]
  have hl := candR_len ⟨c.Live, c.Window, c.Step⟩ a b c.Limit
  exact cmp3 F hw _ hl _ F 0 rfl (Nat.zero_le _) (by omega)
end Go.Ev.SearchCandidates
