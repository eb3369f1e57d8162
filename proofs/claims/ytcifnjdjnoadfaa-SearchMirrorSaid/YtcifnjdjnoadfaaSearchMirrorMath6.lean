/- SearchMirror. -/
import Derived.Test.YtcifnjdjnoadfaaSearchMirrorMath5
namespace Go.Ev.SearchMirror
open Go Go.Ev Go.Proofs
set_option linter.unusedVariables false
theorem mir6 (F : Nat) (hd : Int → (List S_api_Pair) → (List S_api_Pair) → Option (Bool)) (l m : List S_api_Pair) (hm : m.length ≤ 65536) (i : Nat) (p : S_api_Pair) (hp : l[i]? = some p) (hi : i ≤ 65536) (hs : l.Pairwise lex) : ∀ (k N j : Nat) (f : Bool), k = m.length - j → j ≤ m.length → k < N → (f = true ∨ ∃ q, j ≤ q ∧ m[q]? = some ⟨p.B, p.A, p.Loud⟩) →
    law08_SearchMirror_6 F hd N i f j l m = hd ((i + 1 : Nat) : Int) l m
  | k, 0, j, f, _, _, h, _ => by omega
  | 0, N + 1, j, f, hk, hj, _, hf => by
    have hf' : f = true := by
      rcases hf with h | ⟨q, h1, h2⟩
      · exact h
      · have := (List.getElem?_eq_some_iff.1 h2).1
        omega
    subst hf'
    have hno : law08_SearchMirror_8 F hd i false l m = hd ((i + 1 : Nat) : Int) l m := by
      unfold law08_SearchMirror_8
      rw [cond_false, up (by omega)]
    rw [law08_SearchMirror_6, bif_neg' (by omega : ¬ ((j : Int) < m.length)), Bool.not_true, cond_false]
    by_cases h0 : 0 < i
    · obtain ⟨u, rfl⟩ : ∃ u, i = u + 1 := ⟨i - 1, by omega⟩
      have hul := (List.getElem?_eq_some_iff.1 hp).1
      obtain ⟨o, ho⟩ := get_lt (l := l) (i := u) (by omega)
      have hlt : lex o p := by
        have := List.pairwise_iff_getElem.1 hs u (u + 1) (by omega) hul (by omega)
        rw [(List.getElem?_eq_some_iff.1 ho).2, (List.getElem?_eq_some_iff.1 hp).2] at this
        exact this
      rw [bif_pos' (by omega : (0 : Int) < ((u + 1 : Nat) : Int)), w64_id (by omega) (by omega), show (((u + 1 : Nat) : Int) - 1) = (u : Int) by omega]
      simp only [idx_nat, ho, hp, bnd_eq]
      rcases hlt with h | ⟨h, h'⟩
      · rw [bif_neg' (by omega), show (o.A == p.A) = false from beq_eq_false_iff_ne.2 (by omega), cond_false]
        exact hno
      · rw [bif_neg' (by omega), show (o.A == p.A) = true from beq_iff_eq.2 h, cond_true, decide_eq_false (by omega)]
        exact hno
    · rw [bif_neg' (by omega)]
      exact hno
  | k + 1, N + 1, j, f, hk, hj, hN, hf => by
    obtain ⟨y, hy⟩ := get_lt (l := m) (i := j) (by clear hf; omega)
    have hj1 : (j : Int) < m.length := by clear hf; omega
    have ih := fun f' h => mir6 F hd l m hm i p hp hi hs k N (j + 1) f' (by clear hf; omega) (by clear hf; omega) (by clear hf; omega) h
    rw [law08_SearchMirror_6, bif_pos' hj1]
    cases f with
    | true =>
      rw [cond_true]
      unfold law08_SearchMirror_7
      rw [up (by omega)]
      exact ih true (.inl rfl)
    | false =>
      rw [cond_false]
      simp only [idx_nat, hy, hp, bnd_eq]
      unfold law08_SearchMirror_7
      rw [up (by clear hf; omega)]
      refine ih _ ?_
      rcases hf with h | ⟨q, h1, h2⟩
      · cases h
      · by_cases hq : q = j
        · subst hq
          rw [hy] at h2
          obtain rfl := Option.some.inj h2
          exact .inl (by simp)
        · exact .inr ⟨q, by omega, h2⟩
theorem mir5 (F : Nat) (hF : 65536 < F) (hw : works F = some true) (l m : List S_api_Pair) (hl : l.length ≤ 65536) (hm : m.length ≤ 65536) (hs : l.Pairwise lex) (hsw : ∀ p ∈ l, (⟨p.B, p.A, p.Loud⟩ : S_api_Pair) ∈ m) : ∀ (k N i : Nat), k = l.length - i → i ≤ l.length → k < N →
    law08_SearchMirror_5 F N i l m = some true
  | k, 0, i, _, _, h => by omega
  | 0, N + 1, i, hk, hi, _ => by
    rw [law08_SearchMirror_5, bif_neg' (by omega : ¬ ((i : Int) < l.length)), hw]
    rfl
  | k + 1, N + 1, i, hk, hi, hN => by
    obtain ⟨p, hp⟩ := get_lt (l := l) (i := i) (by omega)
    obtain ⟨q, hq, hqe⟩ := List.getElem_of_mem (hsw p (List.mem_of_getElem? hp))
    rw [law08_SearchMirror_5, bif_pos' (by omega : ((i : Int) < l.length))]
    have := mir6 F (law08_SearchMirror_5 F N) l m hm i p hp (by omega) hs m.length F 0 false rfl (Nat.zero_le _) (by omega) (.inr ⟨q, Nat.zero_le _, by rw [List.getElem?_eq_getElem hq, hqe]⟩)
    refine this.trans ?_
    exact mir5 F hF hw l m hl hm hs hsw k N (i + 1) (by omega) (by omega) (by omega)
theorem law_eq (F : Nat) (a b : List S_api_Trigger) (c : S_ringdownlaw08_Clock) (ha : a.length ≤ 9223372036854775807) (hb : b.length ≤ 9223372036854775807) (hFa : a.length + 70000 < F) (hFb : b.length + 70000 < F) (hw : works F = some true) : law08_SearchMirror F a b c = some true := by
  unfold law08_SearchMirror
  rw [Coincide_eq F a b _ _ (by omega) ha hb (by omega) (by omega), bnd_eq, Coincide_eq F b a _ _ (by omega) hb ha (by omega) (by omega), bnd_eq]
  simp only [chkE_comm _ b a]
  cases e : (chkE ⟨c.Live, c.Window, c.Live⟩ [a, b] == 0) with
  | false =>
    simp only [Bool.not_false, cond_true, cond_false, law08_SearchMirror_1, beq_self_eq_true, law08_SearchMirror_2, law08_SearchMirror_3, law08_SearchMirror_4, hw, bnd_eq, List.length_nil, Int.natCast_zero]
  | true =>
    have e' := e
    rw [beq_iff_eq] at e'
    obtain ⟨h1, h2, h3⟩ := chkE_0.1 e'
    simp only [List.all_cons, List.all_nil, Bool.and_true, Bool.and_eq_true] at h1
    have hla := okT_len h1.1
    have hlb := okT_len h1.2
    simp only [Bool.not_true, cond_true, cond_false, law08_SearchMirror_1, prs_swap_len ⟨c.Live, c.Window, c.Live⟩ a b 0 0, beq_self_eq_true]
    exact mir5 F (by omega) hw _ _ (prs_len2 hla hlb) (prs_len2 hlb hla) (prs_sorted _ b a 0) (fun p hp => prs_swap hp) _ F 0 rfl (Nat.zero_le _) (by have := prs_len2 (c := ⟨c.Live, c.Window, c.Live⟩) hla hlb; omega)
end Go.Ev.SearchMirror
