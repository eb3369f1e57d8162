/- Candidates: what the program yields. -/
import Derived.Test.YtgaofnakcccbkaaSearchAlarmMath11
namespace Go.Ev.SearchAlarm
open Go Go.Ev Go.Proofs
set_option linter.unusedVariables false
def chF (S : List Int) (x : Int) : S_api_Chance := ⟨max ((cnt x S : Nat) : Int) 1, S.length⟩
def keepB (lim : Int) (S : List Int) (p : S_api_Pair) : Bool := decide ((chF S p.Loud).N ≤ lim)
def candF (lim : Int) (S : List Int) (l : List S_api_Pair) : List S_api_Candidate := (l.filter (keepB lim S)).map fun p => ⟨p, chF S p.Loud⟩
theorem candF_nil (lim : Int) (S : List Int) : candF lim S [] = [] := rfl
theorem candF_cons (lim : Int) (S : List Int) (p : S_api_Pair) (l : List S_api_Pair) : candF lim S (p :: l) = bif keepB lim S p then ⟨p, chF S p.Loud⟩ :: candF lim S l else candF lim S l := by
  unfold candF
  rw [List.filter_cons]
  cases keepB lim S p <;> rfl
theorem candF_app (lim : Int) (S : List Int) (l l' : List S_api_Pair) : candF lim S (l ++ l') = candF lim S l ++ candF lim S l' := by
  unfold candF
  rw [List.filter_append, List.map_append]
theorem candF_len (lim : Int) (S : List Int) (l : List S_api_Pair) : (candF lim S l).length ≤ l.length := by
  unfold candF
  rw [List.length_map]
  exact List.length_filter_le _ _
theorem cand2 (F : Nat) (hd : (List S_api_Trigger) → Int → Int → Int → S_search_clock → (List S_api_Trigger) → (List S_api_Trigger) → (List S_api_Trigger) → (List S_api_Trigger) → S_search_clock → (List Int) → (List S_api_Candidate) → Option ((List S_api_Candidate) × Int)) (a b : List S_api_Trigger) (c : S_search_clock) (x : S_api_Trigger) (i : Nat) (lim : Int) (S : List Int) (hS : S.length ≤ 256) (hF : 256 < F)
    (hi : i ≤ 256) (hb : b.length ≤ 256) (hx : okA x) (hB : ∀ y ∈ b, okA y) (hc : 0 ≤ c.live ∧ c.live ≤ 1073741824) : ∀ (k N j : Nat) (acc : List S_api_Candidate), k = b.length - j → j ≤ b.length → k < N → acc.length ≤ i * 256 + j →
    search_Candidates_2 F hd N i a a.length i b b.length j lim c a b a b c x S acc = hd a a.length (w64 ((i : Int) + 1)) lim c a b a b c S (acc ++ candF lim S (rowP c i x j (b.drop j)))
  | k, 0, j, acc, _, _, h, _ => by omega
  | 0, N + 1, j, acc, hk, hj, _, _ => by
    rw [search_Candidates_2, bif_neg' (by omega : ¬ ((j : Int) < b.length)), List.drop_of_length_le (by omega), rowP, candF_nil, List.append_nil]
  | k + 1, N + 1, j, acc, hk, hj, hN, hacc => by
    obtain ⟨y, hy⟩ := get_lt (l := b) (i := j) (by omega)
    have hY := hB y (List.mem_of_getElem? hy)
    have hx' := hx
    obtain ⟨x1, x2, x3, x4, _⟩ := hx'
    obtain ⟨y1, y2, y3, y4, _⟩ := hY
    have ih := fun acc' h => cand2 F hd a b c x i lim S hS hF hi hb hx hB hc k N (j + 1) acc' (by omega) (by omega) (by omega) h
    rw [search_Candidates_2, bif_pos' (by omega : ((j : Int) < b.length)), idx_nat, hy, bnd_eq, drop_get hy, rowP, isOne]
    have hgo : ∀ acc', acc'.length ≤ i * 256 + (j + 1) → search_Candidates_5 F (search_Candidates_2 F hd N) i a a.length i b b.length j lim c a b a b c x S acc' = hd a a.length (w64 ((i : Int) + 1)) lim c a b a b c S (acc' ++ candF lim S (rowP c i x (j + 1) (b.drop (j + 1)))) := by
      intro acc' h
      unfold search_Candidates_5
      rw [up (by omega)]
      exact ih acc' h
    have hno : search_Candidates_3 F (search_Candidates_2 F hd N) i j false a a.length i b b.length j lim c a b a b c x y S acc = hd a a.length (w64 ((i : Int) + 1)) lim c a b a b c S (acc ++ candF lim S (rowP c i x (j + 1) (b.drop (j + 1)))) := by
      unfold search_Candidates_3
      rw [cond_false]
      exact hgo acc (by omega)
    cases e1 : (x.Template == y.Template) with
    | false =>
      simp only [cond_false, Bool.false_and]
      exact hno
    | true =>
      simp only [cond_true, Bool.true_and]
      rw [dist_eq F c _ _ ⟨x1, by omega⟩ ⟨y1, by omega⟩ hc, bnd_eq]
      cases e2 : decide (dist c.live x.Time y.Time ≤ c.window) with
      | false =>
        simp only [cond_false]
        exact hno
      | true =>
        unfold search_Candidates_3 search_Candidates_4
        simp only [cond_true]
        rw [w64_id (n := x.Loud + y.Loud) (by omega) (by omega), chance_eq F S _ (by omega) (by omega), bnd_eq, candF_cons]
        show (bif keepB lim S ⟨i, j, x.Loud + y.Loud⟩ then _ else _) = _
        cases e3 : keepB lim S ⟨i, j, x.Loud + y.Loud⟩ with
        | false =>
          simp only [cond_false]
          exact hgo acc (by omega)
        | true =>
          simp only [cond_true]
          rw [apd_ok (by simp; omega) (by omega), bnd_eq, hgo _ (by simp; omega), List.append_assoc]
          rfl
theorem cand1 (F : Nat) (hF : 256 < F) (a b : List S_api_Trigger) (c : S_search_clock) (lim : Int) (S : List Int) (hS : S.length ≤ 256) (ha : a.length ≤ 256) (hb : b.length ≤ 256) (hA : ∀ y ∈ a, okA y) (hB : ∀ y ∈ b, okA y) (hc : 0 ≤ c.live ∧ c.live ≤ 1073741824) : ∀ (k N i : Nat) (acc : List S_api_Candidate), k = a.length - i → i ≤ a.length → k < N → acc.length ≤ i * 256 →
    search_Candidates_1 F N a a.length i lim c a b a b c S acc = some (acc ++ candF lim S (prs c b i (a.drop i)), 0)
  | k, 0, i, acc, _, _, h, _ => by omega
  | 0, N + 1, i, acc, hk, hi, _, _ => by
    rw [search_Candidates_1, bif_neg' (by omega : ¬ ((i : Int) < a.length)), List.drop_of_length_le (by omega), prs, candF_nil, List.append_nil]
  | k + 1, N + 1, i, acc, hk, hi, hN, hacc => by
    obtain ⟨x, hx⟩ := get_lt (l := a) (i := i) (by omega)
    have hl := rowP_len c i x b 0
    have hl2 := candF_len lim S (rowP c i x 0 b)
    rw [search_Candidates_1, bif_pos' (by omega : ((i : Int) < a.length)), idx_nat, hx, bnd_eq, drop_get hx, prs, candF_app]
    have := cand2 F (search_Candidates_1 F N) a b c x i lim S hS hF (by omega) hb (hA x (List.mem_of_getElem? hx)) hB hc b.length F 0 acc rfl (Nat.zero_le _) (Nat.lt_of_le_of_lt hb hF) (Nat.le_trans hacc (Nat.le_add_right _ _))
    rw [List.drop_zero] at this
    refine this.trans ?_
    rw [up (by omega), cand1 F hF a b c lim S hS ha hb hA hB hc k N (i + 1) _ (by omega) (by omega) (by omega) (by rw [List.length_append]; omega), List.append_assoc]
def candR (c : S_search_clock) (a b : List S_api_Trigger) (lim : Int) : List S_api_Candidate × Int :=
  bif chkE c [a, b] == 0 then (bif inR 0 lim (cntS c) then (candF lim (stF c a b (cntS c) 0) (prs c b 0 a), 0) else ([], 8)) else ([], chkE c [a, b])
theorem Cand_eq (F : Nat) (a b : List S_api_Trigger) (T w s lim : Int) (hF0 : 256 < F) (ha : a.length ≤ 9223372036854775807) (hb : b.length ≤ 9223372036854775807) (hFa : a.length < F) (hFb : b.length < F) :
    search_Candidates F a b T w s lim = some (candR ⟨T, w, s⟩ a b lim) := by
  unfold search_Candidates candR
  rw [check_eq F ⟨T, w, s⟩ [a, b] hF0 (by simp) (by simp; omega) (by simp; omega), bnd_eq]
  show (bif !(chkE ⟨T, w, s⟩ [a, b] == 0) then some ([], chkE ⟨T, w, s⟩ [a, b]) else _) = _
  cases e : (chkE ⟨T, w, s⟩ [a, b] == 0) with
  | false => rfl
  | true =>
    rw [beq_iff_eq] at e
    obtain ⟨h1, h2, h3⟩ := chkE_0.1 e
    obtain ⟨t1, t2, t3, t4, t5, t6⟩ := okC_live h2
    obtain ⟨n0, n256, n1, _⟩ := cntS_ok h2
    simp only [List.all_cons, List.all_nil, Bool.and_true, Bool.and_eq_true] at h1
    have hsl := slides_eq F ⟨T, w, s⟩ t5 t6 t2
    rw [n0] at hsl
    rw [Bool.not_true, cond_false, cond_true, hsl, bnd_eq, isFrom_eq, bnd_eq]
    cases e2 : inR 0 lim (cntS ⟨T, w, s⟩) with
    | false => rfl
    | true =>
      rw [Bool.not_true, cond_false, cond_true, stat_eq F hF0 a b ⟨T, w, s⟩ h1.1 h1.2 h2, bnd_eq]
      have hl : (stF ⟨T, w, s⟩ a b (cntS ⟨T, w, s⟩) 0).length ≤ 256 := by rw [stF_len]; exact n256
      have := cand1 F hF0 a b ⟨T, w, s⟩ lim _ hl (okT_len h1.1) (okT_len h1.2) (okT_ok h1.1) (okT_ok h1.2) ⟨by omega, by omega⟩ a.length F 0 [] (by omega) (by omega) (by omega) (by simp)
      exact this
end Go.Ev.SearchAlarm
