/- The loudest coincidence: what the program says. -/
import Derived.Test.YtmdeiglnjimlnaaSearchVetoedMath5
namespace Go.Ev.SearchVetoed
open Go Go.Ev Go.Proofs
set_option linter.unusedVariables false
def louF (m : Int) (l : List S_api_Pair) : Int := l.foldl (fun m p => max m p.Loud) m
theorem prs_len (c : S_search_clock) (b : List S_api_Trigger) : ∀ (l : List S_api_Trigger) (i : Nat), (prs c b i l).length ≤ l.length * b.length
  | [], _ => by simp [prs]
  | x :: r, i => by
    have h1 := prs_len c b r (i + 1)
    have h2 := rowP_len c i x b 0
    rw [prs, List.length_append, List.length_cons, Nat.add_mul, Nat.one_mul]
    omega
theorem prs_len2 {c : S_search_clock} {a b : List S_api_Trigger} (ha : a.length ≤ 256) (hb : b.length ≤ 256) : (prs c b 0 a).length ≤ 65536 :=
  Nat.le_trans (prs_len c b a 0) (Nat.mul_le_mul ha hb)
theorem lou2 (F : Nat) (hd : (List S_api_Trigger) → Int → Int → Int → Int → (List S_api_Trigger) → (List S_api_Trigger) → S_search_clock → Option (Int)) (a b : List S_api_Trigger) (c : S_search_clock) (x : S_api_Trigger) (i : Nat) (v6 : Int)
    (hi : i ≤ 256) (hb : b.length ≤ 256) (hx : okA x) (hB : ∀ y ∈ b, okA y) (hc : 0 ≤ c.live ∧ c.live ≤ 1073741824) : ∀ (k N j : Nat) (m : Int), k = b.length - j → j ≤ b.length → k < N →
    search_clock_loudest_2 F hd N i a a.length i b b.length j v6 m a b c x = hd a a.length (w64 ((i : Int) + 1)) v6 (louF m (rowP c i x j (b.drop j))) a b c
  | k, 0, j, m, _, _, h => by omega
  | 0, N + 1, j, m, hk, hj, _ => by
    rw [search_clock_loudest_2, bif_neg' (by omega : ¬ ((j : Int) < b.length)), List.drop_of_length_le (by omega), rowP]
    rfl
  | k + 1, N + 1, j, m, hk, hj, hN => by
    obtain ⟨y, hy⟩ := get_lt (l := b) (i := j) (by omega)
    have hY := hB y (List.mem_of_getElem? hy)
    have hx' := hx
    obtain ⟨x1, x2, x3, x4, _⟩ := hx'
    obtain ⟨y1, y2, y3, y4, _⟩ := hY
    have ih := fun m' => lou2 F hd a b c x i v6 hi hb hx hB hc k N (j + 1) m' (by omega) (by omega) (by omega)
    rw [search_clock_loudest_2, bif_pos' (by omega : ((j : Int) < b.length)), idx_nat, hy, bnd_eq, drop_get hy, rowP, isOne]
    have hno : search_clock_loudest_3 F (search_clock_loudest_2 F hd N) i j false a a.length i b b.length j v6 m a b c x y = hd a a.length (w64 ((i : Int) + 1)) v6 (louF m (rowP c i x (j + 1) (b.drop (j + 1)))) a b c := by
      unfold search_clock_loudest_3 search_clock_loudest_4
      rw [cond_false, cond_false, up (by omega)]
      exact ih m
    cases e1 : (x.Template == y.Template) with
    | false =>
      simp only [cond_false, Bool.false_and]
      exact hno
    | true =>
      simp only [cond_true, Bool.true_and]
      rw [dist_eq F c _ _ ⟨x1, by omega⟩ ⟨y1, by omega⟩ hc, bnd_eq]
      cases e2 : decide (dist c.live x.Time y.Time ≤ c.window) with
      | false =>
        simp only [cond_false]
        exact hno
      | true =>
        unfold search_clock_loudest_3 search_clock_loudest_4
        rw [cond_true, Bool.not_true, cond_false, up (by omega), ih _, w64_id (n := x.Loud + y.Loud) (by omega) (by omega)]
        rfl
theorem lou1 (F : Nat) (hF : 256 < F) (a b : List S_api_Trigger) (c : S_search_clock) (v6 : Int) (ha : a.length ≤ 256) (hb : b.length ≤ 256) (hA : ∀ y ∈ a, okA y) (hB : ∀ y ∈ b, okA y) (hc : 0 ≤ c.live ∧ c.live ≤ 1073741824) : ∀ (k N i : Nat) (m : Int), k = a.length - i → i ≤ a.length → k < N →
    search_clock_loudest_1 F N a a.length i v6 m a b c = some (louF m (prs c b i (a.drop i)))
  | k, 0, i, m, _, _, h => by omega
  | 0, N + 1, i, m, hk, hi, _ => by
    rw [search_clock_loudest_1, bif_neg' (by omega : ¬ ((i : Int) < a.length)), List.drop_of_length_le (by omega), prs]
    rfl
  | k + 1, N + 1, i, m, hk, hi, hN => by
    obtain ⟨x, hx⟩ := get_lt (l := a) (i := i) (by omega)
    rw [search_clock_loudest_1, bif_pos' (by omega : ((i : Int) < a.length)), idx_nat, hx, bnd_eq, drop_get hx, prs]
    have := lou2 F (search_clock_loudest_1 F N) a b c x i v6 (by omega) hb (hA x (List.mem_of_getElem? hx)) hB hc b.length F 0 m rfl (Nat.zero_le _) (Nat.lt_of_le_of_lt hb hF)
    rw [List.drop_zero] at this
    refine this.trans ?_
    rw [up (by omega), lou1 F hF a b c v6 ha hb hA hB hc k N (i + 1) _ (by omega) (by omega) (by omega)]
    unfold louF
    rw [List.foldl_append]
theorem loudest_eq (F : Nat) (hF : 256 < F) (a b : List S_api_Trigger) (c : S_search_clock) (ha : okT a = true) (hb : okT b = true) (hc : 0 ≤ c.live ∧ c.live ≤ 1073741824) : search_clock_loudest F c a b = some (louF (-1) (prs c b 0 a)) := by
  unfold search_clock_loudest
  exact lou1 F hF a b c 0 (okT_len ha) (okT_len hb) (okT_ok ha) (okT_ok hb) hc a.length F 0 (-1) rfl (Nat.zero_le _) (Nat.lt_of_le_of_lt (okT_len ha) hF)
theorem Loudest_eq (F : Nat) (a b : List S_api_Trigger) (T w : Int) (hF0 : 256 < F) (ha : a.length ≤ 9223372036854775807) (hb : b.length ≤ 9223372036854775807) (hFa : a.length < F) (hFb : b.length < F) :
    search_Loudest F a b T w = some (bif chkE ⟨T, w, T⟩ [a, b] == 0 then louF (-1) (prs ⟨T, w, T⟩ b 0 a) else 0, chkE ⟨T, w, T⟩ [a, b]) := by
  unfold search_Loudest
  rw [check_eq F ⟨T, w, T⟩ [a, b] hF0 (by simp) (by simp; omega) (by simp; omega), bnd_eq]
  show (bif !(chkE ⟨T, w, T⟩ [a, b] == 0) then some (0, chkE ⟨T, w, T⟩ [a, b]) else _) = _
  cases e : (chkE ⟨T, w, T⟩ [a, b] == 0) with
  | false => rfl
  | true =>
    rw [beq_iff_eq] at e
    obtain ⟨h1, h2, h3⟩ := chkE_0.1 e
    simp only [List.all_cons, List.all_nil, Bool.and_true, Bool.and_eq_true] at h1
    have hl := okC_live h2
    rw [e, Bool.not_true, cond_false, loudest_eq F hF0 a b ⟨T, w, T⟩ h1.1 h1.2 ⟨by omega, by omega⟩]
    rfl
end Go.Ev.SearchVetoed
