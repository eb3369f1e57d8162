/- Coincidences: what the program yields. -/
import Derived.Test.YtmdeiglnjimlnaaSearchVetoedMath4
namespace Go.Ev.SearchVetoed
open Go Go.Ev Go.Proofs
set_option linter.unusedVariables false
def chkE (c : S_search_clock) (L : List (List S_api_Trigger)) : Int := bif L.all okT then (bif okC c && L.all (fit c.live) then 0 else 81) else 80
def okA (a : S_api_Trigger) : Prop := 0 ≤ a.Time ∧ a.Time ≤ 1073741823 ∧ 0 ≤ a.Loud ∧ a.Loud ≤ 1073741824 ∧ 0 ≤ a.Template ∧ a.Template ≤ 255
theorem trs_ok : ∀ {l : List S_api_Trigger} {last : Int}, trs last l = true → -1 ≤ last → ∀ a ∈ l, okA a
  | [], _, _, _, a, h => by cases h
  | b :: r, last, h, h1, a, ha => by
    rw [trs, Bool.and_eq_true, Bool.and_eq_true, Bool.and_eq_true] at h
    have g1 := inR_iff.1 h.1.1
    have g2 := inR_iff.1 h.1.2.1
    have g3 := inR_iff.1 h.1.2.2
    rcases List.mem_cons.1 ha with rfl | ha
    · exact ⟨by omega, g1.2, g2.1, g2.2, g3.1, g3.2⟩
    · exact trs_ok h.2 (by omega) a ha
theorem okT_len {l : List S_api_Trigger} (h : okT l = true) : l.length ≤ 256 := by
  rw [okT, Bool.and_eq_true, decide_eq_true_eq] at h
  exact h.1
theorem okT_ok {l : List S_api_Trigger} (h : okT l = true) : ∀ a ∈ l, okA a := by
  rw [okT, Bool.and_eq_true, decide_eq_true_eq] at h
  exact trs_ok h.2 (by omega)
theorem okC_live {c : S_search_clock} (h : okC c = true) : 1 ≤ c.live ∧ c.live ≤ 1073741824 ∧ 0 ≤ c.window ∧ c.window ≤ c.live - 1 ∧ 1 ≤ c.step ∧ c.step ≤ c.live := by
  rw [okC, Bool.and_eq_true, Bool.and_eq_true, Bool.and_eq_true] at h
  have g1 := inR_iff.1 h.1.1
  have g2 := inR_iff.1 h.1.2.1
  have g3 := inR_iff.1 h.1.2.2
  exact ⟨g1.1, g1.2, g2.1, g2.2, g3.1, g3.2⟩
theorem chkE_0 {c : S_search_clock} {L : List (List S_api_Trigger)} : chkE c L = 0 ↔ L.all okT = true ∧ okC c = true ∧ L.all (fit c.live) = true := by
  unfold chkE
  cases L.all okT <;> cases okC c <;> cases L.all (fit c.live) <;> simp
def dist (T s t : Int) : Int := min (max (s - t) (t - s)) (T - max (s - t) (t - s))
theorem dist_eq (F : Nat) (c : S_search_clock) (s t : Int) (h1 : 0 ≤ s ∧ s ≤ 1073741824) (h2 : 0 ≤ t ∧ t ≤ 1073741824) (h3 : 0 ≤ c.live ∧ c.live ≤ 1073741824) : search_clock_distance F c s t = some (dist c.live s t) := by
  unfold search_clock_distance dist
  rw [w64_id (n := s - t) (by omega) (by omega), w64_id (n := t - s) (by omega) (by omega), w64_id (n := c.live - _) (by omega) (by omega)]
def isOne (c : S_search_clock) (x y : S_api_Trigger) : Bool := x.Template == y.Template && decide (dist c.live x.Time y.Time ≤ c.window)
def rowP (c : S_search_clock) (i : Nat) (x : S_api_Trigger) : Nat → List S_api_Trigger → List S_api_Pair
  | _, [] => []
  | k, y :: r => bif isOne c x y then ⟨i, k, x.Loud + y.Loud⟩ :: rowP c i x (k + 1) r else rowP c i x (k + 1) r
def prs (c : S_search_clock) (b : List S_api_Trigger) : Nat → List S_api_Trigger → List S_api_Pair
  | _, [] => []
  | i, x :: r => rowP c i x 0 b ++ prs c b (i + 1) r
theorem rowP_len (c : S_search_clock) (i : Nat) (x : S_api_Trigger) : ∀ (l : List S_api_Trigger) (k : Nat), (rowP c i x k l).length ≤ l.length
  | [], _ => Nat.le_refl _
  | y :: r, k => by
    have := rowP_len c i x r (k + 1)
    rw [rowP]
    cases isOne c x y <;> simp <;> omega
theorem coin2 (F : Nat) (hd : (List S_api_Trigger) → Int → Int → (List S_api_Trigger) → (List S_api_Trigger) → S_search_clock → (List S_api_Pair) → Option ((List S_api_Pair) × Int)) (a b : List S_api_Trigger) (c : S_search_clock) (x : S_api_Trigger) (i : Nat)
    (hi : i ≤ 256) (hb : b.length ≤ 256) (hx : okA x) (hB : ∀ y ∈ b, okA y) (hc : 0 ≤ c.live ∧ c.live ≤ 1073741824) : ∀ (k N j : Nat) (acc : List S_api_Pair), k = b.length - j → j ≤ b.length → k < N → acc.length ≤ i * 256 + j →
    search_Coincide_2 F hd N i a a.length i b b.length j a b c x acc = hd a a.length (w64 ((i : Int) + 1)) a b c (acc ++ rowP c i x j (b.drop j))
  | k, 0, j, acc, _, _, h, _ => by omega
  | 0, N + 1, j, acc, hk, hj, _, _ => by
    rw [search_Coincide_2, bif_neg' (by omega : ¬ ((j : Int) < b.length)), List.drop_of_length_le (by omega), rowP, List.append_nil]
  | k + 1, N + 1, j, acc, hk, hj, hN, hacc => by
    obtain ⟨y, hy⟩ := get_lt (l := b) (i := j) (by omega)
    have hY := hB y (List.mem_of_getElem? hy)
    have hx' := hx
    obtain ⟨x1, x2, x3, x4, _⟩ := hx'
    obtain ⟨y1, y2, y3, y4, _⟩ := hY
    have ih := fun acc' h => coin2 F hd a b c x i hi hb hx hB hc k N (j + 1) acc' (by omega) (by omega) (by omega) h
    rw [search_Coincide_2, bif_pos' (by omega : ((j : Int) < b.length)), idx_nat, hy, bnd_eq, drop_get hy, rowP, isOne]
    have hno : search_Coincide_3 F (search_Coincide_2 F hd N) i j false a a.length i b b.length j a b c x y acc = hd a a.length (w64 ((i : Int) + 1)) a b c (acc ++ rowP c i x (j + 1) (b.drop (j + 1))) := by
      unfold search_Coincide_3 search_Coincide_4
      rw [cond_false, cond_false, up (by omega)]
      exact ih acc (by omega)
    cases e1 : (x.Template == y.Template) with
    | false =>
      simp only [cond_false, Bool.false_and]
      exact hno
    | true =>
      simp only [cond_true, Bool.true_and]
      rw [dist_eq F c _ _ ⟨x1, by omega⟩ ⟨y1, by omega⟩ hc, bnd_eq]
      cases e2 : decide (dist c.live x.Time y.Time ≤ c.window) with
      | false =>
        simp only [cond_false]
        exact hno
      | true =>
        unfold search_Coincide_3 search_Coincide_4
        rw [cond_true, apd_ok (by simp; omega) (by omega), bnd_eq, Bool.not_true, cond_false, up (by omega), ih _ (by simp; omega), w64_id (n := x.Loud + y.Loud) (by omega) (by omega), List.append_assoc]
        rfl
theorem coin1 (F : Nat) (hF : 256 < F) (a b : List S_api_Trigger) (c : S_search_clock) (ha : a.length ≤ 256) (hb : b.length ≤ 256) (hA : ∀ y ∈ a, okA y) (hB : ∀ y ∈ b, okA y) (hc : 0 ≤ c.live ∧ c.live ≤ 1073741824) : ∀ (k N i : Nat) (acc : List S_api_Pair), k = a.length - i → i ≤ a.length → k < N → acc.length ≤ i * 256 →
    search_Coincide_1 F N a a.length i a b c acc = some (acc ++ prs c b i (a.drop i), 0)
  | k, 0, i, acc, _, _, h, _ => by omega
  | 0, N + 1, i, acc, hk, hi, _, _ => by
    rw [search_Coincide_1, bif_neg' (by omega : ¬ ((i : Int) < a.length)), List.drop_of_length_le (by omega), prs, List.append_nil]
  | k + 1, N + 1, i, acc, hk, hi, hN, hacc => by
    obtain ⟨x, hx⟩ := get_lt (l := a) (i := i) (by omega)
    have hl := rowP_len c i x b 0
    rw [search_Coincide_1, bif_pos' (by omega : ((i : Int) < a.length)), idx_nat, hx, bnd_eq, drop_get hx, prs]
    have := coin2 F (search_Coincide_1 F N) a b c x i (by omega) hb (hA x (List.mem_of_getElem? hx)) hB hc b.length F 0 acc rfl (Nat.zero_le _) (Nat.lt_of_le_of_lt hb hF) (Nat.le_trans hacc (Nat.le_add_right _ _))
    rw [List.drop_zero] at this
    refine this.trans ?_
    rw [up (by omega), coin1 F hF a b c ha hb hA hB hc k N (i + 1) _ (by omega) (by omega) (by omega) (by rw [List.length_append]; omega), List.append_assoc]
theorem Coincide_eq (F : Nat) (a b : List S_api_Trigger) (T w : Int) (hF0 : 256 < F) (ha : a.length ≤ 9223372036854775807) (hb : b.length ≤ 9223372036854775807) (hFa : a.length < F) (hFb : b.length < F) :
    search_Coincide F a b T w = some (bif chkE ⟨T, w, T⟩ [a, b] == 0 then prs ⟨T, w, T⟩ b 0 a else [], chkE ⟨T, w, T⟩ [a, b]) := by
  unfold search_Coincide
  rw [check_eq F ⟨T, w, T⟩ [a, b] hF0 (by simp) (by simp; omega) (by simp; omega), bnd_eq]
  show (bif !(chkE ⟨T, w, T⟩ [a, b] == 0) then some ([], chkE ⟨T, w, T⟩ [a, b]) else _) = _
  cases e : (chkE ⟨T, w, T⟩ [a, b] == 0) with
  | false => rfl
  | true =>
    rw [beq_iff_eq] at e
    obtain ⟨h1, h2, h3⟩ := chkE_0.1 e
    simp only [List.all_cons, List.all_nil, Bool.and_true, Bool.and_eq_true] at h1
    have hl := okC_live h2
    have := coin1 F hF0 a b ⟨T, w, T⟩ (okT_len h1.1) (okT_len h1.2) (okT_ok h1.1) (okT_ok h1.2) ⟨by omega, by omega⟩ a.length F 0 [] (by omega) (by omega) (by omega) (by simp)
    rw [e]
    exact this
end Go.Ev.SearchVetoed
