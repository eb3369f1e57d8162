/- What glitch's inverse comes to; two lists that are compared. -/
import Derived.Test.YtdcgepenffjdcaaGreatDoorGlitchTransformsMath2
namespace Go.Ev.GlitchTransforms
open Go Go.Ev Go.Proofs
set_option linter.unusedVariables false
theorem in3 (F : Nat) (hd : Int → List Int → Bool → List Int → Option (List Int × Bool)) (c s d : List Int) (m : Nat) (hs : s.length = m) (hc : 2 * m ≤ c.length) (hd0 : d = (c.drop m).take m) (hwc : Wi 1073741824 c) (hws : Wi 1073741824 s) (hm : m ≤ 1048576) :
    ∀ (k N i : Nat) (fl : Bool) (x : List Int), k = m - i → i ≤ m → k < N → 2 * m ≤ x.length → (∀ t, t < 2 * i → x[t]? = (U s d)[t]?) → glitch_inverse_3 F hd N m m i m c fl x s = hd (w64 (m * 2)) c (fl && E (s.drop i) (d.drop i)) (U s d ++ x.drop (2 * m))
  | k, 0, i, fl, x, _, _, h, _, _ => by omega
  | 0, N + 1, i, fl, x, hk, hi, _, hl, hinv => by
    have him : i = m := by omega
    subst him
    have hdl : d.length = i := by rw [hd0]; simp; omega
    rw [glitch_inverse_3, bif_neg' (by omega : ¬ ((i : Int) < i))]
    have hU : (U s d).length = 2 * i := by rw [U_len _ _ (by omega), hs]
    congr 1
    · rw [List.drop_of_length_le (by omega)]
      simp [E]
    · apply List.ext_getElem?
      intro t
      by_cases h1 : t < 2 * i
      · rw [List.getElem?_append_left (by omega)]
        exact hinv t h1
      · rw [List.getElem?_append_right (by omega), List.getElem?_drop]
        congr 1
        omega
  | k + 1, N + 1, i, fl, x, hk, hi, hN, hl, hinv => by
    have hlt : i < m := by omega
    have hdl : d.length = m := by rw [hd0]; simp; omega
    obtain ⟨a, ha⟩ := get_lt (l := s) (i := i) (by omega)
    obtain ⟨b, hb⟩ := get_lt (l := d) (i := i) (by omega)
    have hcb : c[m + i]? = some b := by
      rw [hd0, List.getElem?_take_of_lt hlt, List.getElem?_drop] at hb
      exact hb
    have hab := hws a (List.mem_of_getElem? ha)
    have hbb := hwc b (List.mem_of_getElem? hcb)
    obtain ⟨hu1, hu2⟩ := U_get s d i ha hb
    have e1 : w64 ((2 : Int) * i) = ((2 * i : Nat) : Int) := by rw [w64_id (by omega) (by omega)]; simp
    have e2 : w64 (w64 ((2 : Int) * i) + 1) = ((2 * i + 1 : Nat) : Int) := by rw [e1, w64_id (by omega) (by omega)]; simp
    have e3 : w64 ((m : Int) + i) = ((m + i : Nat) : Int) := by rw [w64_id (by omega) (by omega)]; simp
    have e4 : w64 ((i : Int) + 1) = ((i + 1 : Nat) : Int) := by rw [w64_id (by omega) (by omega)]; simp
    have t1 := t2 (a + b)
    have t3 := t2 (a - b)
    have f1 : w64 (a + b) = a + b := w64_id (by omega) (by omega)
    have f2 : w64 (a - b) = a - b := w64_id (by omega) (by omega)
    have f3 : w64 (Int.tdiv (a + b) 2) = Int.tdiv (a + b) 2 := w64_id (by omega) (by omega)
    have f4 : w64 (Int.tdiv (a - b) 2) = Int.tdiv (a - b) 2 := w64_id (by omega) (by omega)
    have step : ∀ fl', glitch_inverse_4 F (glitch_inverse_3 F hd N) m i (a + b) (a - b) m i fl' m c fl x s = glitch_inverse_3 F hd N m m ((i + 1 : Nat) : Int) m c fl' ((x.set (2 * i) (Int.tdiv (a + b) 2)).set (2 * i + 1) (Int.tdiv (a - b) 2)) s := by
      intro fl'
      unfold glitch_inverse_4
      rw [inn_at (i := 2 * i) (by omega) e1, bnd_eq, upd_at (by omega), bnd_eq, inn_at (i := 2 * i + 1) (by simp; omega) e2, bnd_eq, upd_at (by simp; omega), bnd_eq, e4, f3, f4]
    have ih : ∀ fl', glitch_inverse_3 F hd N m m ((i + 1 : Nat) : Int) m c fl' ((x.set (2 * i) (Int.tdiv (a + b) 2)).set (2 * i + 1) (Int.tdiv (a - b) 2)) s = hd (w64 (m * 2)) c (fl' && E (s.drop (i + 1)) (d.drop (i + 1))) (U s d ++ x.drop (2 * m)) := by
      intro fl'
      rw [in3 F hd c s d m hs hc hd0 hwc hws hm k N (i + 1) fl' _ (by omega) (by omega) (by omega) (by simp; omega) ?_]
      · rw [List.drop_set_of_lt (by omega), List.drop_set_of_lt (by omega)]
      · intro t ht
        simp only [List.getElem?_set, List.length_set]
        by_cases h1 : t = 2 * i
        · subst h1
          rw [if_neg (by omega), if_pos rfl, if_pos (by omega)]
          exact hu1.symm
        · by_cases h2 : t = 2 * i + 1
          · subst h2
            rw [if_pos rfl, if_pos (by omega)]
            exact hu2.symm
          · rw [if_neg (by omega), if_neg (by omega)]
            exact hinv t (by omega)
    rw [glitch_inverse_3, bif_pos' (by omega : ((i : Int) < m)), idx_at ha rfl, idx_at hcb e3, bnd_eq, bnd_eq, bnd_eq, bnd_eq, f1, f2, E_drop s d i ha hb]
    cases fl with
    | true =>
      simp only [cond_true]
      rw [step, ih]
      simp
    | false =>
      simp only [cond_false]
      rw [step, ih]
      simp
theorem in2 (F : Nat) (n : Nat) (c : List Int) (hn : n ≤ 10) (hc : c.length = 2 ^ n) (hw : Wi 1073741824 c) (hF : 1100 < F) : ∀ (k N j : Nat), k = n - j → j ≤ n → k < N →
    glitch_inverse_2 F N ((2 ^ j : Nat) : Int) c (W j (c.take (2 ^ j))) (I j (c.take (2 ^ j)) ++ c.drop (2 ^ j)) = some (I n c, W n c && win 1048576 (I n c))
  | k, 0, j, _, _, h => by omega
  | 0, N + 1, j, hk, hj, _ => by
    have hjn : j = n := by omega
    subst hjn
    have hpow : (2 : Nat) ^ j ≤ 2 ^ 10 := Nat.pow_le_pow_right (by omega) (by omega)
    have hI := I_len j c hc
    have htk : c.take (2 ^ j) = c := List.take_of_length_le (by omega)
    have hdr : c.drop (2 ^ j) = [] := List.drop_of_length_le (by omega)
    rw [glitch_inverse_2, bif_neg' (by omega : ¬ (((2 ^ j : Nat) : Int) < c.length)), htk, hdr, List.append_nil, areFrom_eq F 1048576 (by omega) (I j c) (by omega) (by omega), bnd_eq]
    unfold glitch_inverse_5
    cases W j c <;> rfl
  | k + 1, N + 1, j, hk, hj, hN => by
    have hpow : (2 : Nat) ^ j ≤ 2 ^ 10 := Nat.pow_le_pow_right (by omega) (by omega)
    have hpos : 1 ≤ (2 : Nat) ^ j := Nat.one_le_two_pow
    have hlt : (2 : Nat) ^ (j + 1) ≤ 2 ^ n := Nat.pow_le_pow_right (by omega) (by omega)
    have ih := in2 F n c hn hc hw hF k N (j + 1) (by omega) (by omega) (by omega)
    rw [I, W, List.take_take, List.drop_take] at ih
    rw [Nat.pow_succ] at hlt
    have em : min (2 ^ j) (2 ^ (j + 1)) = (2 : Nat) ^ j := by rw [Nat.pow_succ]; omega
    have ed : 2 ^ (j + 1) - 2 ^ j = (2 : Nat) ^ j := by rw [Nat.pow_succ]; omega
    have e2 : (2 : Nat) ^ (j + 1) = 2 * 2 ^ j := by rw [Nat.pow_succ]; omega
    rw [em, ed, e2] at ih
    have htl : (c.take (2 ^ j)).length = 2 ^ j := by simp; omega
    have hIl := I_len j _ htl
    have hwI : Wi 1073741824 (I j (c.take (2 ^ j))) := Wi_I fun a ha => hw a (List.mem_of_mem_take ha)
    generalize hM : (2 : Nat) ^ j = m at *
    generalize hs : I j (c.take m) = s at *
    have htk : (s ++ c.drop m).take m = s := by rw [← hIl]; exact List.take_left
    rw [glitch_inverse_2, bif_pos' (by omega : ((m : Int) < c.length)), sub0 _ m (by omega) (by simp; omega) rfl, bnd_eq, htk, clone_eq F s (by omega), bnd_eq]
    have h3 := in3 F (glitch_inverse_2 F N) c s ((c.drop m).take m) m hIl (by omega) rfl hw hwI (by omega) m F 0 (W j (c.take m)) (s ++ c.drop m) (by omega) (by omega) (by omega) (by simp; omega) (fun t ht => by omega)
    have h4 : glitch_inverse_3 F (glitch_inverse_2 F N) F m m 0 m c (W j (c.take m)) (s ++ c.drop m) s = glitch_inverse_2 F N (w64 (m * 2)) c (W j (c.take m) && E s ((c.drop m).take m)) (U s ((c.drop m).take m) ++ (s ++ c.drop m).drop (2 * m)) := h3
    have hdr : (s ++ c.drop m).drop (2 * m) = c.drop (2 * m) := by
      rw [show 2 * m = s.length + m by omega, List.drop_length_add_append, List.drop_drop]
      congr 1
      omega
    have e5 : w64 ((m : Int) * 2) = ((2 * m : Nat) : Int) := by rw [w64_id (by omega) (by omega)]; omega
    rw [h4, hdr, e5]
    exact ih
def sigc (c : List Int) : Bool := isPow c.length && win 1073741824 c
theorem inverse_eq (F : Nat) (c : List Int) (hl : c.length ≤ 9223372036854775807) (hF : c.length + 1100 < F) : ∃ n, glitch_inverse F c = some (bif sigc c then (I n c, W n c && win 1048576 (I n c)) else ([], false)) ∧ (sigc c = true → n ≤ 10 ∧ c.length = 2 ^ n ∧ Wi 1073741824 c) := by
  unfold glitch_inverse glitch_inverse_1 sigc
  rw [isLength_eq F _ hl, bnd_eq, areFrom_eq F 1073741824 (by omega) c hl (by omega), bnd_eq]
  cases hp : isPow c.length with
  | false => exact ⟨0, rfl, fun h => by simp at h⟩
  | true =>
    cases hw : win 1073741824 c with
    | false => exact ⟨0, rfl, fun h => by simp at h⟩
    | true =>
      obtain ⟨n, hn, hc⟩ := isPow_k hp
      have hwi := win_iff.1 hw
      have hpow : (2 : Nat) ^ n ≤ 2 ^ 10 := Nat.pow_le_pow_right (by omega) (by omega)
      refine ⟨n, ?_, fun _ => ⟨hn, hc, hwi⟩⟩
      have h := in2 F n c hn hc hwi (by omega) n F 0 (by omega) (by omega) (by omega)
      have e : I 0 (c.take (2 ^ 0)) ++ c.drop (2 ^ 0) = c := by rw [I]; exact List.take_append_drop _ _
      rw [e] at h
      rw [clone_eq F c (by omega)]
      exact h
theorem Inverse_eq (F : Nat) (c : List Int) (hl : c.length ≤ 9223372036854775807) (hF : c.length + 1100 < F) : ∃ n, glitch_Inverse F c = some (bif sigc c && (W n c && win 1048576 (I n c)) then (I n c, 0) else ([], 61)) ∧ (sigc c = true → n ≤ 10 ∧ c.length = 2 ^ n ∧ Wi 1073741824 c) := by
  obtain ⟨n, h1, h2⟩ := inverse_eq F c hl hF
  refine ⟨n, ?_, h2⟩
  unfold glitch_Inverse
  rw [h1, bnd_eq]
  cases sigc c with
  | false => rfl
  | true =>
    simp only [cond_true, Bool.true_and]
    cases (W n c && win 1048576 (I n c)) <;> rfl
theorem same1 (F : Nat) (a b : List Int) (hab : a.length = b.length) (hl : a.length ≤ 9223372036854775807) : ∀ (k N i : Nat), k = a.length - i → i ≤ a.length → k < N → ref00_SameInts_1 F N a b i = some (decide (a.drop i = b.drop i))
  | k, 0, i, _, _, h => by omega
  | 0, N + 1, i, hk, hi, _ => by
    rw [ref00_SameInts_1, bif_neg' (by omega : ¬ ((i : Int) < a.length)), List.drop_of_length_le (by omega), List.drop_of_length_le (by omega)]
    simp
  | k + 1, N + 1, i, hk, hi, hN => by
    have hlt : i < a.length := by omega
    obtain ⟨x, hx⟩ := get_lt hlt
    obtain ⟨y, hy⟩ := get_lt (l := b) (i := i) (by omega)
    have e : w64 ((i : Int) + 1) = ((i + 1 : Nat) : Int) := by rw [w64_id (by omega) (by omega)]; simp
    have ih := same1 F a b hab hl k N (i + 1) (by omega) (by omega) (by omega)
    rw [ref00_SameInts_1, bif_pos' (by omega : ((i : Int) < a.length)), idx_nat, hx, bnd_eq, idx_nat, hy, bnd_eq, e, ih, drop_get hx, drop_get hy]
    by_cases hxy : x = y
    · subst hxy
      simp
    · have hb : (x == y) = false := by rw [beq_eq_false_iff_ne]; exact hxy
      simp [hb, hxy]
theorem same_eq (F : Nat) (a b : List Int) (hl : a.length ≤ 9223372036854775807) (hF : a.length < F) : ref00_SameInts F a b = some (decide (a = b)) := by
  unfold ref00_SameInts
  by_cases h : a.length = b.length
  · have h1 := same1 F a b h hl a.length F 0 (by omega) (by omega) hF
    simp only [List.drop_zero] at h1
    have h2 : ((a.length : Int) == (b.length : Int)) = true := by rw [beq_iff_eq]; omega
    have h3 : ref00_SameInts_1 F F a b 0 = some (decide (a = b)) := h1
    rw [h2, h3]
    rfl
  · have h2 : ((a.length : Int) == (b.length : Int)) = false := by rw [beq_eq_false_iff_ne]; omega
    have h3 : a ≠ b := fun e => h (by rw [e])
    rw [h2]
    simp [h3]
end Go.Ev.GlitchTransforms
