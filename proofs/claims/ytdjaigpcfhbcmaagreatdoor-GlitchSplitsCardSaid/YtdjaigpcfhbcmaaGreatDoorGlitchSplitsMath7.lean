/- Parts of some tiles, and of the others, add up. -/
import Derived.Test.YtdjaigpcfhbcmaaGreatDoorGlitchSplitsMath6
namespace Go.Ev.GlitchSplits
open Go Go.Ev Go.Proofs
set_option linter.unusedVariables false
theorem Tiles_eq (F : Nat) (x : List Int) (hl : x.length ≤ 9223372036854775807) (hF : x.length + 1100 < F) {k : Nat} (hk : sig x = true → k ≤ 10 ∧ x.length = 2 ^ k ∧ Wi 1048576 x) : glitch_Tiles F x = some (bif sig x then (tl k 1 x, 0) else ([], 60)) := by
  unfold glitch_Tiles
  rw [isSignal_eq F x hl (by omega), bnd_eq]
  cases hs : sig x with
  | false => rfl
  | true =>
    obtain ⟨h1, h2, h3⟩ := hk hs
    have hpow : (2 : Nat) ^ k ≤ 2 ^ 10 := Nat.pow_le_pow_right (by omega) (by omega)
    have hT := T_len k x h2
    have e : w64 (Int.tdiv ((T k x).length : Int) 2) = ((2 ^ k / 2 : Nat) : Int) := by
      have h1 : Int.tdiv ((T k x).length : Int) 2 = (((T k x).length / 2 : Nat) : Int) := tdiv_nat _ 2
      rw [h1, w64_nat (by omega), hT]
    have h4 := ti1 F x k F x [] 0 [] h1 h2 (by omega) (by omega) (by omega) (by omega) (by simp; omega)
    rw [List.append_nil, List.nil_append] at h4
    simp only [Bool.not_true, cond_false, cond_true]
    rw [transform_eq F k x h1 h2 h3 (by omega), bnd_eq, e]
    exact h4
/-- The energies of tiles of n samples. -/
def ch (w : List Int) (i : Nat) : Bool := match w[i]? with
  | some x => Int.tmod x 2 == 0
  | none => false
def spl (w : List Int) : Nat → List S_api_Tile → List S_api_Tile × List S_api_Tile
  | _, [] => ([], [])
  | i, t :: l => bif ch w i then (t :: (spl w (i + 1) l).1, (spl w (i + 1) l).2) else ((spl w (i + 1) l).1, t :: (spl w (i + 1) l).2)
theorem spl_sub (w : List Int) : ∀ (l : List S_api_Tile) (i : Nat), List.Sublist (spl w i l).1 l ∧ List.Sublist (spl w i l).2 l
  | [], _ => ⟨.slnil, .slnil⟩
  | t :: l, i => by
    obtain ⟨h1, h2⟩ := spl_sub w l (i + 1)
    rw [spl]
    cases ch w i with
    | true => exact ⟨h1.cons_cons t, h2.cons t⟩
    | false => exact ⟨h1.cons t, h2.cons_cons t⟩
theorem spl_cS (w : List Int) (n j : Nat) : ∀ (l : List S_api_Tile) (i : Nat), cS n j (spl w i l).1 + cS n j (spl w i l).2 = cS n j l
  | [], _ => rfl
  | t :: l, i => by
    have h := spl_cS w n j l (i + 1)
    rw [spl]
    cases ch w i with
    | true => simp only [cond_true, cS]; omega
    | false => simp only [cond_false, cS]; omega
def splEnd (F : Nat) (x c : List Int) (A B : List S_api_Tile) : Option Bool :=
  bnd (glitch_Part F x A) fun r52 => bnd (glitch_Part F x B) fun r57 => bif (!(r52.2 == (0 : Int))) then law06_GlitchSplits_6 F x true c r52.1 r57.1 else law06_GlitchSplits_6 F x (!(r57.2 == (0 : Int))) c r52.1 r57.1
theorem sp3 (F : Nat) (x w c : List Int) (L : List S_api_Tile) (hL : L.length ≤ 2000) (hw : w.length ≤ 9223372036854775807) : ∀ (k N i : Nat) (A B : List S_api_Tile), k = L.length - i → i ≤ L.length → k < N → A.length ≤ i → B.length ≤ i →
    law06_GlitchSplits_3 F N x w i L c A B = splEnd F x c (A ++ (spl w i (L.drop i)).1) (B ++ (spl w i (L.drop i)).2)
  | k, 0, i, A, B, _, _, h, _, _ => by omega
  | 0, N + 1, i, A, B, hk, hi, _, _, _ => by
    rw [law06_GlitchSplits_3, bif_neg' (by omega : ¬ ((i : Int) < L.length)), List.drop_of_length_le (by omega : L.length ≤ i)]
    simp only [spl, List.append_nil]
    rfl
  | k + 1, N + 1, i, A, B, hk, hi, hN, hA, hB => by
    obtain ⟨t, ht⟩ := get_lt (l := L) (i := i) (by omega)
    have e : w64 ((i : Int) + 1) = ((i + 1 : Nat) : Int) := by rw [w64_id (by omega) (by omega)]; simp
    have key : ∀ v : Bool, v = ch w i → law06_GlitchSplits_4 F (law06_GlitchSplits_3 F N) x w i v L c A B = splEnd F x c (A ++ (spl w i (L.drop i)).1) (B ++ (spl w i (L.drop i)).2) := by
      intro v hv
      unfold law06_GlitchSplits_4 law06_GlitchSplits_5
      rw [drop_get ht, spl, ← hv]
      cases v with
      | true =>
        simp only [cond_true]
        rw [idx_nat, ht, bnd_eq, apd_eq (by simp; omega) (by simp; omega), bnd_eq, e, sp3 F x w c L hL hw k N (i + 1) _ _ (by omega) (by omega) (by omega) (by simp; omega) (by omega)]
        simp
      | false =>
        simp only [cond_false]
        rw [idx_nat, ht, bnd_eq, apd_eq (by simp; omega) (by simp; omega), bnd_eq, e, sp3 F x w c L hL hw k N (i + 1) _ _ (by omega) (by omega) (by omega) (by omega) (by simp; omega)]
        simp
    rw [law06_GlitchSplits_3, bif_pos' (by omega : ((i : Int) < L.length))]
    by_cases hiw : i < w.length
    · obtain ⟨y, hy⟩ := get_lt (l := w) hiw
      rw [bif_pos' (by omega : ((i : Int) < w.length)), idx_nat, hy, bnd_eq]
      exact key _ (by unfold ch; rw [hy])
    · rw [bif_neg' (by omega : ¬ ((i : Int) < w.length))]
      exact key _ (by unfold ch; rw [List.getElem?_eq_none (by omega)])
theorem upT_len (n : Nat) (p : List Int) (t : S_api_Tile) : (upT n p t).length = p.length := by unfold upT; exact addR_len _ _ _ _ _
theorem foldl_len (n : Nat) : ∀ (l : List S_api_Tile) (p : List Int), (l.foldl (upT n) p).length = p.length
  | [], _ => rfl
  | t :: l, p => by rw [List.foldl_cons, foldl_len n l, upT_len]
theorem sp9 (F : Nat) (x c a b : List Int) (n : Nat) (c0 : Int) (hx : x.length = n) (hn : n ≤ 1024) (hc : c[0]? = some c0) (hw : works F = some true) (h : ∀ (i : Nat) (v : Int), x[i]? = some v → ∃ p q : Int, a[i]? = some (w64 p) ∧ b[i]? = some (w64 q) ∧ p + q = (n : Int) * v - c0) : ∀ (k N i : Nat), k = n - i → i ≤ n → k < N →
    law06_GlitchSplits_9 F N x i c a b = some true
  | k, 0, i, _, _, h => by omega
  | 0, N + 1, i, hk, hi, _ => by
    rw [law06_GlitchSplits_9, bif_neg' (by omega : ¬ ((i : Int) < x.length)), hw, bnd_eq]
  | k + 1, N + 1, i, hk, hi, hN => by
    obtain ⟨v, hv⟩ := get_lt (l := x) (i := i) (by omega)
    obtain ⟨p, q, hp, hq, hpq⟩ := h i v hv
    have e : w64 ((i : Int) + 1) = ((i + 1 : Nat) : Int) := by rw [w64_id (by omega) (by omega)]; simp
    have e2 : (w64 (w64 p + w64 q) == w64 (w64 ((x.length : Int) * v) - c0)) = true := by
      rw [beq_iff_eq, w64_addL, w64_addR, hpq, hx]
      obtain ⟨r, hr⟩ := w64_ex ((n : Int) * v)
      exact w64_cong (p := -r) (by rw [hr]; omega)
    have hc' : idx c (0 : Int) = some c0 := hc
    rw [law06_GlitchSplits_9, bif_pos' (by omega : ((i : Int) < x.length)), idx_nat, hp, bnd_eq, idx_nat, hq, bnd_eq, idx_nat, hv, bnd_eq, hc', bnd_eq, e2, e]
    exact sp9 F x c a b n c0 hx hn hc hw h k N (i + 1) (by omega) (by omega) (by omega)
theorem law_eq (F : Nat) (x w : List Int) (hx : x.length ≤ 9223372036854775807) (hwl : w.length ≤ 9223372036854775807) (hF : x.length + 3200 < F) (hF2 : w.length + 1200 < F) (hw : works F = some true) : law06_GlitchSplits F x w = some true := by
  obtain ⟨k, h1, h2⟩ := Transform_eq F x hx (by omega)
  have hT := Tiles_eq F x hx (by omega) h2
  unfold law06_GlitchSplits
  rw [hT, bnd_eq]
  cases hs : sig x with
  | false =>
    show (bnd (works F) fun r12 => law06_GlitchSplits_1 F r12) = _
    rw [hw, bnd_eq]
    rfl
  | true =>
    obtain ⟨g1, g2, g3⟩ := h2 hs
    have hp := pow2_10 g1
    rw [hs] at h1
    simp only [cond_true] at h1 ⊢
    show (bnd (glitch_Transform F x) fun r16 => bif (!(r16.2 == (0 : Int))) then law06_GlitchSplits_2 F x w true (tl k 1 x) r16.1 else law06_GlitchSplits_2 F x w (!((r16.1.length : Int) == (x.length : Int))) (tl k 1 x) r16.1) = _
    rw [h1, bnd_eq]
    have t1 := T_len k x g2
    have c1 : (((T k x).length : Int) == (x.length : Int)) = true := by rw [t1, g2]; simp
    show law06_GlitchSplits_2 F x w (!(((T k x).length : Int) == (x.length : Int))) (tl k 1 x) (T k x) = _
    rw [c1]
    unfold law06_GlitchSplits_2
    simp only [Bool.not_true, cond_false]
    have hl := tl_len k 1 x g2
    have e3 := sp3 F x w (T k x) (tl k 1 x) (by omega) hwl (tl k 1 x).length F 0 [] [] (by omega) (by omega) (by omega) (by simp) (by simp)
    simp only [List.nil_append, List.drop_zero] at e3
    rw [show ((0 : Nat) : Int) = 0 from rfl] at e3
    rw [e3]
    obtain ⟨s1, s2⟩ := spl_sub w (tl k 1 x) 0
    have hsum := fun i => spl_cS w x.length i (tl k 1 x) 0
    generalize (spl w 0 (tl k 1 x)).1 = A at *
    generalize (spl w 0 (tl k 1 x)).2 = B at *
    have lA := s1.length_le
    have lB := s2.length_le
    have pA : glitch_Part F x A = some (A.foldl (upT x.length) (List.replicate x.length 0), 0) := by
      rw [Part_eq F x A hx (by omega) (by omega) (by omega) h2]
      unfold partR
      rw [hs, strip_sub s1]
      rfl
    have pB : glitch_Part F x B = some (B.foldl (upT x.length) (List.replicate x.length 0), 0) := by
      rw [Part_eq F x B hx (by omega) (by omega) (by omega) h2]
      unfold partR
      rw [hs, strip_sub s2]
      rfl
    unfold splEnd
    rw [pA, bnd_eq, pB, bnd_eq]
    have fA : (A.foldl (upT x.length) (List.replicate x.length 0)).length = x.length := by rw [foldl_len]; simp
    have fB : (B.foldl (upT x.length) (List.replicate x.length 0)).length = x.length := by rw [foldl_len]; simp
    have dA : (((A.foldl (upT x.length) (List.replicate x.length 0)).length : Int) == (x.length : Int)) = true := by rw [fA]; simp
    have dB : (((B.foldl (upT x.length) (List.replicate x.length 0)).length : Int) == (x.length : Int)) = true := by rw [fB]; simp
    show law06_GlitchSplits_6 F x false (T k x) _ _ = _
    unfold law06_GlitchSplits_6
    simp only [cond_false]
    rw [dA]
    unfold law06_GlitchSplits_7
    simp only [Bool.not_true, cond_false]
    rw [dB]
    unfold law06_GlitchSplits_8
    simp only [Bool.not_true, cond_false]
    obtain ⟨z, hz⟩ := get_lt (l := x) (i := 0) (by rw [g2]; exact Nat.two_pow_pos k)
    have hk0 : 0 < x.length := by rw [g2]; exact Nat.two_pow_pos k
    obtain ⟨c0, hc0, _⟩ := cS_tl k 0 x x.length 0 z g2 (by rw [g2]; simp) hk0 (by simpa using hz)
    refine sp9 F x (T k x) _ _ x.length c0 rfl (by omega) hc0 hw (fun i v hv => ?_) x.length F 0 (by omega) (by omega) (by omega)
    have hi : i < x.length := (List.getElem?_eq_some_iff.1 hv).1
    obtain ⟨c0', hc0', hS⟩ := cS_tl k 0 x x.length i v g2 (by rw [g2]; simp) hi (by simpa using hv)
    rw [hc0] at hc0'
    obtain rfl := Option.some.inj hc0'
    have hr : (List.replicate x.length (0 : Int))[i]? = some (w64 0) := by rw [List.getElem?_replicate, if_pos hi]; rfl
    refine ⟨_, _, fold_get x.length i A _ 0 hr, fold_get x.length i B _ 0 hr, ?_⟩
    have := hsum i
    simp only [Nat.pow_zero, Nat.div_one] at hS
    have e1 : ((0 + 1 : Nat) : Int) = 1 := rfl
    rw [e1] at hS
    omega
end Go.Ev.GlitchSplits
