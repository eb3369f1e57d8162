/- GlitchEnergies. -/
import Derived.Test.YtdcgepenffjdcaaGreatDoorGlitchEnergiesMath3
namespace Go.Ev.GlitchEnergies
open Go Go.Ev Go.Proofs
set_option linter.unusedVariables false
theorem In_eq (F : Nat) (n lo hi : Int) : ref00_In F n lo hi = some (decide (lo ≤ n) && decide (n ≤ hi)) := by
  unfold ref00_In ref00_In_1
  rcases btf (decide (lo ≤ n)) with h | h <;> simp [h]
theorem Tiles_eq (F : Nat) (x : List Int) (hl : x.length ≤ 9223372036854775807) (hF : x.length + 1100 < F) {k : Nat} (hk : sig x = true → k ≤ 10 ∧ x.length = 2 ^ k ∧ Wi 1048576 x) : glitch_Tiles F x = some (bif sig x then (tl k 1 x, 0) else ([], 60)) := by
  unfold glitch_Tiles
  rw [isSignal_eq F x hl (by omega), bnd_eq]
  cases hs : sig x with
  | false => rfl
  | true =>
    obtain ⟨h1, h2, h3⟩ := hk hs
    have hpow : (2 : Nat) ^ k ≤ 2 ^ 10 := Nat.pow_le_pow_right (by omega) (by omega)
    have hT := T_len k x h2
    have e : w64 (Int.tdiv ((T k x).length : Int) 2) = ((2 ^ k / 2 : Nat) : Int) := by
      have h1 : Int.tdiv ((T k x).length : Int) 2 = (((T k x).length / 2 : Nat) : Int) := tdiv_nat _ 2
      rw [h1, w64_nat (by omega), hT]
    have h4 := ti1 F x k F x [] 0 [] h1 h2 (by omega) (by omega) (by omega) (by omega) (by simp; omega)
    rw [List.append_nil, List.nil_append] at h4
    simp only [Bool.not_true, cond_false, cond_true]
    rw [transform_eq F k x h1 h2 h3 (by omega), bnd_eq, e]
    exact h4
/-- The energies of tiles of n samples. -/
def en (n : Nat) : List S_api_Tile → Int
  | [] => 0
  | t :: l => t.D * t.D * (Int.fdiv n (2 ^ t.Level.toNat)) + en n l
theorem en_app (n : Nat) : ∀ a b : List S_api_Tile, en n (a ++ b) = en n a + en n b
  | [], b => by simp [en]
  | t :: a, b => by simp only [List.cons_append, en, en_app n a b]; omega
theorem en_of (n : Nat) (lev : Nat) (w : Int) (hw : Int.fdiv n (2 ^ lev) = w) : ∀ (l : List Int) (i : Nat), en n (tilesOf lev i l) = sq l * w
  | [], _ => by simp [tilesOf, en, sq]
  | d :: l, i => by
    simp only [tilesOf, en, sq, en_of n lev w hw l, Int.toNat_natCast, hw]
    rw [Int.add_mul]
theorem fdiv_pow (a b : Nat) : Int.fdiv ((2 ^ (a + b) : Nat) : Int) (2 ^ b) = ((2 ^ a : Nat) : Int) := by
  have h1 : ((2 ^ b : Nat) : Int) = (2 : Int) ^ b := by simp
  rw [← h1, Int.fdiv_eq_ediv_of_nonneg _ (Int.natCast_nonneg _), Nat.pow_add]
  have hp : 0 < (2 : Nat) ^ b := Nat.two_pow_pos b
  rw [← Int.natCast_ediv, Nat.mul_div_cancel _ hp]
theorem en_tl : ∀ (k lev : Nat) (x : List Int) (n : Nat), x.length = 2 ^ k → n = 2 ^ (k + lev) → ∃ c0 : Int, (T k x)[0]? = some c0 ∧ c0 * c0 + en n (tl k (lev + 1) x) = ((2 ^ k : Nat) : Int) * sq x
  | 0, lev, x, n, hx, _ => by
    obtain ⟨a, rfl⟩ : ∃ a, x = [a] := by
      match x, hx with
      | [a], _ => exact ⟨a, rfl⟩
    exact ⟨a, rfl, by simp [tl, en, sq]⟩
  | k + 1, lev, x, n, hx, hn => by
    have hx2 : x.length = 2 * 2 ^ k := by rw [hx, Nat.pow_succ]; omega
    have hS := S_len _ x hx2
    obtain ⟨c0, h1, h2⟩ := en_tl k (lev + 1) (S x) n hS (by rw [hn]; congr 1; omega)
    have hT := T_len k _ hS
    have hpos : 0 < (2 : Nat) ^ k := Nat.two_pow_pos k
    refine ⟨c0, ?_, ?_⟩
    · rw [T, List.getElem?_append_left (by omega)]
      exact h1
    · have hfd : Int.fdiv (n : Int) (2 ^ (lev + 1)) = ((2 ^ k : Nat) : Int) := by
        rw [hn, show k + 1 + lev = k + (lev + 1) by omega]
        exact fdiv_pow k (lev + 1)
      have h3 := en_of n (lev + 1) _ hfd (D x) 0
      have h4 := sq_SD x (by omega)
      have hc : ((lev : Int) + 1) = ((lev + 1 : Nat) : Int) := by simp
      rw [tl, en_app, hc, h3]
      have hc2 : (((lev + 1 : Nat) : Int) + 1) = (((lev + 1 : Nat) : Int)) + 1 := rfl
      have h5 : ((2 ^ (k + 1) : Nat) : Int) = ((2 ^ k : Nat) : Int) * 2 := by rw [Nat.pow_succ]; simp
      rw [h5]
      generalize ((2 ^ k : Nat) : Int) = P at *
      generalize en n (tl k (((lev + 1 : Nat) : Int) + 1) (S x)) = e at *
      grind
/-- All tiles have such levels. -/
def levOK (a b : Int) (l : List S_api_Tile) : Prop := ∀ t ∈ l, a ≤ t.Level ∧ t.Level ≤ b
theorem levOK_of (lev : Int) : ∀ (l : List Int) (i : Nat), levOK lev lev (tilesOf lev i l)
  | [], _ => fun t h => by simp [tilesOf] at h
  | d :: l, i => fun t h => by
    simp only [tilesOf, List.mem_cons] at h
    rcases h with rfl | h
    · simp
    · exact levOK_of lev l (i + 1) t h
theorem levOK_tl : ∀ (k : Nat) (lev : Int) (x : List Int), levOK lev (lev + k - 1) (tl k lev x)
  | 0, _, _ => fun t h => by simp [tl] at h
  | k + 1, lev, x => fun t h => by
    rw [tl] at h
    rcases List.mem_append.1 h with h | h
    · have := levOK_of lev _ _ t h
      omega
    · have := levOK_tl k (lev + 1) (S x) t h
      omega
theorem en5 (F : Nat) (x : List Int) (n : Int) (l : List S_api_Tile) (hw : works F = some true) (hl : l.length ≤ 4096) (hlev : levOK 1 10 l) : ∀ (k N i : Nat) (v : Int), k = l.length - i → i ≤ l.length → k < N →
    w64 (v + en x.length (l.drop i)) = n → v = w64 v → law06_GlitchEnergies_5 F N x n v i l = some true
  | k, 0, i, v, _, _, h, _, _ => by omega
  | 0, N + 1, i, v, hk, hi, _, he, hv => by
    rw [List.drop_of_length_le (by omega), en, Int.add_zero, ← hv] at he
    rw [law06_GlitchEnergies_5, bif_neg' (by omega : ¬ ((i : Int) < l.length)), he, hw]
    unfold law06_GlitchEnergies_6
    simp [bnd_eq]
  | k + 1, N + 1, i, v, hk, hi, hN, he, hv => by
    obtain ⟨t, ht⟩ := get_lt (l := l) (i := i) (by omega)
    have hL := hlev t (List.mem_of_getElem? ht)
    have e : w64 ((i : Int) + 1) = ((i + 1 : Nat) : Int) := by rw [w64_id (by omega) (by omega)]; simp
    obtain ⟨j, hj⟩ : ∃ j : Nat, t.Level = j := ⟨t.Level.toNat, by omega⟩
    have hmin : min j (IntKind.bits .i64) = j := by simp only [IntKind.bits]; omega
    have hsh : shn t.Level = some j := by rw [hj]; rfl
    rw [drop_get ht, en, hj, Int.toNat_natCast] at he
    have e1 : w64 (v + w64 (w64 (t.D * t.D) * Int.fdiv (x.length : Int) (2 ^ j))) = w64 (v + t.D * t.D * Int.fdiv (x.length : Int) (2 ^ j)) := by rw [w64_mulL, w64_addR]
    rw [law06_GlitchEnergies_5, bif_pos' (by omega : ((i : Int) < l.length)), idx_nat, ht, bnd_eq, In_eq, bnd_eq]
    simp only [show decide ((1 : Int) ≤ t.Level) = true by simp; omega, show decide (t.Level ≤ 10) = true by simp; omega, Bool.and_self, Bool.not_true, cond_false, bnd_eq, hsh, hmin, e, e1]
    refine en5 F x n l hw hl hlev k N (i + 1) _ (by omega) (by omega) (by omega) ?_ (w64_w _).symm
    rw [w64_addL, ← he]
    congr 1
    omega
theorem prod1 (F : Nat) (x : List Int) (hl : x.length ≤ 9223372036854775807) : ∀ (k N i : Nat) (v : Int), k = x.length - i → i ≤ x.length → k < N → ∃ s : Int, glitch_product_1 F N x x v x.length i = some s ∧ w64 s = w64 (v + sq (x.drop i))
  | k, 0, i, v, _, _, h => by omega
  | 0, N + 1, i, v, hk, hi, _ => by
    refine ⟨v, ?_, ?_⟩
    · rw [glitch_product_1, bif_neg' (by omega : ¬ ((i : Int) < x.length))]
    · rw [List.drop_of_length_le (by omega)]
      simp [sq]
  | k + 1, N + 1, i, v, hk, hi, hN => by
    obtain ⟨a, ha⟩ := get_lt (l := x) (i := i) (by omega)
    have e : w64 ((i : Int) + 1) = ((i + 1 : Nat) : Int) := by rw [w64_id (by omega) (by omega)]; simp
    obtain ⟨s, h1, h2⟩ := prod1 F x hl k N (i + 1) (w64 (v + w64 (a * a))) (by omega) (by omega) (by omega)
    refine ⟨s, ?_, ?_⟩
    · rw [glitch_product_1, bif_pos' (by omega : ((i : Int) < x.length)), idx_nat, ha, bnd_eq, bnd_eq, e]
      exact h1
    · rw [h2, drop_get ha, sq, w64_addL, show v + w64 (a * a) + sq (x.drop (i + 1)) = (v + sq (x.drop (i + 1))) + w64 (a * a) by omega, w64_addR]
      congr 1
      omega
theorem law_eq (F : Nat) (x : List Int) (hx : x.length ≤ 9223372036854775807) (hF : x.length + 1200 < F) (hw : works F = some true) : law06_GlitchEnergies F x = some true := by
  obtain ⟨k, h1, h2⟩ := Transform_eq F x hx (by omega)
  have h3 := Tiles_eq F x hx (by omega) h2
  unfold law06_GlitchEnergies
  have hE : glitch_Energy F x = bnd (glitch_isSignal F x) fun r1 => bif (!r1) then some ((0 : Int), (60 : Int)) else bnd (glitch_product F x x) fun r4 => some ((w64 ((x.length : Int) * r4)), (0 : Int)) := rfl
  rw [hE, isSignal_eq F x hx (by omega)]
  cases hs : sig x with
  | false =>
    unfold law06_GlitchEnergies_1
    simp [bnd_eq, hw]
  | true =>
    obtain ⟨g1, g2, g3⟩ := h2 hs
    have hpow : (2 : Nat) ^ k ≤ 2 ^ 10 := Nat.pow_le_pow_right (by omega) (by omega)
    obtain ⟨s, p1, p2⟩ := prod1 F x hx x.length F 0 0 (by omega) (by omega) (by omega)
    have p1' : glitch_product F x x = some s := p1
    rw [List.drop_zero, Int.zero_add] at p2
    obtain ⟨c0, e1, e2⟩ := en_tl k 0 x x.length g2 g2
    have hTl := T_len k x g2
    have htl := tl_len k 1 x g2
    have hi0 : idx (T k x) 0 = some c0 := e1
    rw [p1', h1, h3, hs]
    simp only [bnd_eq, Bool.not_true, cond_false, cond_true, BEq.rfl]
    unfold law06_GlitchEnergies_2
    simp only [cond_false]
    have hb1 : (((T k x).length : Int) == (x.length : Int)) = true := by rw [beq_iff_eq]; omega
    unfold law06_GlitchEnergies_3
    rw [hb1]
    simp only [Bool.not_true, cond_false]
    have hw1 : w64 ((x.length : Int) - 1) = ((x.length - 1 : Nat) : Int) := by
      have : 1 ≤ (2 : Nat) ^ k := Nat.one_le_two_pow
      rw [w64_id (by omega) (by omega)]; omega
    have hb2 : (((tl k 1 x).length : Int) == w64 ((x.length : Int) - 1)) = true := by
      have : 1 ≤ (2 : Nat) ^ k := Nat.one_le_two_pow
      rw [hw1, beq_iff_eq]; omega
    rw [hb2]
    unfold law06_GlitchEnergies_4
    simp only [Bool.not_true, cond_false]
    rw [hi0]
    simp only [bnd_eq]
    have hlev : levOK 1 10 (tl k 1 x) := fun t ht => by
      have := levOK_tl k 1 x t ht
      omega
    refine en5 F x _ (tl k 1 x) hw (by omega) hlev (tl k 1 x).length F 0 _ (by omega) (by omega) (by omega) ?_ (w64_w _).symm
    rw [List.drop_zero, w64_addL]
    have e2' : c0 * c0 + en x.length (tl k 1 x) = ((2 ^ k : Nat) : Int) * sq x := e2
    rw [e2', ← g2]
    have : w64 ((x.length : Int) * s) = w64 ((x.length : Int) * sq x) := by
      rw [← w64_mulR, p2, w64_mulR]
    exact this.symm
end Go.Ev.GlitchEnergies
