/- Sums of what tiles add; sums of signals. -/
import Derived.Test.YtdjaigpcfhbcmaaGreatDoorGlitchSplitsMath5
namespace Go.Ev.GlitchSplits
open Go Go.Ev Go.Proofs
set_option linter.unusedVariables false
theorem w64_subB (a b : Int) : w64 (w64 a - w64 b) = w64 (a - b) := by
  obtain ⟨p, hp⟩ := w64_ex a
  obtain ⟨q, hq⟩ := w64_ex b
  exact w64_cong (p := p - q) (by rw [hp, hq]; omega)
/-- What a tile adds to sample i of n. -/
def cI (n i : Nat) (t : S_api_Tile) : Int :=
  if t.At.toNat * 2 ^ t.Level.toNat ≤ i ∧ i < (t.At.toNat + 1) * 2 ^ t.Level.toNat then (if i < t.At.toNat * 2 ^ t.Level.toNat + 2 ^ t.Level.toNat / 2 then t.D * ((n / 2 ^ t.Level.toNat : Nat) : Int) else -(t.D * ((n / 2 ^ t.Level.toNat : Nat) : Int))) else 0
def cS (n i : Nat) : List S_api_Tile → Int
  | [] => 0
  | t :: l => cI n i t + cS n i l
theorem cS_app (n i : Nat) : ∀ a b : List S_api_Tile, cS n i (a ++ b) = cS n i a + cS n i b
  | [], b => by simp [cS]
  | t :: a, b => by simp only [List.cons_append, cS, cS_app n i a b]; omega
theorem upT_get (n : Nat) (p : List Int) (t : S_api_Tile) (i : Nat) (s : Int) (hp : p[i]? = some (w64 s)) : (upT n p t)[i]? = some (w64 (s + cI n i t)) := by
  unfold upT addR cI
  rw [List.getElem?_mapIdx, hp, Option.map_some]
  congr 1
  by_cases h1 : t.At.toNat * 2 ^ t.Level.toNat ≤ i ∧ i < (t.At.toNat + 1) * 2 ^ t.Level.toNat
  · rw [if_pos h1, if_pos h1]
    by_cases h2 : i < t.At.toNat * 2 ^ t.Level.toNat + 2 ^ t.Level.toNat / 2
    · rw [if_pos h2, if_pos h2, w64_addL, w64_addR]
    · rw [if_neg h2, if_neg h2, w64_subB]; rfl
  · rw [if_neg h1, if_neg h1, Int.add_zero]
theorem fold_get (n i : Nat) : ∀ (l : List S_api_Tile) (p : List Int) (s : Int), p[i]? = some (w64 s) → (l.foldl (upT n) p)[i]? = some (w64 (s + cS n i l))
  | [], p, s, h => by simpa [cS] using h
  | t :: l, p, s, h => by
    rw [List.foldl_cons, fold_get n i l _ _ (upT_get n p t i s h), cS, Int.add_assoc]
theorem cI_at (n i r a : Nat) (d : Int) : cI n i ⟨((r + 1 : Nat) : Int), a, d⟩ = if a = i / 2 ^ r / 2 then (if i / 2 ^ r % 2 = 0 then d * ((n / 2 ^ (r + 1) : Nat) : Int) else -(d * ((n / 2 ^ (r + 1) : Nat) : Int))) else 0 := by
  unfold cI
  have hP : 0 < 2 ^ r := Nat.two_pow_pos r
  have h2 : 2 ^ (r + 1) = 2 ^ r * 2 := Nat.pow_succ ..
  simp only [Int.toNat_natCast]
  have e : i / 2 ^ r / 2 = i / 2 ^ (r + 1) := by rw [Nat.div_div_eq_div_mul, h2]
  have hQ : 0 < 2 ^ (r + 1) := Nat.two_pow_pos _
  have c1 : (a * 2 ^ (r + 1) ≤ i ∧ i < (a + 1) * 2 ^ (r + 1)) ↔ a = i / 2 ^ r / 2 := by
    rw [e, ← Nat.le_div_iff_mul_le hQ, ← Nat.div_lt_iff_lt_mul hQ]; omega
  by_cases hc : a = i / 2 ^ r / 2
  · rw [if_pos (c1.2 hc), if_pos hc]
    have c2 : (i < a * 2 ^ (r + 1) + 2 ^ (r + 1) / 2) ↔ i / 2 ^ r % 2 = 0 := by
      have : a * 2 ^ (r + 1) + 2 ^ (r + 1) / 2 = (2 * a + 1) * 2 ^ r := by
        rw [h2, Nat.mul_div_cancel _ (by omega : 0 < 2), Nat.add_mul, Nat.one_mul, Nat.mul_comm (2 ^ r) 2, ← Nat.mul_assoc, Nat.mul_comm a 2]
      rw [this, ← Nat.div_lt_iff_lt_mul hP]
      omega
    by_cases h3 : i / 2 ^ r % 2 = 0
    · rw [if_pos (c2.2 h3), if_pos h3]
    · rw [if_neg (fun h => h3 (c2.1 h)), if_neg h3]
  · rw [if_neg (fun h => hc (c1.1 h)), if_neg hc]
def sgn (n i r : Nat) (d : Int) : Int := if i / 2 ^ r % 2 = 0 then d * ((n / 2 ^ (r + 1) : Nat) : Int) else -(d * ((n / 2 ^ (r + 1) : Nat) : Int))
theorem cS_of (n i r : Nat) : ∀ (l : List Int) (j : Nat), cS n i (tilesOf ((r + 1 : Nat) : Int) j l) = if j ≤ i / 2 ^ r / 2 then (match l[i / 2 ^ r / 2 - j]? with | some d => sgn n i r d | none => 0) else 0
  | [], j => by simp [tilesOf, cS]
  | d :: l, j => by
    rw [tilesOf, cS, cI_at, cS_of n i r l (j + 1)]
    generalize i / 2 ^ r / 2 = q
    by_cases h1 : j = q
    · subst h1
      have h0 : ¬ (j + 1 ≤ j) := by omega
      simp only [if_true, h0, if_false, Nat.le_refl, Nat.sub_self, List.getElem?_cons_zero, Int.add_zero]
      rfl
    · rw [if_neg h1]
      by_cases h2 : j ≤ q
      · rw [if_pos h2, if_pos (by omega), show q - j = (q - (j + 1)) + 1 by omega, List.getElem?_cons_succ]
        simp
      · rw [if_neg h2, if_neg (by omega)]
        rfl
theorem cS_tl : ∀ (k r : Nat) (y : List Int) (n i : Nat) (v : Int), y.length = 2 ^ k → n = 2 ^ (k + r) → i < n → y[i / 2 ^ r]? = some v → ∃ c0, (T k y)[0]? = some c0 ∧ cS n i (tl k ((r + 1 : Nat) : Int) y) = ((n / 2 ^ r : Nat) : Int) * v - c0
  | 0, r, y, n, i, v, hy, hn, hi, hv => by
    rw [Nat.zero_add] at hn
    have h0 : i / 2 ^ r = 0 := Nat.div_eq_of_lt (by omega)
    rw [h0] at hv
    refine ⟨v, hv, ?_⟩
    rw [hn, Nat.div_self (Nat.two_pow_pos r), tl, cS]
    omega
  | k + 1, r, y, n, i, v, hy, hn, hi, hv => by
    have hy2 : y.length = 2 * 2 ^ k := by rw [hy, Nat.pow_succ]; omega
    have hq : i / 2 ^ r / 2 = i / 2 ^ (r + 1) := by rw [Nat.div_div_eq_div_mul, Nat.pow_succ]
    have hlt : i / 2 ^ r < y.length := (List.getElem?_eq_some_iff.1 hv).1
    obtain ⟨a, ha⟩ := get_lt (l := y) (i := 2 * (i / 2 ^ r / 2)) (by omega)
    obtain ⟨b, hb⟩ := get_lt (l := y) (i := 2 * (i / 2 ^ r / 2) + 1) (by omega)
    obtain ⟨hS, hD⟩ := SD_get y (i / 2 ^ r / 2) ha hb
    have hn' : n = 2 ^ (k + (r + 1)) := by rw [hn]; congr 1; omega
    obtain ⟨c0, h1, h2⟩ := cS_tl k (r + 1) (S y) n i (a + b) (S_len _ y hy2) hn' hi (by rw [← hq]; exact hS)
    refine ⟨c0, ?_, ?_⟩
    · rw [T, List.getElem?_append_left (by rw [T_len k _ (S_len _ y hy2)]; exact Nat.two_pow_pos k)]
      exact h1
    · have e1 : tl (k + 1) ((r + 1 : Nat) : Int) y = tilesOf ((r + 1 : Nat) : Int) 0 (D y) ++ tl k ((r + 1 + 1 : Nat) : Int) (S y) := rfl
      rw [e1, cS_app, cS_of, h2, if_pos (Nat.zero_le _), Nat.sub_zero, hD]
      simp only [sgn]
      have hN : ((n / 2 ^ r : Nat) : Int) = 2 * ((n / 2 ^ (r + 1) : Nat) : Int) := by
        have : n / 2 ^ r = 2 * (n / 2 ^ (r + 1)) := by
          rw [hn, Nat.pow_div (by omega) (by omega), Nat.pow_div (by omega) (by omega), show k + 1 + r - r = (k + 1 + r - (r + 1)) + 1 by omega, Nat.pow_succ]
          omega
        rw [this]; simp
      rw [hN]
      generalize ((n / 2 ^ (r + 1) : Nat) : Int) = N
      by_cases hp : i / 2 ^ r % 2 = 0
      · rw [if_pos hp]
        have : 2 * (i / 2 ^ r / 2) = i / 2 ^ r := by omega
        rw [this, hv] at ha
        obtain rfl := Option.some.inj ha
        grind
      · rw [if_neg hp]
        have : 2 * (i / 2 ^ r / 2) + 1 = i / 2 ^ r := by omega
        rw [this, hv] at hb
        obtain rfl := Option.some.inj hb
        grind
/-- Some, in order, of tiles are stripped. -/
theorem strip_sub : ∀ {ts l : List S_api_Tile}, List.Sublist l ts → strip ts l = []
  | _, [], _ => strip_nil _
  | [], a :: l, h => by cases h
  | u :: ts, a :: l, h => by
    rw [strip]
    cases hc : eqT a u with
    | true =>
      have h' : List.Sublist l ts := by
        cases h with
        | cons _ h => exact (List.sublist_cons_self a l).trans h
        | cons_cons _ h => exact h
      exact strip_sub h'
    | false =>
      cases h with
      | cons _ h => exact strip_sub h
      | cons_cons _ h => rw [eqT_iff.2 rfl] at hc; simp at hc
/-- Sums of lists. -/
def addL : List Int → List Int → List Int
  | a :: l, b :: k => (a + b) :: addL l k
  | _, _ => []
theorem addL_len : ∀ (l k : List Int), l.length = k.length → (addL l k).length = l.length
  | [], [], _ => rfl
  | a :: l, b :: k, h => by simp [addL, addL_len l k (by simpa using h)]
  | [], _ :: _, h => by simp at h
  | _ :: _, [], h => by simp at h
theorem addL_get : ∀ (l k : List Int) (i : Nat) {a b : Int}, l[i]? = some a → k[i]? = some b → (addL l k)[i]? = some (a + b)
  | [], _, i, a, b, h, _ => by simp at h
  | _ :: _, [], i, a, b, _, h => by simp at h
  | x :: l, y :: k, 0, a, b, h, h' => by simp at h h'; simp [addL, h, h']
  | x :: l, y :: k, i + 1, a, b, h, h' => by simp only [List.getElem?_cons_succ] at h h'; simp [addL, addL_get l k i h h']
theorem S_add : ∀ (l k : List Int), l.length = k.length → S (addL l k) = addL (S l) (S k) ∧ D (addL l k) = addL (D l) (D k)
  | [], [], _ => ⟨rfl, rfl⟩
  | [a], [b], _ => ⟨rfl, rfl⟩
  | a :: a' :: l, b :: b' :: k, h => by
    obtain ⟨h1, h2⟩ := S_add l k (by simpa using h)
    simp only [addL, S, D, h1, h2]
    constructor <;> (congr 1; omega)
  | [], _ :: _, h => by simp at h
  | _ :: _, [], h => by simp at h
  | [_], _ :: _ :: _, h => by simp at h
  | _ :: _ :: _, [_], h => by simp at h
theorem addL_app : ∀ (l k l' k' : List Int), l.length = k.length → addL (l ++ l') (k ++ k') = addL l k ++ addL l' k'
  | [], [], _, _, _ => rfl
  | a :: l, b :: k, l', k', h => by simp only [List.cons_append, addL]; rw [addL_app l k l' k' (by simpa using h)]
  | [], _ :: _, _, _, h => by simp at h
  | _ :: _, [], _, _, h => by simp at h
theorem T_add : ∀ (n : Nat) (l k : List Int), l.length = 2 ^ n → k.length = 2 ^ n → T n (addL l k) = addL (T n l) (T n k)
  | 0, _, _, _, _ => rfl
  | n + 1, l, k, hl, hk => by
    have hl2 : l.length = 2 * 2 ^ n := by rw [hl, Nat.pow_succ]; omega
    have hk2 : k.length = 2 * 2 ^ n := by rw [hk, Nat.pow_succ]; omega
    obtain ⟨h1, h2⟩ := S_add l k (by omega)
    have g1 := S_len _ l hl2
    have g2 := S_len _ k hk2
    rw [T, T, T, h1, h2, T_add n _ _ g1 g2, addL_app _ _ _ _ (by rw [T_len n _ g1, T_len n _ g2])]
end Go.Ev.GlitchSplits
