/- Part: the program's, and the specification's. -/
import Derived.Test.YtdjaigpcfhbcmaaGreatDoorGlitchSplitsMath4
namespace Go.Ev.GlitchSplits
open Go Go.Ev Go.Proofs
set_option linter.unusedVariables false
theorem pow2_10 {lv : Nat} (h : lv ≤ 10) : (2 : Nat) ^ lv ≤ 1024 := Nat.le_trans (Nat.pow_le_pow_right (by omega) h) (by decide)
theorem cover_eq {n : Nat} {t : S_api_Tile} (ht : VT n t) (hn : n ≤ 1024) : ∃ lv a : Nat, t.Level = lv ∧ t.At = a ∧ lv ≤ 10 ∧ 1 ≤ lv ∧ (a + 1) * 2 ^ lv ≤ n ∧ t.Level.toNat = lv ∧ t.At.toNat = a ∧ shn t.Level = some lv ∧ min lv (IntKind.bits .i64) = lv ∧
    w64 (t.At * 2 ^ lv) = ((a * 2 ^ lv : Nat) : Int) ∧ w64 (w64 (t.At + 1) * 2 ^ lv) = (((a + 1) * 2 ^ lv : Nat) : Int) ∧ Int.fdiv (n : Int) (2 ^ lv) = ((n / 2 ^ lv : Nat) : Int) := by
  obtain ⟨lv, a, h1, h2, h3, h4, h5⟩ := ht
  have hp := pow2_10 h4
  have hpos := Nat.one_le_two_pow (n := lv)
  have hc : ((2 ^ lv : Nat) : Int) = (2 : Int) ^ lv := by simp
  have ha : a * 2 ^ lv ≤ (a + 1) * 2 ^ lv := Nat.mul_le_mul_right _ (by omega)
  have ha1 : a + 1 ≤ (a + 1) * 2 ^ lv := Nat.le_mul_of_pos_right _ (by omega)
  have e1 : w64 (t.At + 1) = ((a + 1 : Nat) : Int) := by rw [h2, w64_id (by omega) (by omega)]; simp
  refine ⟨lv, a, h1, h2, h4, h3, h5, by omega, by omega, by rw [h1]; rfl, by simp only [IntKind.bits]; omega, ?_, ?_, ?_⟩
  · rw [h2, ← hc, ← Int.natCast_mul, w64_nat (by omega)]
  · rw [e1, ← hc, ← Int.natCast_mul, w64_nat (by omega)]
  · rw [← hc, Int.fdiv_eq_ediv_of_nonneg _ (Int.natCast_nonneg _), ← Int.natCast_ediv]
theorem pa1 (F : Nat) (n : Nat) (hn : n ≤ 1024) (hF : 1100 < F) (L : List S_api_Tile) (hL : ∀ t ∈ L, VT n t) (hLl : L.length ≤ 9223372036854775807) : ∀ (k N i : Nat) (p : List Int), k = L.length - i → i ≤ L.length → k < N → p.length = n →
    glitch_part_1 F N n L L.length i p = some ((L.drop i).foldl (upT n) p)
  | k, 0, i, p, _, _, h, _ => by omega
  | 0, N + 1, i, p, hk, hi, _, _ => by
    rw [glitch_part_1, bif_neg' (by omega : ¬ ((i : Int) < L.length)), List.drop_of_length_le (by omega)]
    rfl
  | k + 1, N + 1, i, p, hk, hi, hN, hp => by
    obtain ⟨t, ht⟩ := get_lt (l := L) (i := i) (by omega)
    obtain ⟨lv, a, h1, h2, h4, h3, h5, h6, h7, h8, h9, h10, h11, h12⟩ := cover_eq (hL t (List.mem_of_getElem? ht)) hn
    have hpow := Nat.one_le_two_pow (n := lv)
    have hcov : glitch_covered F t = some (((a * 2 ^ lv : Nat) : Int), (((a + 1) * 2 ^ lv : Nat) : Int)) := by
      unfold glitch_covered
      rw [h8]
      simp only [bnd_eq, h9, h10, h11]
    have hft : a * 2 ^ lv ≤ (a + 1) * 2 ^ lv := Nat.mul_le_mul_right _ (by omega)
    have hsub : (a + 1) * 2 ^ lv - a * 2 ^ lv = 2 ^ lv := by rw [Nat.succ_mul]; omega
    have e3 : w64 ((((a + 1) * 2 ^ lv : Nat) : Int) - ((a * 2 ^ lv : Nat) : Int)) = (((a + 1) * 2 ^ lv - a * 2 ^ lv : Nat) : Int) := by rw [w64_id (by omega) (by omega)]; omega
    have e4 : w64 ((i : Int) + 1) = ((i + 1 : Nat) : Int) := by rw [w64_id (by omega) (by omega)]; simp
    have hup : upT n p t = addR (w64 (t.D * ((n / 2 ^ lv : Nat) : Int))) (a * 2 ^ lv) (a * 2 ^ lv + ((a + 1) * 2 ^ lv - a * 2 ^ lv) / 2) ((a + 1) * 2 ^ lv) p := by
      unfold upT
      rw [h6, h7, hsub]
    have hpl : (upT n p t).length = n := by rw [hup, addR_len, hp]
    have h := pa2 F (glitch_part_1 F N) n L L.length i (w64 (t.D * ((n / 2 ^ lv : Nat) : Int))) (a * 2 ^ lv) ((a + 1) * 2 ^ lv) hft (by omega) ((a + 1) * 2 ^ lv - a * 2 ^ lv) F 0 p (by omega) (by omega) (by omega) (by omega)
    have hz : a * 2 ^ lv + 0 = a * 2 ^ lv := Nat.add_zero _
    rw [hz, ← hup] at h
    rw [glitch_part_1, bif_pos' (by omega : ((i : Int) < L.length)), idx_nat, ht, bnd_eq, hcov, bnd_eq, h8]
    simp only [bnd_eq, h9, h12, e3]
    have h' : glitch_part_2 F (glitch_part_1 F N) F n ((a * 2 ^ lv : Nat) : Int) (((a + 1) * 2 ^ lv : Nat) : Int) (w64 (t.D * ((n / 2 ^ lv : Nat) : Int))) L L.length i (((a + 1) * 2 ^ lv - a * 2 ^ lv : Nat) : Int) 0 p = _ := h
    rw [h', e4, pa1 F n hn hF L hL hLl k N (i + 1) _ (by omega) (by omega) (by omega) hpl, drop_get ht]
    rfl
theorem mk_eq (n : Nat) (hn : n ≤ 1024) : mk (n : Int) 8 (0 : Int) = some (List.replicate n 0) := by
  show (bif Nat.ble n 1073741824 && Nat.ble (n * 8) 281474976710656 then some (List.replicate n (0 : Int)) else none) = _
  rw [show Nat.ble n 1073741824 = true from Nat.ble_eq_true_of_le (by omega), show Nat.ble (n * 8) 281474976710656 = true from Nat.ble_eq_true_of_le (by omega)]
  rfl
theorem part_eq (F : Nat) (n : Nat) (hn : n ≤ 1024) (hF : 1100 < F) (L : List S_api_Tile) (hL : ∀ t ∈ L, VT n t) (hLl : L.length ≤ 9223372036854775807) (hF2 : L.length < F) : glitch_part F L n = some (L.foldl (upT n) (List.replicate n 0)) := by
  have := pa1 F n hn hF L hL hLl L.length F 0 (List.replicate n 0) (by omega) (by omega) hF2 (by simp)
  unfold glitch_part
  rw [mk_eq n hn, bnd_eq]
  exact this
/-- The result of Part. -/
def partR (x : List Int) (l : List S_api_Tile) (k : Nat) : List Int × Int := bif sig x then (bif ((strip (tl k 1 x) l).length : Int) == 0 then (l.foldl (upT x.length) (List.replicate x.length 0), 0) else ([], 61)) else ([], 60)
theorem strip_mem : ∀ (ts l : List S_api_Tile), strip ts l = [] → ∀ t ∈ l, t ∈ ts
  | [], l, h, t, ht => by rw [strip] at h; rw [h] at ht; exact ht
  | _ :: ts, [], h, t, ht => by simp at ht
  | u :: ts, a :: l, h, t, ht => by
    rw [strip] at h
    cases hc : eqT a u with
    | true =>
      rw [hc] at h
      rcases List.mem_cons.1 ht with rfl | ht
      · rw [eqT_iff.1 hc]; exact List.mem_cons_self
      · exact List.mem_cons_of_mem _ (strip_mem ts l h t ht)
    | false =>
      rw [hc] at h
      exact List.mem_cons_of_mem _ (strip_mem ts (a :: l) h t ht)
theorem Part_eq (F : Nat) (x : List Int) (l : List S_api_Tile) (hl : x.length ≤ 9223372036854775807) (hll : l.length ≤ 9223372036854775807) (hF : x.length + 1100 < F) (hF2 : l.length + 1100 < F) {k : Nat} (hk : sig x = true → k ≤ 10 ∧ x.length = 2 ^ k ∧ Wi 1048576 x) : glitch_Part F x l = some (partR x l k) := by
  unfold glitch_Part partR
  rw [isSignal_eq F x hl (by omega), bnd_eq]
  cases hs : sig x with
  | false => rfl
  | true =>
    obtain ⟨h1, h2, h3⟩ := hk hs
    have hp := pow2_10 h1
    simp only [Bool.not_true, cond_false, cond_true]
    rw [areTiles_eq F x l k h1 h2 h3 (by omega) hll, bnd_eq]
    cases hc : (((strip (tl k 1 x) l).length : Int) == 0) with
    | false => rfl
    | true =>
      have hnil : strip (tl k 1 x) l = [] := by
        rw [beq_iff_eq] at hc
        exact List.length_eq_zero_iff.1 (by omega)
      have hV : ∀ t ∈ l, VT x.length t := fun t ht => by
        rw [h2]
        exact VT_tl k 0 x (by omega) h2 t (strip_mem _ _ hnil t ht)
      simp only [Bool.not_true, cond_false, cond_true]
      rw [part_eq F x.length (by omega) (by omega) l hV hll (by omega), bnd_eq]
end Go.Ev.GlitchSplits
