/- SearchHot. -/
import Derived.Test.YtgaofnakcccbkaaSearchHotMath6
namespace Go.Ev.SearchHot
open Go Go.Ev Go.Proofs
set_option linter.unusedVariables false
abbrev HD := (List Int) → Int → Int → Int → (List S_api_Burst) → (List Int) → Option (Bool)
theorem hot4 (F : Nat) (hd : HD) (x : List Int) (hx : small x) (hxl : x.length ≤ 1024) (w t : Nat) (thr : Int) (ht : t + w ≤ x.length) (L : List S_api_Burst) (P : List Int) : ∀ (k N i : Nat) (s : Int), k = t + w - i → i ≤ t + w → k < N → 0 ≤ s → s ≤ sq x i →
    law08_SearchHot_4 F hd N x w thr t s 0 i L P = law08_SearchHot_5 F hd F x w thr t (s + (sq x (t + w) - sq x i)) 0 0 L P
  | k, 0, i, s, _, _, h, _, _ => by omega
  | 0, N + 1, i, s, hk, hi, _, _, _ => by
    rw [law08_SearchHot_4, w64_id (n := (t : Int) + w) (by omega) (by omega), bif_neg' (by omega), show t + w = i by omega, Int.sub_self, Int.add_zero]
  | k + 1, N + 1, i, s, hk, hi, hN, h0, hs => by
    obtain ⟨v, hv⟩ := get_lt (l := x) (i := i) (by omega)
    have hg : x[i]?.getD 0 = v := by rw [hv]; rfl
    have hvb := hx i
    rw [hg] at hvb
    have hvv := sqb hvb
    have m1 : (i : Int) * 268435456 ≤ 1024 * 268435456 := Int.mul_le_mul_of_nonneg_right (by omega) (by decide)
    have b1 := (sq_bound hx i).2
    have e1 : sq x (i + 1) = sq x i + v * v := by rw [sq, hg]
    rw [law08_SearchHot_4, w64_id (n := (t : Int) + w) (by omega) (by omega), bif_pos' (by omega), idx_nat, hv, bnd_eq, bnd_eq, w64_id (n := v * v) (by omega) (by omega), w64_id (n := s + v * v) (by omega) (by omega), up (by omega),
      hot4 F hd x hx hxl w t thr ht L P k N (i + 1) _ (by omega) (by omega) (by omega) (by omega) (by omega), e1]
    congr 1
    omega
theorem hot5 (F : Nat) (hd : HD) (x : List Int) (w t : Nat) (hw : 1 ≤ w) (ht : t + w ≤ 1024) (thr p : Int) (hp : thr ≤ p) (L : List S_api_Burst) (hL : L.length ≤ 2000) (hg : L.Pairwise gapR) (k0 : Nat) (a0 : S_api_Burst) (hk0 : L[k0]? = some a0) (hi0 : ins w t a0) (v0 : Int) : ∀ (k N j : Nat) (P : List Int), k = L.length - j → j ≤ L.length → k < N → P.length = L.length → (j ≤ k0 → P[k0]? = some v0) →
    law08_SearchHot_5 F hd N x w thr t p ((if j ≤ k0 then 0 else 1 : Nat) : Int) j L P = hd x w thr ((t + 1 : Nat) : Int) L (if j ≤ k0 then P.set k0 (max v0 p) else P)
  | k, 0, j, P, _, _, h, _, _ => by omega
  | 0, N + 1, j, P, hk, hj, _, hPl, _ => by
    have hk0l := (List.getElem?_eq_some_iff.1 hk0).1
    rw [law08_SearchHot_5, bif_neg' (by omega : ¬ ((j : Int) < L.length)), if_neg (by omega), if_neg (by omega)]
    unfold law08_SearchHot_6 law08_SearchHot_9
    rw [cond_false, bif_pos' hp, show (!(((1 : Nat) : Int) == 1)) = false from rfl, cond_false, up (by omega)]
  | k + 1, N + 1, j, P, hk, hj, hN, hPl, hP => by
    obtain ⟨y, hy⟩ := get_lt (l := L) (i := j) (by omega)
    have ih := fun P' h1 h2 => hot5 F hd x w t hw ht thr p hp L hL hg k0 a0 hk0 hi0 v0 k N (j + 1) P' (by omega) (by omega) (by omega) h1 h2
    have hjw : j < 9223372036854775807 := by omega
    have hno : j ≠ k0 → law08_SearchHot_7 F (law08_SearchHot_5 F hd N) x w thr t p ((if j ≤ k0 then 0 else 1 : Nat) : Int) j false L P = hd x w thr ((t + 1 : Nat) : Int) L (if j ≤ k0 then P.set k0 (max v0 p) else P) := fun hne => by
      unfold law08_SearchHot_7 law08_SearchHot_8
      rw [cond_false, up hjw]
      have := ih P hPl (fun h => hP (by omega))
      by_cases hle : j ≤ k0
      · rw [if_pos hle, if_pos hle]
        rw [if_pos (by omega), if_pos (by omega)] at this
        exact this
      · rw [if_neg hle, if_neg hle]
        rw [if_neg (by omega), if_neg (by omega)] at this
        exact this
    rw [law08_SearchHot_5, bif_pos' (by omega : ((j : Int) < L.length)), decide_eq_true hp]
    unfold law08_SearchHot_6
    rw [cond_true, idx_nat, hy, bnd_eq, bnd_eq, w64_id (n := (t : Int) + w) (by omega) (by omega)]
    by_cases hjk : j = k0
    · subst hjk
      rw [hk0] at hy
      obtain rfl := Option.some.inj hy
      have h2 : (t : Int) + w ≤ a0.To := by have := hi0.2; omega
      rw [bif_pos' hi0.1, decide_eq_true h2]
      unfold law08_SearchHot_7 law08_SearchHot_8
      rw [cond_true, idx_nat, hP (Nat.le_refl _), bnd_eq, inn_at (by omega), bnd_eq, upd_at (by omega), bnd_eq, if_pos (Nat.le_refl _), if_pos (Nat.le_refl _), up hjw, show w64 (((0 : Nat) : Int) + 1) = ((1 : Nat) : Int) by decide]
      have := ih (P.set j (max v0 p)) (by rw [List.length_set]; exact hPl) (fun h => by omega)
      rw [if_neg (by omega), if_neg (by omega)] at this
      exact this
    · by_cases h1 : y.From ≤ (t : Int)
      · have h2 : ¬ (t : Int) + w ≤ y.To := fun h2 => hjk (ins_one hw hg hy hk0 ⟨h1, by omega⟩ hi0)
        rw [bif_pos' h1, decide_eq_false h2]
        exact hno hjk
      · rw [bif_neg' h1]
        exact hno hjk
/-- The peaks that are found until a time. -/
structure PI (x : List Int) (w : Nat) (thr : Int) (L : List S_api_Burst) (t : Nat) (P : List Int) : Prop where
  len : P.length = L.length
  at1 : ∀ (k : Nat) (a : S_api_Burst), L[k]? = some a → ∃ v, P[k]? = some v ∧ (∀ u : Nat, u < t → thr ≤ pw x w u → ins w u a → pw x w u ≤ v) ∧ (v = 0 ∨ ∃ u : Nat, u < t ∧ thr ≤ pw x w u ∧ ins w u a ∧ pw x w u = v)
theorem pi_cold {x : List Int} {w : Nat} {thr : Int} {L : List S_api_Burst} {t : Nat} {P : List Int} (h : PI x w thr L t P) (hc : ¬ thr ≤ pw x w t) : PI x w thr L (t + 1) P := by
  refine ⟨h.len, fun k a hk => ?_⟩
  obtain ⟨v, g1, g2, g3⟩ := h.at1 k a hk
  refine ⟨v, g1, fun u h1 h2 h3 => ?_, ?_⟩
  · by_cases e : u = t
    · subst e; exact absurd h2 hc
    · exact g2 u (by omega) h2 h3
  · rcases g3 with g3 | ⟨u, q1, q2, q3, q4⟩
    · exact .inl g3
    · exact .inr ⟨u, by omega, q2, q3, q4⟩
theorem pi_hot {x : List Int} {w : Nat} {thr : Int} {L : List S_api_Burst} {t : Nat} {P : List Int} (hw : 1 ≤ w) (hg : L.Pairwise gapR) (h : PI x w thr L t P) (hh : thr ≤ pw x w t) {k0 : Nat} {a0 : S_api_Burst} (hk0 : L[k0]? = some a0) (hi0 : ins w t a0) {v0 : Int} (hv0 : P[k0]? = some v0) : PI x w thr L (t + 1) (P.set k0 (max v0 (pw x w t))) := by
  have hk0l := (List.getElem?_eq_some_iff.1 hk0).1
  refine ⟨by rw [List.length_set]; exact h.len, fun k a hk => ?_⟩
  obtain ⟨v, g1, g2, g3⟩ := h.at1 k a hk
  by_cases hkk : k0 = k
  · subst hkk
    rw [hk0] at hk
    obtain rfl := Option.some.inj hk
    rw [hv0] at g1
    obtain rfl := Option.some.inj g1
    refine ⟨max v0 (pw x w t), List.getElem?_set_self (by rw [h.len]; exact hk0l), fun u h1 h2 h3 => ?_, ?_⟩
    · by_cases e : u = t
      · subst e; omega
      · have := g2 u (by omega) h2 h3; omega
    · by_cases hle : v0 ≤ pw x w t
      · exact .inr ⟨t, by omega, hh, hi0, by omega⟩
      · rcases g3 with g3 | ⟨u, q1, q2, q3, q4⟩
        · exact .inl (by omega)
        · exact .inr ⟨u, by omega, q2, q3, by omega⟩
  · refine ⟨v, by rw [List.getElem?_set_ne hkk]; exact g1, fun u h1 h2 h3 => ?_, ?_⟩
    · by_cases e : u = t
      · subst e
        exact absurd (ins_one hw hg hk0 hk hi0 h3) hkk
      · exact g2 u (by omega) h2 h3
    · rcases g3 with g3 | ⟨u, q1, q2, q3, q4⟩
      · exact .inl g3
      · exact .inr ⟨u, by omega, q2, q3, q4⟩
theorem hot10 (F : Nat) (hw0 : works F = some true) (x : List Int) (w : Nat) (thr : Int) (hthr : 1 ≤ thr) (n : Nat) (L : List S_api_Burst) (hL : L.length ≤ 2000) (hH : Ho x w thr n L) (P : List Int) (hP : PI x w thr L n P) : ∀ (k N i : Nat), k = L.length - i → i ≤ L.length → k < N →
    law08_SearchHot_10 F N i L P = some true
  | k, 0, i, _, _, h => by omega
  | 0, N + 1, i, hk, hi, _ => by
    rw [law08_SearchHot_10, bif_neg' (by omega : ¬ ((i : Int) < L.length)), hw0]
    rfl
  | k + 1, N + 1, i, hk, hi, hN => by
    obtain ⟨a, ha⟩ := get_lt (l := L) (i := i) (by omega)
    obtain ⟨v, g1, g2, g3⟩ := hP.at1 i a ha
    obtain ⟨u, q1, q2, q3, q4⟩ := hH.peak1 a (List.mem_of_getElem? ha)
    have hv : v = a.Peak := by
      have h1 := g2 u q1 q2 q3
      rcases g3 with g3 | ⟨u', r1, r2, r3, r4⟩
      · omega
      · have := hH.peak2 a (List.mem_of_getElem? ha) u' r1 r2 r3
        omega
    clear g2 g3 q1 q2 q3 q4
    have ih := hot10 F hw0 x w thr hthr n L hL hH P hP k N (i + 1) (by omega) (by omega) (by omega)
    have hfin : law08_SearchHot_11 F (law08_SearchHot_10 F N) i false L P = some true := by
      unfold law08_SearchHot_11
      rw [cond_false, up (by omega)]
      exact ih
    rw [law08_SearchHot_10, bif_pos' (by omega : ((i : Int) < L.length)), idx_nat, g1, bnd_eq, idx_nat, ha, bnd_eq, hv]
    simp only [beq_self_eq_true, Bool.not_true, cond_false, bnd_eq]
    by_cases h0 : 0 < i
    · obtain ⟨j, rfl⟩ : ∃ j, i = j + 1 := ⟨i - 1, by omega⟩
      have hil := (List.getElem?_eq_some_iff.1 ha).1
      obtain ⟨b, hb⟩ := get_lt (l := L) (i := j) (by omega)
      have hgp := List.pairwise_iff_getElem.1 hH.gap j (j + 1) (by omega) hil (by omega)
      rw [(List.getElem?_eq_some_iff.1 ha).2, (List.getElem?_eq_some_iff.1 hb).2] at hgp
      have hgp' : b.To < a.From := hgp
      rw [bif_pos' (by omega), w64_id (by omega) (by omega), show (((j + 1 : Nat) : Int) - 1) = (j : Int) by omega, idx_nat, hb, bnd_eq, decide_eq_false (by omega)]
      exact hfin
    · rw [bif_neg' (by omega)]
      exact hfin
theorem hot3 (F : Nat) (hF : 2000 < F) (hw0 : works F = some true) (x : List Int) (hx : small x) (hxl : x.length ≤ 1024) (w : Nat) (hw : 1 ≤ w ∧ w ≤ 1024) (thr : Int) (hthr : 1 ≤ thr) (L : List S_api_Burst) (hL : L.length ≤ 2000) (hH : Ho x w thr (x.length + 1 - w) L) : ∀ (k N t : Nat) (P : List Int), k = x.length + 1 - w - t → t ≤ x.length + 1 - w → k < N → PI x w thr L t P →
    law08_SearchHot_3 F N x w thr t L P = some true
  | k, 0, t, P, _, _, h, _ => by omega
  | 0, N + 1, t, P, hk, ht, _, hP => by
    rw [law08_SearchHot_3, w64_id (n := (t : Int) + w) (by omega) (by omega), bif_neg' (by omega)]
    have e : t = x.length + 1 - w := by omega
    subst e
    exact hot10 F hw0 x w thr hthr _ L hL hH P hP L.length F 0 rfl (Nat.zero_le _) (by omega)
  | k + 1, N + 1, t, P, hk, ht, hN, hP => by
    have ih := fun P' h => hot3 F hF hw0 x hx hxl w hw thr hthr L hL hH k N (t + 1) P' (by omega) (by omega) (by omega) h
    rw [law08_SearchHot_3, w64_id (n := (t : Int) + w) (by omega) (by omega), bif_pos' (by omega)]
    have h4 := hot4 F (law08_SearchHot_3 F N) x hx hxl w t thr (by omega) L P (t + w - t) F t 0 rfl (by omega) (by omega) (Int.le_refl _) (sq_bound hx t).1
    rw [Int.zero_add] at h4
    refine h4.trans ?_
    show law08_SearchHot_5 F (law08_SearchHot_3 F N) F x w thr t (pw x w t) 0 0 L P = _
    by_cases hh : thr ≤ pw x w t
    · obtain ⟨a, ha, hia⟩ := hH.some1 t (by omega) hh
      obtain ⟨k0, hk0, hk0e⟩ := List.getElem_of_mem ha
      have hk0' : L[k0]? = some a := by rw [List.getElem?_eq_getElem hk0, hk0e]
      obtain ⟨v0, g1, _⟩ := hP.at1 k0 a hk0'
      have := hot5 F (law08_SearchHot_3 F N) x w t hw.1 (by omega) thr _ hh L hL hH.gap k0 a hk0' hia v0 L.length F 0 P rfl (Nat.zero_le _) (by omega) hP.len (fun _ => g1)
      rw [if_pos (Nat.zero_le _), if_pos (Nat.zero_le _)] at this
      refine this.trans ?_
      exact ih _ (pi_hot hw.1 hH.gap hP hh hk0' hia g1)
    · obtain ⟨G, rfl⟩ : ∃ G, F = G + 1 := ⟨F - 1, by omega⟩
      have hfin : law08_SearchHot_6 (G + 1) (law08_SearchHot_3 (G + 1) N) (law08_SearchHot_5 (G + 1) (law08_SearchHot_3 (G + 1) N) G) x w thr t (pw x w t) 0 0 false L P = some true := by
        unfold law08_SearchHot_6 law08_SearchHot_9
        rw [cond_false, bif_neg' hh, cond_false, up (by omega)]
        exact ih P (pi_cold hP hh)
      rw [law08_SearchHot_5, decide_eq_false hh]
      cases decide ((0 : Int) < (L.length : Int)) <;> exact hfin
theorem errB_0 {x : List Int} {w thr : Int} (h : errB x w thr = 0) : isRec x = true ∧ 1 ≤ w ∧ w ≤ 1024 ∧ 1 ≤ thr ∧ thr ≤ 1152921504606846976 := by
  unfold errB at h
  cases e : isRec x with
  | false => rw [e, cond_false] at h; exact absurd h (by decide)
  | true =>
    rw [e, cond_true] at h
    cases e1 : inR 1 w 1024 with
    | false => rw [e1, Bool.false_and, cond_false] at h; exact absurd h (by decide)
    | true =>
      cases e2 : inR 1 thr 1152921504606846976 with
      | false => rw [e2, Bool.and_false, cond_false] at h; exact absurd h (by decide)
      | true =>
        have h1 := inR_iff.1 e1
        have h2 := inR_iff.1 e2
        exact ⟨rfl, h1.1, h1.2, h2.1, h2.2⟩
theorem hot1 (F : Nat) (hF : 2000 < F) (hw0 : works F = some true) (x : List Int) (hxl : x.length ≤ 200) (w thr : Int) : law08_SearchHot_1 F x w thr = some true := by
  unfold law08_SearchHot_1
  rw [Bursts_eq F x w thr (by omega) (by omega), bnd_eq]
  cases e : (errB x w thr == 0) with
  | false => simp only [Bool.not_false, cond_true, cond_false, List.length_nil, Int.natCast_zero, beq_self_eq_true, hw0, bnd_eq, law08_SearchHot_2]
  | true =>
    have e' := e
    rw [beq_iff_eq] at e'
    obtain ⟨h1, h2, h3, h4, h5⟩ := errB_0 e'
    obtain ⟨n, rfl⟩ : ∃ n : Nat, w = n := ⟨w.toNat, by omega⟩
    obtain ⟨hl, hs⟩ := isRec_ok h1
    have hlen : (burF x n thr).length ≤ 2000 := by
      have := brs_len x n thr (x.length + 1 - n) 0 []
      rw [burF]
      simp only [List.length_nil] at this
      omega
    simp only [Bool.not_true, cond_false, cond_true, Int.toNat_natCast]
    rw [In_eq, bnd_eq, inR_iff.2 ⟨h2, h3⟩, Bool.not_true, cond_false, mk_ok (by omega) (by omega), bnd_eq]
    refine hot3 F hF hw0 x (small_of hs) hl n (by omega) thr h4 _ hlen (ho_all x n (by omega) thr) _ F 0 _ rfl (Nat.zero_le _) (by omega) ⟨by rw [List.length_replicate], fun k a hk => ⟨0, ?_, fun u h => by omega, .inl rfl⟩⟩
    rw [List.getElem?_replicate, if_pos (List.getElem?_eq_some_iff.1 hk).1]
theorem law_eq (F : Nat) (x : List Int) (w thr : Int) (hl : x.length ≤ 9223372036854775807) (hF : x.length + 2200 < F) (hw : works F = some true) : law08_SearchHot F x w thr = some true := by
  unfold law08_SearchHot
  by_cases h : (200 : Int) < x.length
  · rw [bif_pos' h, show sub x 0 200 = some (x.take 200) from subc0 x 200 (by omega) rfl, bnd_eq]
    exact hot1 F (by omega) hw _ (by rw [List.length_take]; omega) w thr
  · rw [bif_neg' h]
    exact hot1 F (by omega) hw _ (by omega) w thr
end Go.Ev.SearchHot
