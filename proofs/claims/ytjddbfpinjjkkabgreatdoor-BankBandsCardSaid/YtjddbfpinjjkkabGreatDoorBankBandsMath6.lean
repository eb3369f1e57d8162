/- BankBands answers true. -/
import Derived.Test.YtjddbfpinjjkkabGreatDoorBankBandsMath5
namespace Go.Ev.BankBands
open Go Go.Ev Go.Proofs
set_option linter.unusedVariables false
theorem rIn (F : Nat) (a b c : Int) : ref00_In F a b c = some (inR b a c) := by
  unfold ref00_In inR ref00_In_1
  by_cases h : b ≤ a <;> simp [h]
section
variable (F : Nat) (c : S_api_Chirp) (b : List S_api_Tap) (out : List Int)
theorem la9 (hd : (List Int) → Int → (List S_api_Tap) → (List Int) → Option (Bool)) (hb : ∀ x ∈ b, (-1000000000000000 ≤ x.Low ∧ x.Low ≤ 1000000000000000) ∧ -1000000000000000 ≤ x.High ∧ x.High ≤ 1000000000000000) (hbl : b.length ≤ 4096) (t : Nat) (ht : t + 8 ≤ b.length) (x : Int) (hx : out[t]? = some x) : ∀ (k N i : Nat) (lo hi : Int), k = 8 - i → i ≤ 8 → k < N → (-(127000000000000000 * (i : Int)) ≤ lo ∧ lo ≤ 127000000000000000 * i) → (-(127000000000000000 * (i : Int)) ≤ hi ∧ hi ≤ 127000000000000000 * i) →
    lo + loS ((wvL c 8).drop i) (b.drop (t + i)) ≤ x → x ≤ hi + hiS ((wvL c 8).drop i) (b.drop (t + i)) → law07_BankBands_9 F hd N (wvL c 8) t lo hi i b out = hd (wvL c 8) (w64 ((t : Int) + 1)) b out
  | k, 0, i, lo, hi, _, _, h, _, _, _, _ => by omega
  | 0, N + 1, i, lo, hi, hk, hi8, _, h1, h2, h3, h4 => by
    have hl := wvL_len c 8
    rw [List.drop_of_length_le (by omega : (wvL c 8).length ≤ i)] at h3 h4
    have e1 : ∀ q, loS [] q = 0 := fun q => rfl
    have e2 : ∀ q, hiS [] q = 0 := fun q => rfl
    rw [e1] at h3
    rw [e2] at h4
    have e : inR lo x hi = true := inR_iff.2 ⟨by omega, by omega⟩
    rw [law07_BankBands_9, bif_neg' (by omega), idx_nat, hx, bnd_eq, rIn, e, bnd_eq, Bool.not_true, cond_false]
  | k + 1, N + 1, i, lo, hi, hk, hi8, hN, h1, h2, h3, h4 => by
    have hl := wvL_len c 8
    have hw := wvL_get c 8 i (by omega)
    have hwi := wv_in c i
    obtain ⟨y, hy⟩ := get_lt (l := b) (i := t + i) (by omega)
    obtain ⟨g1, g2⟩ := hb y (List.mem_of_getElem? hy)
    have p1 := mul_in (a := wv c i) (b := y.Low) (x := 127) (y := 1000000000000000) hwi g1 (by omega) (by omega)
    have p2 := mul_in (a := wv c i) (b := y.High) (x := 127) (y := 1000000000000000) hwi g2 (by omega) (by omega)
    have ei : w64 ((t : Int) + (i : Int)) = ((t + i : Nat) : Int) := by rw [w64_id (by omega) (by omega)]; omega
    rw [drop_get hw, drop_get hy, loS] at h3
    rw [drop_get hw, drop_get hy, hiS] at h4
    rw [show t + i + 1 = t + (i + 1) by omega] at h3 h4
    have ih := la9 hd hb hbl t ht x hx k N (i + 1) (lo + min (wv c i * y.Low) (wv c i * y.High)) (hi + max (wv c i * y.Low) (wv c i * y.High)) (by omega) (by omega) (by omega) (by omega) (by omega) (by omega) (by omega)
    rw [law07_BankBands_9, bif_pos' (by omega), idx_nat, hw, bnd_eq, ei, idx_nat, hy, bnd_eq, bnd_eq, bnd_eq, w64_id (n := wv c i * y.Low) (by omega) (by omega), w64_id (n := wv c i * y.High) (by omega) (by omega), w64_id (n := lo + min (wv c i * y.Low) (wv c i * y.High)) (by omega) (by omega), w64_id (n := hi + max (wv c i * y.Low) (wv c i * y.High)) (by omega) (by omega), up (by omega)]
    exact ih
theorem la8 (hF : 1000 < F) (hw : works F = some true) (hb : ∀ x ∈ b, (-1000000000000000 ≤ x.Low ∧ x.Low ≤ 1000000000000000) ∧ -1000000000000000 ≤ x.High ∧ x.High ≤ 1000000000000000) (hbl : b.length ≤ 512) (hol : out.length + 7 = b.length) (ho : ∀ (t : Nat) (x : Int), out[t]? = some x → loS (wvL c 8) (b.drop t) ≤ x ∧ x ≤ hiS (wvL c 8) (b.drop t)) : ∀ (k N t : Nat), k = out.length - t → t ≤ out.length → k < N → law07_BankBands_8 F N (wvL c 8) t b out = some true
  | k, 0, t, _, _, h => by omega
  | 0, N + 1, t, hk, ht, _ => by
    rw [law07_BankBands_8, bif_neg' (by omega), hw]
    rfl
  | k + 1, N + 1, t, hk, ht, hN => by
    obtain ⟨x, hx⟩ := get_lt (l := out) (i := t) (by omega)
    obtain ⟨o1, o2⟩ := ho t x hx
    have ih := la8 hF hw hb hbl hol ho k N (t + 1) (by omega) (by omega) (by omega)
    have := la9 F c b out (law07_BankBands_8 F N) hb (by omega) t (by omega) x hx 8 F 0 0 0 rfl (by omega) (by omega) (by omega) (by omega) (by rw [List.drop_zero, Nat.add_zero]; omega) (by rw [List.drop_zero, Nat.add_zero]; omega)
    rw [law07_BankBands_8, bif_pos' (by omega)]
    refine Eq.trans this ?_
    rw [up (by omega)]
    exact ih
end
theorem abs_eq (F : Nat) (x : Int) (h : -9000000000000000000 ≤ x ∧ x ≤ 9000000000000000000) : ref00_Abs F x = some (if x < 0 then -x else x) := by
  unfold ref00_Abs
  by_cases g : x < 0
  · rw [bif_pos' g, if_pos g, w64_id (by omega) (by omega)]
  · rw [bif_neg' g, if_neg g]
section
variable (F : Nat) (m : S_api_Model) (s : List Int) (c : S_api_Chirp) (e : List S_api_Tap)
theorem la6 (hF : 5000 < F) (hw : works F = some true) (hm : modelB m = true) (hs : ∀ y ∈ s, numB y = true) (hc : okC ((8 : Nat) : Int) c = true) (hr : Rel3 m.Taps e e) (h8 : 8 ≤ s.length) (h5 : s.length ≤ 512) : ∀ (k N i : Nat), k = s.length - i → i ≤ s.length → k < N → (∀ x ∈ ((strainM ⟨e, m.Shift⟩ s).map (·.Low)).take i, -32768 ≤ x ∧ x ≤ 32768) → law07_BankBands_6 F N (wvL c 8) i c (strainM m s) (strainM ⟨e, m.Shift⟩ s) (((strainM ⟨e, m.Shift⟩ s).map (·.Low)).take i) = some true
  | k, 0, i, _, _, h, _ => by omega
  | 0, N + 1, i, hk, hi, _, hall => by
    obtain rfl : i = s.length := by omega
    have hL := strain_len ⟨e, m.Shift⟩ s
    have hB := strain_len m s
    have hml : ((strainM ⟨e, m.Shift⟩ s).map (·.Low)).length = s.length := by simp [hL]
    rw [List.take_of_length_le (by omega)] at hall ⊢
    have had : areD ((strainM ⟨e, m.Shift⟩ s).map (·.Low)) = true := by
      unfold areD
      rw [Bool.and_eq_true, decide_eq_true_eq, List.all_eq_true]
      exact ⟨by omega, fun x hx => inR_iff.2 (hall x hx)⟩
    have hf := Filter_eq F (by omega) 8 c hc _ had
    rw [hml] at hf
    have hol := outF_len (wvL c 8) ((strainM ⟨e, m.Shift⟩ s).map (·.Low)) (s.length + 1 - 8) 0
    have key := la8 F c (strainM m s) (outF (wvL c 8) ((strainM ⟨e, m.Shift⟩ s).map (·.Low)) (s.length + 1 - 8) 0) (by omega) hw (fun x hx => by
      obtain ⟨t, ht⟩ := List.getElem?_of_mem hx
      have htl : t < s.length := by
        have := (List.getElem?_eq_some_iff.1 ht).1
        omega
      rw [strain_get m s t htl] at ht
      cases ht
      exact band_big hm _ (fun y hy => hs y (List.mem_of_mem_take hy))) (by omega) (by omega) (fun t x hx => by
      have htl : t < s.length + 1 - 8 := by
        have := (List.getElem?_eq_some_iff.1 hx).1
        omega
      rw [outF_get _ _ _ _ _ htl, Nat.zero_add] at hx
      have hwl := wvL_len c 8
      have hdl : (((strainM ⟨e, m.Shift⟩ s).map (·.Low)).drop t).length = s.length - t := by rw [List.length_drop, hml]
      have hbig := dot_big (wvL c 8) (((strainM ⟨e, m.Shift⟩ s).map (·.Low)).drop t) (fun y hy => by
        obtain ⟨q, hq⟩ := List.getElem?_of_mem hy
        have hql : q < 8 := by
          have := (List.getElem?_eq_some_iff.1 hq).1
          omega
        rw [wvL_get c 8 q hql] at hq
        cases hq
        exact wv_in c q) (fun y hy => hall y (List.mem_of_mem_drop hy))
      rw [hwl] at hbig
      rw [w64_id (by omega) (by omega)] at hx
      cases hx
      refine dot_in _ _ _ (by omega) (by rw [List.length_drop]; omega) fun i z y hz hy => ?_
      rw [List.getElem?_drop] at hz hy
      have hil : t + i < s.length := by
        have := (List.getElem?_eq_some_iff.1 hy).1
        omega
      rw [strain_get m s _ hil] at hy
      rw [List.getElem?_map, strain_get ⟨e, m.Shift⟩ s _ hil] at hz
      cases hy
      cases hz
      exact band_in hr m.Shift.toNat _) (s.length + 1 - 8) F 0 (by omega) (by omega) (by omega)
    rw [law07_BankBands_6, bif_neg' (by omega)]
    have hf' : bank_Filter F (8 : Int) c ((strainM ⟨e, m.Shift⟩ s).map (·.Low)) = _ := hf
    rw [hf', bnd_eq]
    show (bif (!((0 : Int) == 0)) then _ else law07_BankBands_7 F (wvL c 8) (!(((outF (wvL c 8) ((strainM ⟨e, m.Shift⟩ s).map (·.Low)) (s.length + 1 - 8) 0).length : Int) == (w64 (((strainM m s).length : Int) - 7)))) (strainM m s) (outF (wvL c 8) ((strainM ⟨e, m.Shift⟩ s).map (·.Low)) (s.length + 1 - 8) 0)) = _
    have eq : (((outF (wvL c 8) ((strainM ⟨e, m.Shift⟩ s).map (·.Low)) (s.length + 1 - 8) 0).length : Int) == (w64 (((strainM m s).length : Int) - 7))) = true := by
      rw [w64_id (by omega) (by omega), beq_iff_eq]
      omega
    rw [show (!((0 : Int) == 0)) = false from rfl, cond_false, eq]
    unfold law07_BankBands_7
    rw [Bool.not_true, cond_false]
    exact key
  | k + 1, N + 1, i, hk, hi, hN, hall => by
    have hL := strain_len ⟨e, m.Shift⟩ s
    have hml : ((strainM ⟨e, m.Shift⟩ s).map (·.Low)).length = s.length := by simp [hL]
    have hx := strain_get ⟨e, m.Shift⟩ s i (by omega)
    have hem := (rel_model hm hr).1
    have hbig := (band_big hem (s.take (i + 1)) (fun y hy => hs y (List.mem_of_mem_take hy))).1
    rw [law07_BankBands_6, bif_pos' (by omega), idx_nat, hx, bnd_eq, abs_eq F _ (by
      have h1 := hbig.1
      have h2 := hbig.2
      exact ⟨by show _ ≤ (bandM e m.Shift.toNat (s.take (i + 1))).Low; simp only at h1; omega, by show (bandM e m.Shift.toNat (s.take (i + 1))).Low ≤ _; simp only at h2; omega⟩), bnd_eq]
    generalize hv : bandM (S_api_Model.mk e m.Shift).Taps (S_api_Model.mk e m.Shift).Shift.toNat (s.take (i + 1)) = w at hx hbig
    by_cases g : (32768 : Int) < (if w.Low < 0 then -w.Low else w.Low)
    · rw [bif_pos' g, hw]
      rfl
    · have hlow : -32768 ≤ w.Low ∧ w.Low ≤ 32768 := by
        split at g <;> omega
      have hxm : ((strainM ⟨e, m.Shift⟩ s).map (·.Low))[i]? = some w.Low := by
        rw [List.getElem?_map, hx]
        rfl
      have etk : ((strainM ⟨e, m.Shift⟩ s).map (·.Low)).take (i + 1) = ((strainM ⟨e, m.Shift⟩ s).map (·.Low)).take i ++ [w.Low] := by
        rw [List.take_add_one, hxm]
        rfl
      have ih := la6 hF hw hm hs hc hr h8 h5 k N (i + 1) (by omega) (by omega) (by omega) (fun x hx => by
        rw [etk] at hx
        rcases List.mem_append.1 hx with hx | hx
        · exact hall x hx
        · simp at hx
          subst hx
          exact hlow)
      rw [bif_neg' g, bnd_eq, apd_ok (by simp; omega) (by omega), bnd_eq, up (by omega), ← etk]
      exact ih
end
section
variable (F : Nat) (m : S_api_Model) (s : List Int) (c : S_api_Chirp)
theorem la4 (hF : 5000 < F) (hw : works F = some true) (hm : modelB m = true) (hsr : seriesB s = true) (hc : okC ((8 : Nat) : Int) c = true) (h8 : 8 ≤ s.length) (h5 : s.length ≤ 512) : ∀ (k N i : Nat) (acc : List S_api_Tap), k = m.Taps.length - i → i ≤ m.Taps.length → k < N → Rel3 (m.Taps.take i) acc acc → law07_BankBands_4 F N s (wvL c 8) i m.Taps m.Shift c m.Shift (strainM m s) acc = some true
  | k, 0, i, acc, _, _, h, _ => by omega
  | 0, N + 1, i, acc, hk, hi, _, hr => by
    rw [List.take_of_length_le (by omega)] at hr
    have hem := (rel_model hm hr).1
    have hs := hsr
    unfold seriesB at hs
    simp only [Bool.and_eq_true, decide_eq_true_eq, List.all_eq_true] at hs
    have h1 := strain_len m s
    have h2 := strain_len ⟨acc, m.Shift⟩ s
    have := la6 F m s c acc hF hw hm hs.2 hc hr h8 h5 s.length F 0 rfl (by omega) (by omega) (by simp)
    rw [List.take_zero] at this
    rw [law07_BankBands_4, bif_neg' (by omega), Strain_eq F (by omega), bnd_eq]
    unfold strainR
    rw [hem, hsr, cond_true, cond_true]
    show (bif (!((0 : Int) == 0)) then _ else law07_BankBands_5 F (wvL c 8) (!(((strainM ⟨acc, m.Shift⟩ s).length : Int) == ((strainM m s).length : Int))) c (strainM m s) (strainM ⟨acc, m.Shift⟩ s)) = _
    rw [show (!((0 : Int) == 0)) = false from rfl, cond_false, h1, h2, beq_self_eq_true]
    unfold law07_BankBands_5
    rw [Bool.not_true, cond_false]
    exact this
  | k + 1, N + 1, i, acc, hk, hi, hN, hr => by
    have hm' := hm
    unfold modelB at hm'
    simp only [Bool.and_eq_true, List.all_eq_true] at hm'
    have hT := inR_iff.1 hm'.1
    obtain ⟨x, hx⟩ := get_lt (l := m.Taps) (i := i) (by omega)
    have hxt := tapB_iff.1 (hm'.2.2 x (List.mem_of_getElem? hx))
    obtain ⟨l1, l2⟩ := rel_len hr
    rw [List.length_take] at l1
    have hd : Int.fdiv (x.Low + x.High) 2 = (x.Low + x.High) / 2 := Int.fdiv_eq_ediv_of_nonneg _ (by omega)
    have hr2 : Rel3 (m.Taps.take (i + 1)) (acc ++ [S_api_Tap.mk ((x.Low + x.High) / 2) ((x.Low + x.High) / 2)]) (acc ++ [S_api_Tap.mk ((x.Low + x.High) / 2) ((x.Low + x.High) / 2)]) := by
      rw [List.take_add_one, hx]
      exact Rel3.snoc ⟨rfl, rfl, by show x.Low ≤ (x.Low + x.High) / 2; omega, Int.le_refl _, by show (x.Low + x.High) / 2 ≤ x.High; omega⟩ hr
    have ih := la4 hF hw hm hsr hc h8 h5 k N (i + 1) _ (by omega) (by omega) (by omega) hr2
    rw [law07_BankBands_4, bif_pos' (by omega), idx_nat, hx, bnd_eq, bnd_eq, w64_id (n := x.Low + x.High) (by omega) (by omega), Down_eq F _ 2 (by omega) (by omega) (by omega), hd, bnd_eq, apd_ok (by simp; omega) (by omega), bnd_eq, up (by omega)]
    exact ih
end
theorem la1 (F : Nat) (hw : works F = some true) (v1 v9 : List Int) (t : List S_api_Tap) (sh : Int) (c : S_api_Chirp) (b : List S_api_Tap) : law07_BankBands_1 F v1 v9 true t sh c b = some true := by
  unfold law07_BankBands_1 law07_BankBands_2 law07_BankBands_3
  rw [cond_true, cond_true, cond_true, hw]
  rfl
theorem la10 (F : Nat) (hF : 5000 < F) (c : S_api_Chirp) (hc : okC ((8 : Nat) : Int) c = true) (v1 : List Int) (e : Int) (ts : List S_api_Tap) (sh : Int) (b : List S_api_Tap) : ∀ (k N i : Nat) (l : List Int), k = 8 - i → i ≤ 8 → k < N → l.length = 66 → l[64]? = some ((8 : Nat) : Int) → l.take i = wvL c i →
    law07_BankBands_10 F N 8 i v1 e c ts sh c l b = law07_BankBands_1 F v1 (wvL c 8) (!(e == 0)) ts sh c b
  | k, 0, i, l, _, _, h, _, _, _ => by omega
  | 0, N + 1, i, l, hk, hi, _, hl, h64, ht => by
    obtain rfl : i = 8 := by omega
    have hs := samples_eq F (n := 8) (by omega) hl h64
    have hp := product_eq F (l.take 8) (l.take 8) (by simp; omega) (by simp; omega)
    have h64' : (l.set 65 (w64 (dot (l.take 8) (l.take 8))))[64]? = some ((8 : Nat) : Int) := by rw [List.getElem?_set_ne (by omega)]; exact h64
    have es := subP_ok (len := 64) (a := 0) (b := 8) (lo := 0) (hi := ((8 : Nat) : Int)) rfl rfl (by omega) (by omega)
    rw [law07_BankBands_10, bif_neg' (by omega), hs, bnd_eq, bnd_eq, hp, bnd_eq, upd_at (by omega), bnd_eq, h64', bnd_eq, es, bnd_eq, parL_ok (by simp [hl]), bnd_eq]
    have ek : ((l.set 65 (w64 (dot (l.take 8) (l.take 8)))).drop (0 + 0)).take (8 - 0) = wvL c 8 := by
      rw [Nat.add_zero, List.drop_zero, List.take_set_of_le (by omega)]
      exact ht
    have ek' : (List.drop (0 + ((0, 8 - 0) : Nat × Nat).1) (l.set 65 (w64 (dot (l.take 8) (l.take 8))))).take ((0, 8 - 0) : Nat × Nat).2 = wvL c 8 := ek
    rw [ek']
    cases e == 0 <;> rfl
  | k + 1, N + 1, i, l, hk, hi, hN, hl, h64, ht => by
    obtain ⟨g1, g2, g3⟩ := okC_iff hc
    have ih := la10 F hF c hc v1 e ts sh b k N (i + 1) (l.set (0 + i * 1) (wv c i)) (by omega) (by omega) (by omega) (by simp [hl]) (by rw [List.getElem?_set_ne (by omega)]; exact h64) (setW c hl (by omega) ht)
    rw [law07_BankBands_10, bif_pos' (by omega), wv_arg c g2 g3 i (by omega) F (by omega), bnd_eq, inA_nat (j := i) (by omega) rfl, bnd_eq, upd_at (by omega), bnd_eq, up (by omega)]
    exact ih
theorem law_eq (F : Nat) (m : S_api_Model) (s : List Int) (c : S_api_Chirp) (hF : 5000 < F) (hw : works F = some true) : law07_BankBands F m s c = some true := by
  unfold law07_BankBands
  have hck : bank_CheckChirp F (8 : Int) c = some (bif okC ((8 : Nat) : Int) c then 0 else 70) := bCheck_eq F 8 c
  rw [Strain_eq F (by omega), bnd_eq, hck, bnd_eq]
  cases hc : okC ((8 : Nat) : Int) c with
  | false =>
    rw [cond_false, show (!((70 : Int) == 0)) = true from rfl, cond_true, la1 F hw]
    cases (!((strainR m s).2 == 0)) <;> rfl
  | true =>
    rw [cond_true, show (!((0 : Int) == 0)) = false from rfl, cond_false]
    have h10 := la10 F hF c hc s (strainR m s).2 m.Taps m.Shift (strainR m s).1 8 F 0 ([0, 0, 0, 0, 0, 0, 0, 0, 0, 0, 0, 0, 0, 0, 0, 0, 0, 0, 0, 0, 0, 0, 0, 0, 0, 0, 0, 0, 0, 0, 0, 0, 0, 0, 0, 0, 0, 0, 0, 0, 0, 0, 0, 0, 0, 0, 0, 0, 0, 0, 0, 0, 0, 0, 0, 0, 0, 0, 0, 0, 0, 0, 0, 0, 8, 0] : List Int) rfl (by omega) (by omega) rfl rfl rfl
    refine Eq.trans h10 ?_
    unfold strainR
    cases hm : modelB m with
    | false => exact la1 F hw _ _ _ _ _ _
    | true =>
      cases hsr : seriesB s with
      | false => exact la1 F hw _ _ _ _ _ _
      | true =>
        show law07_BankBands_1 F s (wvL c 8) false m.Taps m.Shift c (strainM m s) = some true
        have hl := strain_len m s
        have hw3 : law07_BankBands_3 F s (wvL c 8) true m.Taps m.Shift c (strainM m s) = some true := by
          unfold law07_BankBands_3
          rw [cond_true, hw]
          rfl
        unfold law07_BankBands_1 law07_BankBands_2
        rw [cond_false, hl]
        by_cases h8 : s.length < 8
        · rw [decide_eq_true (by omega : (s.length : Int) < 8), cond_true]
          exact hw3
        · rw [decide_eq_false (by omega : ¬ (s.length : Int) < 8), cond_false]
          by_cases h5 : 512 < s.length
          · rw [decide_eq_true (by omega : (512 : Int) < (s.length : Int))]
            exact hw3
          · rw [decide_eq_false (by omega : ¬ (512 : Int) < (s.length : Int))]
            unfold law07_BankBands_3
            rw [cond_false]
            have hm' := hm
            unfold modelB at hm'
            simp only [Bool.and_eq_true, List.all_eq_true] at hm'
            have hT := inR_iff.1 hm'.1
            exact la4 F m s c hF hw hm hsr hc (by omega) (by omega) m.Taps.length F 0 [] rfl (by omega) (by omega) .nil
end Go.Ev.BankBands
