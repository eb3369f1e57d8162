/- SearchFilled answers true. -/
import Derived.Test.YtjddbfpinjjkkabGreatDoorSearchFilledMath13
namespace Go.Ev.SearchFilled
open Go Go.Ev Go.Proofs
set_option linter.unusedVariables false
theorem Mod_get (F : Nat) (x n : Int) (h1 : 1 ≤ n) (h2 : n ≤ 1000) : ∃ r, ref00_Mod F x n = some r ∧ 0 ≤ r ∧ r < n := by
  unfold ref00_Mod ref00_Mod_1
  rw [bif_neg' (by omega), nz_ok (by omega), bnd_eq]
  have g1 : Int.tmod x n < n := Int.tmod_lt_of_pos x (by omega)
  have g2 : -n < Int.tmod x n := by
    have := Int.lt_tmod_of_pos x (show 0 < n by omega)
    omega
  by_cases h : Int.tmod x n < 0
  · rw [bif_pos' h, w64_id (by omega) (by omega)]
    exact ⟨_, rfl, by omega, by omega⟩
  · rw [bif_neg' h]
    exact ⟨_, rfl, by omega, by omega⟩
theorem sf5 (F : Nat) (ws : List S_api_Wave) (H : List S_api_Hit) (hH : H.length ≤ 1000) : ∀ (k N i : Nat) (acc : List S_api_Trigger), k = H.length - i → i ≤ H.length → k < N → acc.length ≤ i →
    law08_SearchFilled_5 F N i ws H acc = bnd (search_Found F (acc ++ (H.drop i).map trg) ws (40 : Int) (0 : Int)) fun r128 => bif (r128.2 == (0 : Int)) then law08_SearchFilled_6 F ((r128.1.length : Int) == (1 : Int)) r128.1 else law08_SearchFilled_6 F false r128.1
  | k, 0, i, acc, _, _, h, _ => by omega
  | 0, N + 1, i, acc, hk, hi, _, _ => by
    rw [law08_SearchFilled_5, bif_neg' (by omega), List.drop_of_length_le (by omega : H.length ≤ i), List.map_nil, List.append_nil]
  | k + 1, N + 1, i, acc, hk, hi, hN, ha => by
    obtain ⟨x, hx⟩ := get_lt (l := H) (i := i) (by omega)
    have ih := sf5 F ws H hH k N (i + 1) (acc ++ [trg x]) (by omega) (by omega) (by omega) (by rw [List.length_append]; show acc.length + 1 ≤ i + 1; omega)
    rw [law08_SearchFilled_5, bif_pos' (by omega), idx_nat, hx, bnd_eq, apd_ok (by show acc.length + 1 ≤ _; omega) (by omega), bnd_eq, up (by omega), drop_get hx, List.map_cons]
    refine Eq.trans ih ?_
    rw [List.append_assoc]
    rfl
theorem sf4 (F : Nat) (hF : 2000 < F) (hw : works F = some true) (c : S_api_Chirp) (hc : chB c = true) (hn : nrm c 8 ≠ 0) (A : Nat) (hA : A ≤ 32) (g : Int) (hg : 1 ≤ g ∧ g ≤ 64) : law08_SearchFilled_4 F false c [⟨(A : Int), g, wvL c 8⟩] (dF c A g) = some true := by
  have hdl := dF_len c A g hA
  have hdd := dF_data c A g hA hg
  have hwv := (inject_one F (by omega) c A g hA hg).2
  have hbk : bank_CheckBank F (8 : Int) [c] = some 0 := bank_one F (by omega) 8 (by omega) (by omega) c hc hn
  have hab : areB 1 1 = true := by decide
  have hh := hw1 F (by omega) 8 (by omega) (by omega) (dF c A g) hdd 1 1 hab [c] (by simp) (fun x hx => by rw [List.mem_singleton.1 hx]; exact hc) 1 F 0 rfl (by simp) (by omega)
  have hh' : bank_Hits_1 F F (8 : Int) [c] (([c] : List S_api_Chirp).length : Int) (0 : Int) (dF c A g) (1 : Int) (1 : Int) ([] : List (List Int)) = some (srt (hitsL 8 (dF c A g) (1 * 1) ((dF c A g).length + 1 - 8) 0 [c]), 0) := hh
  rw [hdl] at hh'
  have hn0 := nrm_in c 8 (by omega)
  obtain ⟨ht1, ht2⟩ := hitF_times c 8 0 (dF c A g) 1 33 0
  have hlen := hitF_len c 8 0 (dF c A g) 1 33 0
  have hld : ldB c 8 (dF c A g) 1 A = true := by
    have m1 : 1 * nrm c 8 ≤ g * nrm c 8 := Int.mul_le_mul_of_nonneg_right hg.1 hn0.1
    have m2 : 1 * (g * nrm c 8) ≤ (g * nrm c 8) * (g * nrm c 8) := Int.mul_le_mul_of_nonneg_right (by omega) (by omega)
    unfold ldB
    rw [dF_out, Bool.and_eq_true, decide_eq_true_eq, decide_eq_true_eq]
    omega
  have hmem := hitF_mem c 8 0 (dF c A g) 1 A hld 33 0 (by omega) (by omega)
  have e : hitsL 8 (dF c A g) (1 * 1) (40 + 1 - 8) 0 [c] = hitF c 8 0 (dF c A g) 1 33 0 := by
    rw [hitsL, hitsL, List.append_nil]
    rfl
  rw [e] at hh'
  generalize hitF c 8 0 (dF c A g) 1 33 0 = L at *
  have hok := srt_ok L ht2 (fun x hx => by have := ht1 x hx; omega) (by omega)
  have hsl := (srt_perm L).length_eq
  have hsm := (srt_perm L).mem_iff.2 hmem
  unfold law08_SearchFilled_4 bank_Hits bank_checkHits
  rw [cond_false, hbk, bnd_eq, show (!((0 : Int) == 0)) = false from rfl, cond_false, areData_eq F (by omega), hdd, bnd_eq, Bool.not_true, cond_false, areB_eq, hab, bnd_eq, Bool.not_true, cond_false, bnd_eq, show (!((0 : Int) == 0)) = false from rfl, cond_false, hh', bnd_eq]
  show (bif (!((0 : Int) == 0)) then some false else law08_SearchFilled_5 F F ((0 : Nat) : Int) [⟨(A : Int), g, wvL c 8⟩] (srt L) []) = _
  rw [show (!((0 : Int) == 0)) = false from rfl, cond_false, sf5 F _ (srt L) (by omega) (srt L).length F 0 [] rfl (by omega) (by omega) (Nat.zero_le _), List.drop_zero, List.nil_append, Found_eq F (by omega) _ _ _ _ (by rw [List.length_map]; omega), bnd_eq]
  have hf : fndR ((srt L).map trg) [⟨(A : Int), g, wvL c 8⟩] 40 0 = ([true], 0) := by
    unfold fndR
    rw [hok, cond_true, show (inR 0 40 1024 && inR 0 0 1073741824) = true by decide, cond_true, hwv, cond_true]
    unfold fnd
    have : ((srt L).map trg).any (near 0 ⟨(A : Int), g, wvL c 8⟩) = true := by
      rw [List.any_eq_true]
      refine ⟨_, List.mem_map_of_mem hsm, ?_⟩
      unfold near
      refine inR_iff.2 ?_
      show (A : Int) - 0 ≤ (A : Int) ∧ (A : Int) ≤ (A : Int) + 0
      omega
    rw [List.map_cons, List.map_nil, this]
  rw [hf]
  show law08_SearchFilled_6 F true [true] = some true
  unfold law08_SearchFilled_6 law08_SearchFilled_7 law08_SearchFilled_8
  rw [cond_true]
  show (bif true then bnd (works F) fun r137 => some r137 else some false) = _
  rw [cond_true, hw]
  rfl
theorem sf3 (F : Nat) (hF : 2000 < F) (hw : works F = some true) (c : S_api_Chirp) (hc : chB c = true) (a b : Int) : law08_SearchFilled_3 F a b (wvL c 8) (nrm c 8) (nrm c 8 == (0 : Int)) c = some true := by
  unfold law08_SearchFilled_3
  by_cases hn : nrm c 8 = 0
  · rw [show (nrm c 8 == (0 : Int)) = true from beq_iff_eq.2 hn, cond_true, hw]
    rfl
  · obtain ⟨r, hr, r1, r2⟩ := Mod_get F a 33 (by omega) (by omega)
    obtain ⟨q, hq, q1, q2⟩ := Mod_get F b 64 (by omega) (by omega)
    obtain ⟨A, rfl⟩ : ∃ A : Nat, r = A := ⟨r.toNat, by omega⟩
    have hA : A ≤ 32 := by omega
    have hg : 1 ≤ 1 + q ∧ 1 + q ≤ 64 := by omega
    have hdl := dF_len c A (1 + q) hA
    have hok : okC ((8 : Nat) : Int) c = true := by
      unfold okC
      rw [Bool.and_eq_true]
      exact ⟨rfl, hc⟩
    have hmk : mk (40 : Int) 8 (0 : Int) = some (List.replicate 40 0) := mk_ok (n := 40) (by omega) (by omega)
    have hfl : bank_Filter F (8 : Int) c (dF c A (1 + q)) = some (outF (wvL c 8) (dF c A (1 + q)) ((dF c A (1 + q)).length + 1 - 8) 0, 0) := Filter_eq F (by omega) 8 c hok _ (dF_data c A _ hA hg)
    rw [hdl] at hfl
    have hol := outF_len (wvL c 8) (dF c A (1 + q)) (40 + 1 - 8) 0
    have hog := outF_get (wvL c 8) (dF c A (1 + q)) (40 + 1 - 8) 0 A (by omega)
    rw [Nat.zero_add, dF_out] at hog
    rw [show (nrm c 8 == (0 : Int)) = false from beq_eq_false_iff_ne.2 hn, cond_false, hr, bnd_eq, hq, bnd_eq, hmk, bnd_eq, w64_id (n := 1 + q) (by omega) (by omega), (inject_one F (by omega) c A (1 + q) hA hg).1, bnd_eq]
    show (bif (!((0 : Int) == 0)) then some false else bnd (bank_Filter F (8 : Int) c (dF c A (1 + q))) _) = _
    rw [show (!((0 : Int) == 0)) = false from rfl, cond_false, hfl, bnd_eq]
    generalize outF (wvL c 8) (dF c A (1 + q)) (40 + 1 - 8) 0 = O at *
    show (bif (!((0 : Int) == 0)) then _ else bif (!((O.length : Int) == (33 : Int))) then _ else bnd (some (⟨(A : Int), 1 + q, wvL c 8⟩ : S_api_Wave)) _) = _
    rw [show (!((0 : Int) == 0)) = false from rfl, cond_false, hol, show (!(((40 + 1 - 8 : Nat) : Int) == 33)) = false from rfl, cond_false, bnd_eq]
    show bnd O[A]? _ = _
    rw [hog, bnd_eq]
    show law08_SearchFilled_4 F (!(w64 ((1 + q) * nrm c 8) == w64 ((1 + q) * nrm c 8))) c [⟨(A : Int), 1 + q, wvL c 8⟩] (dF c A (1 + q)) = _
    rw [show (!(w64 ((1 + q) * nrm c 8) == w64 ((1 + q) * nrm c 8))) = false by simp]
    exact sf4 F hF hw c hc hn A hA (1 + q) hg
theorem sf1 (F : Nat) (hF : 2000 < F) (hw : works F = some true) (c : S_api_Chirp) (hc : chB c = true) (a b : Int) : ∀ (k N i : Nat), k = 8 - i → i ≤ 8 → k < N → law08_SearchFilled_1 F N 8 i a b c c (WI c 8 i) = some true
  | k, 0, i, _, _, h => by omega
  | 0, N + 1, i, hk, hi, _ => by
    obtain rfl : i = 8 := by omega
    obtain ⟨g1, g2, g3⟩ := WI_end F (by omega) c 8 (by omega)
    have es := subP_ok (len := 64) (a := 0) (b := 8) (lo := 0) (hi := ((8 : Nat) : Int)) rfl rfl (by omega) (by omega)
    have hno : bank_Norm F (8 : Int) c = some (nrm c 8, 0) := Norm_eq F (by omega) c hc 8 (by omega) (by omega)
    rw [law08_SearchFilled_1, bif_neg' (by omega), g1, bnd_eq, bnd_eq, g2, bnd_eq, g3, bnd_eq, WV_64 c 8 (by omega), bnd_eq, es, bnd_eq, parL_ok (by rw [WV_len c 8 (by omega)]; simp), bnd_eq, hno, bnd_eq]
    have ek : (List.drop (0 + ((0, 8 - 0) : Nat × Nat).1) (WV c 8)).take ((0, 8 - 0) : Nat × Nat).2 = wvL c 8 := by
      show ((WV c 8).drop 0).take 8 = _
      rw [List.drop_zero, WV_take]
    rw [ek]
    show law08_SearchFilled_2 F a b (wvL c 8) (nrm c 8) false c = _
    unfold law08_SearchFilled_2
    rw [cond_false]
    exact sf3 F hF hw c hc a b
  | k + 1, N + 1, i, hk, hi, hN => by
    rw [law08_SearchFilled_1, bif_pos' (by omega), step_arg F (by omega) c hc 8 (by omega) i (by omega), bnd_eq, inA_nat (j := i) (by omega) rfl, bnd_eq, WI_set c 8 i (by omega), bnd_eq, up (by omega)]
    exact sf1 F hF hw c hc a b k N (i + 1) (by omega) (by omega) (by omega)
theorem law_eq (F : Nat) (c : S_api_Chirp) (a b : Int) (hF : 2000 < F) (hw : works F = some true) : law08_SearchFilled F c a b = some true := by
  have hck : bank_CheckChirp F (8 : Int) c = some (bif okC ((8 : Nat) : Int) c then 0 else 70) := bCheck_eq F 8 c
  unfold law08_SearchFilled
  rw [hck, bnd_eq]
  cases hc : okC ((8 : Nat) : Int) c with
  | false =>
    rw [cond_false, show (!((70 : Int) == 0)) = true from rfl, cond_true]
    unfold bank_Norm
    rw [hck, hc, cond_false, bnd_eq, show (!((70 : Int) == 0)) = true from rfl, cond_true, bnd_eq, hw]
    rfl
  | true =>
    have hc' : chB c = true := by
      unfold okC at hc
      rw [Bool.and_eq_true] at hc
      exact hc.2
    rw [cond_true, show (!((0 : Int) == 0)) = false from rfl, cond_false]
    exact sf1 F hF hw c hc' a b 8 F 0 rfl (by omega) (by omega)
end Go.Ev.SearchFilled
