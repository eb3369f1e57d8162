/- AlertChain. -/
import Derived.Test.YtoobfmfgbcohcaaDoorAlertChainMath9
namespace Go.Ev.AlertChain
open Go Go.Ev Go.Proofs
set_option linter.unusedVariables false
abbrev HdC := List S_api_Notice → Int → Int → List S_api_Key → List S_api_Notice → Option Bool
theorem ch10 (F : Nat) (hd : HdC) (v1 : List S_api_Notice) (i : Nat) (hi : i < 9223372036854775807) (q : Int) (ks : List S_api_Key) (L : List S_api_Notice) : law10_AlertChain_10 F hd v1 i false q ks L = hd v1 ((i + 1 : Nat) : Int) q ks L := by
  unfold law10_AlertChain_10
  rw [cond_false, up hi]
theorem ch5 (F : Nat) (hF : 20000 < F) (hd : HdC) (v1 : List S_api_Notice) (i : Nat) (hi : i < 9223372036854775807) (ev : List UInt8) (q : Int) (ks : List S_api_Key) (L : List S_api_Notice) (h : BoardOK L) : ∀ (n N k : Nat), n = (als L ev).length - k → k ≤ (als L ev).length → n < N →
    law10_AlertChain_5 F hd N v1 i ev k q ks L (als L ev) = hd v1 ((i + 1 : Nat) : Int) q ks L
  | n, 0, k, _, _, hh => by omega
  | 0, N + 1, k, hn, hk, _ => by
    have h1 := als_len L ev
    have h2 := h.len
    have hkk : k = (als L ev).length := by omega
    have hv := h.vldA ev
    rw [law10_AlertChain_5, bif_neg' (by omega), force_eq F (by omega) ev q ks L h, bnd_eq]
    generalize als L ev = H at *
    unfold forceT
    by_cases hH : H = []
    · subst hH
      rw [bif_neg' (by simp)]
      show law10_AlertChain_10 F hd v1 i false q ks L = _
      exact ch10 F hd v1 i hi q ks L
    · obtain ⟨x, g1, g2⟩ := last_idx hH (by omega)
      have hpos : 0 < H.length := List.length_pos_iff.2 hH
      have e0 : ((H.length : Int) == 0) = false := by rw [beq_eq_false_iff_ne]; omega
      have hx := vld_fine (hv x (List.mem_of_getLast? g1))
      have hxc := hx.cl
      rw [bif_pos' (by omega), g2, bnd_eq, g1, e0]
      dsimp only
      cases hw : x.Withdrawn with
      | true =>
        show law10_AlertChain_10 F hd v1 i false q ks L = _
        exact ch10 F hd v1 i hi q ks L
      | false =>
        have e : S_api_Alert.mk x.Event x.Version x.Time (S_api_Chance.mk x.Chance.N x.Chance.Of) x.Grid x.Cells false x.Before = x := by rw [← hw]
        simp only [cond_false, e]
        rw [show ((false == ((0 : Int) == 107))) = true from rfl, Bool.not_true, cond_false, show ((0 : Int) == 0) = true from rfl, cond_true, bnd_eq, same_self F x (by omega) (by omega), bnd_eq, Bool.not_true, cond_false]
        exact ch10 F hd v1 i hi q ks L
  | n + 1, N + 1, k, hn, hk, hN => by
    have h1 := als_len L ev
    have h2 := h.len
    have ih := ch5 F hF hd v1 i hi ev q ks L h n N (k + 1) (by omega) (by omega) (by omega)
    have hv := h.vldA ev
    have hc := h.chain ev
    obtain ⟨a, ha⟩ := get_lt (l := als L ev) (i := k) (by omega)
    obtain ⟨c1, c2, c3⟩ := hc k a ha
    have e1 : w64 ((k : Int) + 1) = (k : Int) + 1 := w64_id (by omega) (by omega)
    have hgo : law10_AlertChain_6 F (law10_AlertChain_5 F hd N) v1 i ev k false q ks L (als L ev) = hd v1 ((i + 1 : Nat) : Int) q ks L := by
      unfold law10_AlertChain_6
      rw [cond_false]
      cases k with
      | zero =>
        show law10_AlertChain_7 F _ v1 i ev ((0 : Nat) : Int) q ks L _ = _
        unfold law10_AlertChain_7
        rw [up (by omega)]
        exact ih
      | succ j =>
        obtain ⟨b, hb⟩ := get_lt (l := als L ev) (i := j) (by omega)
        obtain ⟨d1, d2⟩ := c3 j b rfl hb
        have hbf := vld_fine (hv b (List.mem_of_getElem? hb))
        have hbc := hbf.cl
        have e0 : (((j + 1 : Nat) : Int) == 0) = false := by rw [beq_eq_false_iff_ne]; omega
        have e2 : w64 (((j + 1 : Nat) : Int) - 1) = (j : Int) := by rw [w64_id (by omega) (by omega)]; omega
        have hdig : alert_Digest F b = some ((digT b : Int), 0) := by
          unfold alert_Digest
          rw [chk_eq F b (by omega) (by omega) (by omega), hv b (List.mem_of_getElem? hb), bnd_eq, cond_true, show ((0 : Int) == 0) = true from rfl, Bool.not_true, cond_false, digestOf_eq F hF hbf, bnd_eq]
        rw [e0, cond_false, e2, idx_nat, hb, bnd_eq, hdig, bnd_eq, show ((0 : Int) == 0) = true from rfl, Bool.not_true, cond_false, idx_nat, ha, bnd_eq, d1, beq_self_eq_true, Bool.not_true, cond_false, bnd_eq, bnd_eq]
        rw [decide_eq_false (show ¬ a.Time < b.Time by omega)]
        unfold law10_AlertChain_8 law10_AlertChain_7
        rw [cond_false, up (by omega)]
        exact ih
    rw [law10_AlertChain_5, bif_pos' (by omega), idx_nat, ha, bnd_eq, e1, c1, beq_self_eq_true, Bool.not_true, cond_false]
    unfold law10_AlertChain_9
    by_cases hlt : k + 1 < (als L ev).length
    · rw [bif_pos' (by omega), bnd_eq, c2 hlt]
      exact hgo
    · rw [bif_neg' (by omega)]
      exact hgo
theorem ch4 (F : Nat) (hF : 20000 < F) (hd : HdC) (v1 : List S_api_Notice) (i : Nat) (hi : i < 9223372036854775807) (ev : List UInt8) (q : Int) (ks : List S_api_Key) (L : List S_api_Notice) (h : BoardOK L) (B : List S_api_Alert) (hB : (als L ev).take B.length = B) (hBl : B.length ≤ (als L ev).length) :
    law10_AlertChain_2 F hd v1 i ev false q ks L B (als L ev) = hd v1 ((i + 1 : Nat) : Int) q ks L := by
  have h1 := als_len L ev
  have h2 := h.len
  have hv := h.vldA ev
  unfold law10_AlertChain_2 law10_AlertChain_3 law10_AlertChain_4
  rw [cond_false, decide_eq_false (by omega), cond_false, subc0 _ B.length hBl rfl, hB, bnd_eq, sameAlerts_self F (by omega) B (by omega) (fun a ha => (vld_fine (hv a (by rw [← hB] at ha; exact List.mem_of_mem_take ha))).cl), bnd_eq, Bool.not_true, cond_false]
  have h0 : ((0 : Nat) : Int) = 0 := rfl
  rw [← h0]
  exact ch5 F hF hd v1 i hi ev q ks L h _ F 0 rfl (by omega) (by omega)
theorem ch1 (F : Nat) (hF : 20000 < F) (hw : works F = some true) (r : S_api_Roll) (hr : rollB r = true) (l : List S_api_Notice) (hl : l.length ≤ 9223372036854775807) (hc : ∀ n ∈ l, n.Alert.Cells.length ≤ 9223372036854775807 ∧ n.Signatures.length ≤ 9223372036854775807) : ∀ (k N i : Nat) (L : List S_api_Notice), k = l.length - i → i ≤ l.length → k < N → BoardOK L →
    law10_AlertChain_1 F N l i r.Quorum r.Keys L = some true
  | k, 0, i, L, _, _, h, _ => by omega
  | 0, N + 1, i, L, hk, hi, _, h => by
    rw [law10_AlertChain_1, bif_neg' (by omega), hw, bnd_eq]
  | k + 1, N + 1, i, L, hk, hi, hN, h => by
    obtain ⟨n, hn⟩ := get_lt (l := l) (i := i) (by omega)
    obtain ⟨hn1, hn2⟩ := hc n (List.mem_of_getElem? hn)
    have ih := fun L' hL' => ch1 F hF hw r hr l hl hc k N (i + 1) L' (by omega) (by omega) (by omega) hL'
    have e : S_api_Notice.mk n.Alert n.Signatures = n := rfl
    have a1 := als_len L n.Alert.Event
    have a2 := h.len
    have e1 : w64 (((als L n.Alert.Event).length : Int) + 1) = ((als L n.Alert.Event).length : Int) + 1 := w64_id (by omega) (by omega)
    have e2 : (((als L n.Alert.Event).length : Int) == ((als L n.Alert.Event).length : Int) + 1) = false := by rw [beq_eq_false_iff_ne]; omega
    have hsame := sameAlerts_self F (by omega) (als L n.Alert.Event) (by omega) (fun a ha => (vld_fine (h.vldA _ a ha)).cl)
    have hnot := ch4 F hF (law10_AlertChain_1 F N) l i (by omega) n.Alert.Event r.Quorum r.Keys L h (als L n.Alert.Event) (List.take_length) (Nat.le_refl _)
    rw [law10_AlertChain_1, bif_pos' (by omega), idx_nat, hn, bnd_eq, alertsOf_eq F (by omega) _ _ _ L h, bnd_eq, bnd_eq, e, check_roll_eq' F hF r hr n hn1 hn2, bnd_eq]
    cases hz : noticeT r n == 0 with
    | false =>
      rw [Bool.not_false, cond_true, bnd_eq, e1, e2, show ((false == false)) = true from rfl, Bool.not_true, cond_false, hsame, bnd_eq, Bool.not_true, hnot]
      exact ih L h
    | true =>
      rw [Bool.not_true, cond_false, alertsOf_eq F (by omega) _ _ _ L h, bnd_eq, checkNext_eq F hF _ (by omega) (h.vldA _) n.Alert, bnd_eq]
      cases hy : lastE (als L n.Alert.Event) n.Alert == 0 with
      | false =>
        rw [Bool.not_false, cond_true, bnd_eq, e1, e2, show ((false == false)) = true from rfl, Bool.not_true, cond_false, hsame, bnd_eq, Bool.not_true, hnot]
        exact ih L h
      | true =>
        rw [Bool.not_true, cond_false]
        by_cases hfull : 256 ≤ L.length
        · rw [bif_pos' (by omega), bnd_eq, e1, e2, show ((7 : Int) == 0) = false from rfl, show ((false == false)) = true from rfl, Bool.not_true, cond_false, Bool.not_false, cond_true, hsame, bnd_eq]
          unfold law10_AlertChain_11
          rw [Bool.not_true, cond_false, hnot]
          exact ih L h
        · have hz' : noticeT r n = 0 := eq_of_beq hz
          have hy' : lastE (als L n.Alert.Event) n.Alert = 0 := eq_of_beq hy
          have hv : vldB n.Alert = true := by
            cases hv : vldB n.Alert with
            | true => rfl
            | false => unfold noticeT at hz'; rw [hv] at hz'; simp at hz'
          have hsg : sgB r.Keys (digT n.Alert) (-1) n.Signatures = true := by
            cases hs : sgB r.Keys (digT n.Alert) (-1) n.Signatures with
            | true => rfl
            | false => unfold noticeT at hz'; rw [hv, hs] at hz'; simp at hz'
          have hkl := (roll_facts hr).1
          have hsl : n.Signatures.length ≤ 8 := by
            rcases sg_len _ _ _ _ hsg with h0 | h0
            · rw [h0]; simp
            · omega
          have hL' := post_ok h (by omega) hv hy'
          have hals : als (L ++ [n]) n.Alert.Event = als L n.Alert.Event ++ [n.Alert] := by
            rw [als_app, show isOf n.Alert.Event n = true from beq_self_eq_true _, cond_true]
          have hpost := ch4 F hF (law10_AlertChain_1 F N) l i (by omega) n.Alert.Event r.Quorum r.Keys (L ++ [n]) hL' (als L n.Alert.Event) (by rw [hals]; exact List.take_left) (by rw [hals]; simp)
          have h120 : apd 120 L [n] = some (L ++ [n]) := by
            unfold apd
            rw [Nat.ble_eq_true_of_le (by simp; omega), Nat.ble_eq_true_of_le (by simp; omega)]; rfl
          have e3 : (((als (L ++ [n]) n.Alert.Event).length : Int) == ((als L n.Alert.Event).length : Int) + 1) = true := by rw [hals, beq_iff_eq]; simp
          rw [bif_neg' (by omega), copyN_eq F n (vld_fine hv).cl hsl, bnd_eq]
          simp only [alert_eta, e]
          rw [h120, bnd_eq, alertsOf_eq F (by omega) _ _ _ _ hL', bnd_eq, e1, e3]
          rw [show ((0 : Int) == 0) = true from rfl, show ((true == true)) = true from rfl, Bool.not_true, cond_false, cond_false]
          unfold law10_AlertChain_11
          rw [cond_false, hpost]
          exact ih _ hL'
theorem empty_ok : BoardOK [] := ⟨by simp, fun n hn => by simp at hn, fun ev k a ha => by simp [als] at ha⟩
theorem law_eq (F : Nat) (r : S_api_Roll) (l : List S_api_Notice) (h1 : r.Keys.length ≤ 9223372036854775807) (hl : l.length ≤ 9223372036854775807) (hlF : l.length + 70000 < F) (hc : ∀ n ∈ l, n.Alert.Cells.length ≤ 9223372036854775807 ∧ n.Signatures.length ≤ 9223372036854775807) (hw : works F = some true) : law10_AlertChain F r l = some true := by
  unfold law10_AlertChain
  rw [checkRoll_eq F (by omega), bnd_eq]
  cases hr : rollB r with
  | false =>
    rw [cond_false, show (!((104 : Int) == 0)) = true from rfl, cond_true, hw, bnd_eq]
  | true =>
    have h8 := (roll_facts hr).1
    rw [cond_true, show (!((0 : Int) == 0)) = false from rfl, cond_false, rollOf_eq F (by omega) r h8, bnd_eq, cond_false]
    exact ch1 F (by omega) hw r hr l hl hc l.length F 0 [] rfl (by omega) (by omega) empty_ok
end Go.Ev.AlertChain
