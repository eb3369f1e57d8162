/- AlertBoards. -/
import Derived.Test.YtoobfmfgbcohcabGreatDoorAlertBoardsMath8
namespace Go.Ev.AlertBoards
open Go Go.Ev Go.Proofs
set_option linter.unusedVariables false
theorem forceT_cells {H : List S_api_Alert} (h : ∀ a ∈ H, vldB a = true) : (forceT H).2.2.2.2.2.2.1.length ≤ 384 := by
 unfold forceT
 cases hl : H.getLast? with
 | none => simp
 | some x =>
  have hx := (vld_fine (h x (List.mem_of_getLast? hl))).cl
  dsimp only
  cases x.Withdrawn with
  | true => simp
  | false => exact hx
structure BoardS (L : List S_api_Notice) : Prop extends BoardOK L where
 sigs : ∀ n ∈ L, n.Signatures.length ≤ 8
theorem BoardS.both {L : List S_api_Notice} (h : BoardS L) : ∀ n ∈ L, n.Alert.Cells.length ≤ 384 ∧ n.Signatures.length ≤ 8 := fun n hn => ⟨h.toBoardOK.cells n hn, h.sigs n hn⟩
theorem postT_ok {r : S_api_Roll} (hr : rollB r = true) {n : S_api_Notice} {L : List S_api_Notice} (h : BoardS L) : BoardS (postT r n L).2 := by
 unfold postT
 cases hz : noticeT r n == 0 with
 | false => exact h
 | true =>
  obtain ⟨hv, hs⟩ := notice_ok hr (eq_of_beq hz)
  cases hy : lastE (als L n.Alert.Event) n.Alert == 0 with
  | false => exact h
  | true =>
   by_cases hfull : 256 ≤ L.length
   ·rw [decide_eq_true hfull]; exact h
   ·rw [decide_eq_false hfull]
    exact ⟨post_ok h.toBoardOK (by omega) hv (eq_of_beq hy), fun x hx => by
     rcases List.mem_append.1 hx with hx | hx
     ·exact h.sigs x hx
     ·rw [List.mem_singleton.1 hx]; exact hs⟩
theorem cb14 (F : Nat) (hF : 20000 < F) (hw : works F = some true) (r : S_api_Roll) (hr : rollB r = true) (l : List S_api_Notice) (hl : l.length ≤ 9223372036854775807) (hc : ∀ n ∈ l, n.Alert.Cells.length ≤ 17592186044416 ∧ n.Signatures.length ≤ 8796093022208) (hcF : ∀ n ∈ l, n.Alert.Cells.length < F ∧ n.Signatures.length < F) : ∀ (k N i : Nat) (L : List S_api_Notice), k = l.length - i → i ≤ l.length → k < N → BoardS L →
  law10_AlertBoards_14 F N l i r.Quorum r.Quorum r.Keys L r.Keys L = some true
 | k, 0, i, L, _, _, h, _ => by omega
 | 0, N + 1, i, L, hk, hi, _, h => by
  have hfc := forceT_cells (h.vldA [110, 111, 98, 111, 100, 121])
  rw [law10_AlertBoards_14, bif_neg' (by omega), force_eq F (by omega) _ _ _ L h.toBoardOK, bnd_eq, rforce_eq F (by omega) _ _ _ L h.len, bnd_eq, same_self F _ (by show (forceT _).2.2.2.2.2.2.1.length ≤ _; omega) (by show (forceT _).2.2.2.2.2.2.1.length < _; omega), bnd_eq, cond_true, beq_self_eq_true, cond_true, notices_eq F (by omega) _ _ L h.len h.both, bnd_eq, sameNotices_self F (by omega) L h.len h.both, bnd_eq, cond_true, hw, bnd_eq]
  rfl
 | k + 1, N + 1, i, L, hk, hi, hN, h => by
  obtain ⟨n, hn⟩ := get_lt (l := l) (i := i) (by omega)
  obtain ⟨hn1, hn2⟩ := hc n (List.mem_of_getElem? hn)
  obtain ⟨hn3, hn4⟩ := hcF n (List.mem_of_getElem? hn)
  have h' := postT_ok hr (n := n) h
  have hfc := forceT_cells (h'.vldA n.Alert.Event)
  have hal := als_len (postT r n L).2 n.Alert.Event
  have hlen' := h'.len
  rw [law10_AlertBoards_14, bif_pos' (by omega), idx_nat, hn, bnd_eq, bnd_eq, own1_eq F n hn1 hn2, bnd_eq, apost_eq F hF r hr n (by omega) (by omega) L h.toBoardOK, bnd_eq, rpost_eq F hF r hr n hn1 hn3 hn2 hn4 L h.toBoardOK, bnd_eq, beq_self_eq_true, Bool.not_true, cond_false, bnd_eq, force_eq F (by omega) _ _ _ _ h'.toBoardOK, bnd_eq, bnd_eq, rforce_eq F (by omega) _ _ _ _ h'.len, bnd_eq, same_self F _ (by show (forceT _).2.2.2.2.2.2.1.length ≤ _; omega) (by show (forceT _).2.2.2.2.2.2.1.length < _; omega), bnd_eq, Bool.not_true, cond_false, beq_self_eq_true, Bool.not_true, cond_false, bnd_eq, bnd_eq]
  unfold alert_Board_History_h1
  rw [alertsOf_eq F (by omega) _ _ _ _ h'.toBoardOK, bnd_eq, bnd_eq, rhist_eq F (by omega) _ _ _ _ h'.len, bnd_eq, sameAlerts_self F (by omega) _ (by omega) (fun a ha => (vld_fine (h'.vldA _ a ha)).cl), bnd_eq]
  unfold law10_AlertBoards_16
  rw [Bool.not_true, cond_false, up (by omega)]
  exact cb14 F hF hw r hr l hl hc hcF k N (i + 1) _ (by omega) (by omega) (by omega) h'
theorem emptyS : BoardS [] := ⟨⟨by simp, fun n hn => by simp at hn, fun ev k a ha => by simp [als] at ha⟩, fun n hn => by simp at hn⟩
theorem fuel_sum : ∀ (l : List S_api_Notice), ∀ n ∈ l, n.Alert.Cells.length + n.Signatures.length ≤ (l.map fun n => n.Alert.Cells.length + n.Signatures.length).sum
 | [], n, h => by cases h
 | x :: r, n, h => by
  rw [List.map_cons, List.sum_cons]
  rcases List.mem_cons.1 h with rfl | h
  ·omega
  ·have := fuel_sum r n h
   omega
theorem law_eq (F : Nat) (r : S_api_Roll) (l : List S_api_Notice) (h1 : r.Keys.length ≤ 9223372036854775807) (h1F : r.Keys.length + 70000 < F) (hl : l.length ≤ 9223372036854775807) (hlF : l.length + 70000 < F) (hc : ∀ n ∈ l, n.Alert.Cells.length ≤ 17592186044416 ∧ n.Signatures.length ≤ 8796093022208) (hcF : ∀ n ∈ l, n.Alert.Cells.length < F ∧ n.Signatures.length < F) (hw : works F = some true) : law10_AlertBoards F r l = some true := by
 have e : S_api_Roll.mk r.Keys r.Quorum = r := rfl
 unfold law10_AlertBoards alert_Board_Post_h1 alert_Board_Post_h2
 rw [bnd_eq, show ((1 : Int) == 1) = true from rfl, Bool.not_true, cond_false, bnd_eq]
 unfold law10_AlertBoards_2 alert_Board_Notices_h1
 rw [show ((1 : Int) == 1) = true from rfl, Bool.not_true, cond_false, bnd_eq]
 unfold law10_AlertBoards_4
 rw [show (!((([] : List S_api_Notice).length : Int) == 0)) = false from rfl, cond_false]
 unfold law10_AlertBoards_6 alert_Board_Force_h1
 rw [bnd_eq, show (!((1 : Int) == 1)) = false from rfl, cond_false, same_self F _ (by simp) (by simp; omega), bnd_eq]
 unfold law10_AlertBoards_8
 rw [Bool.not_true, cond_false, e, checkRoll_eq F (by omega), bnd_eq, rcheckRoll_eq F (by omega) r h1 (by omega), bnd_eq]
 cases hr : rollB r with
 | false =>
  rw [cond_false, show (!((104 : Int) == 0)) = true from rfl, cond_true, cond_true, show (!((104 : Int) == 104)) = false from rfl, cond_false]
  unfold law10_AlertBoards_10
  rw [show (!((104 : Int) == 0)) = true from rfl, cond_true, hw, bnd_eq]
 | true =>
  have h8 := (roll_facts hr).1
  rw [cond_true, show (!((0 : Int) == 0)) = false from rfl, cond_false, rollOf_eq F (by omega) r h8, bnd_eq, show apd 16 ([] : List S_api_Key) r.Keys = some r.Keys from by
   unfold apd
   rw [Nat.ble_eq_true_of_le (by simp; omega), Nat.ble_eq_true_of_le (by simp; omega)]; rfl]
  simp only [bnd_eq]
  unfold law10_AlertBoards_13
  rw [show (!((0 : Int) == 0)) = false from rfl, cond_false]
  exact cb14 F (by omega) hw r hr l hl hc hcF _ F 0 [] rfl (by omega) (by omega) emptyS
end Go.Ev.AlertBoards
