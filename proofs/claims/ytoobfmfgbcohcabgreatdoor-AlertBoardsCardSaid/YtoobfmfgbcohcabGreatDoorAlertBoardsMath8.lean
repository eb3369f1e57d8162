/- The other side's board. -/
import Derived.Test.YtoobfmfgbcohcabGreatDoorAlertBoardsMath7
namespace Go.Ev.AlertBoards
open Go Go.Ev Go.Proofs
set_option linter.unusedVariables false
theorem apN {α : Type} {z : Nat} (hz : z ≤ 120) {p : List α} {n : α} (hp : p.length ≤ 256) : apd z p [n] = some (p ++ [n]) := by
 have h1 : 2 * (p.length + (0 + 1)) * z ≤ 514 * 120 := Nat.mul_le_mul (by omega) hz
 unfold apd
 simp only [List.length_cons, List.length_nil]
 rw [Nat.ble_eq_true_of_le (by omega), Nat.ble_eq_true_of_le (by omega)]; rfl
theorem of1 (F : Nat) (ev : List UInt8) (L : List S_api_Notice) (hL : L.length ≤ 256) : ∀ (k N i : Nat) (p : List S_api_Notice), k = L.length - i → i ≤ L.length → k < N → p.length ≤ i → ref10_of_h2_1 F ev L N ev i p = some (p ++ (L.drop i).filter (isOf ev))
 | k, 0, i, p, _, _, h, _ => by omega
 | 0, N + 1, i, p, hk, hi, _, _ => by
  rw [ref10_of_h2_1, bif_neg' (by omega), List.drop_of_length_le (by omega)]
  simp
 | k + 1, N + 1, i, p, hk, hi, hN, hp => by
  obtain ⟨n, hn⟩ := get_lt (l := L) (i := i) (by omega)
  have e : S_api_Notice.mk n.Alert n.Signatures = n := rfl
  rw [ref10_of_h2_1, bif_pos' (by omega), idx_nat, hn, bnd_eq, bnd_eq, drop_get hn, List.filter_cons, e, apN (by omega) (by omega), bnd_eq]
  unfold ref10_of_h2_2
  rw [up (by omega), of1 F ev L hL k N (i + 1) _ (by omega) (by omega) (by omega) (by simp; omega), of1 F ev L hL k N (i + 1) _ (by omega) (by omega) (by omega) (by omega)]
  show (bif isOf ev n then _ else _) = _
  cases isOf ev n
  ·rfl
  ·rw [cond_true, if_pos rfl, List.append_assoc]; rfl
theorem of_eq (F : Nat) (hF : 1000 < F) (ev : List UInt8) (L : List S_api_Notice) (hL : L.length ≤ 256) : ref10_of_h2 F ev L = some (L.filter (isOf ev)) := by
 unfold ref10_of_h2
 have := of1 F ev L hL L.length F 0 [] rfl (by omega) (by omega) (by simp)
 rwa [List.drop_zero, List.nil_append] at this
abbrev LastR := (List UInt8) × Int × Int × Int × Int × Int × (List Int) × Bool × Int × Bool
def lastT (H : List S_api_Alert) : LastR := match H.getLast? with
 | none => ([], 0, 0, 0, 0, 0, [], false, 0, false)
 | some x => (x.Event, x.Version, x.Time, x.Chance.N, x.Chance.Of, x.Grid, x.Cells, x.Withdrawn, x.Before, true)
theorem last_eq (F : Nat) (hF : 1000 < F) (ev : List UInt8) (q : Int) (ks : List S_api_Key) (L : List S_api_Notice) (hL : L.length ≤ 256) : ref10_Board_last_h2 F ev q ks L = some (lastT (als L ev)) := by
 have h1 := List.length_filter_le (isOf ev) L
 unfold ref10_Board_last_h2 lastT als
 rw [of_eq F hF ev L hL, bnd_eq, List.getLast?_map]
 generalize L.filter (isOf ev) = G at *
 by_cases hG : G = []
 ·subst hG; rfl
 ·have hpos : 0 < G.length := List.length_pos_iff.2 hG
  obtain ⟨x, hx⟩ := get_lt (l := G) (i := G.length - 1) (by omega)
  have e0 : ((G.length : Int) == 0) = false := by rw [beq_eq_false_iff_ne]; omega
  have e1 : w64 ((G.length : Int) - 1) = ((G.length - 1 : Nat) : Int) := by rw [w64_id (by omega) (by omega)]; omega
  rw [e0, cond_false, e1, idx_nat, hx, bnd_eq, List.getLast?_eq_getElem?, hx]
  rfl
theorem rforce_eq (F : Nat) (hF : 1000 < F) (ev : List UInt8) (q : Int) (ks : List S_api_Key) (L : List S_api_Notice) (hL : L.length ≤ 256) : ref10_Board_Force_h1 F ev q ks L = some (forceT (als L ev)) := by
 unfold ref10_Board_Force_h1
 rw [last_eq F hF ev q ks L hL, bnd_eq]
 unfold lastT forceT
 cases (als L ev).getLast? with
 | none => rfl
 | some x =>
  dsimp only
  cases x.Withdrawn <;> rfl
theorem rh1 (F : Nat) (ev : List UInt8) (q : Int) (ks : List S_api_Key) (L G : List S_api_Notice) (hG : G.length ≤ 256) : ∀ (k N i : Nat), k = G.length - i → i ≤ G.length → k < N →
  ref10_Board_History_h1_1 F ev q ks L N i ((G.take i).map (·.Alert)) G = some (G.map (·.Alert))
 | k, 0, i, _, _, h => by omega
 | 0, N + 1, i, hk, hi, _ => by rw [ref10_Board_History_h1_1, bif_neg' (by omega), List.take_of_length_le (by omega)]
 | k + 1, N + 1, i, hk, hi, hN => by
  obtain ⟨n, hn⟩ := get_lt (l := G) (i := i) (by omega)
  have e : (G.take i).map (·.Alert) ++ [n.Alert] = (G.take (i + 1)).map (·.Alert) := by rw [take_next hn, List.map_append]; rfl
  rw [ref10_Board_History_h1_1, bif_pos' (by omega), idx_nat, hn, bnd_eq, apN (by omega) (by simp; omega), bnd_eq, up (by omega), e]
  exact rh1 F ev q ks L G hG k N (i + 1) (by omega) (by omega) (by omega)
theorem rhist_eq (F : Nat) (hF : 1000 < F) (ev : List UInt8) (q : Int) (ks : List S_api_Key) (L : List S_api_Notice) (hL : L.length ≤ 256) : ref10_Board_History_h1 F ev q ks L = some (als L ev) := by
 have h1 := List.length_filter_le (isOf ev) L
 unfold ref10_Board_History_h1
 rw [of_eq F hF ev L hL, bnd_eq]
 exact rh1 F ev q ks L (L.filter (isOf ev)) (by omega) _ F 0 rfl (by omega) (by omega)
/- Posting. -/
def postT (r : S_api_Roll) (n : S_api_Notice) (L : List S_api_Notice) : Int × List S_api_Notice :=
 bif noticeT r n == 0 then (bif lastE (als L n.Alert.Event) n.Alert == 0 then (bif decide (256 ≤ L.length) then (7, L) else (0, L ++ [n])) else (lastE (als L n.Alert.Event) n.Alert, L)) else (noticeT r n, L)
theorem notice_ok {r : S_api_Roll} (hr : rollB r = true) {n : S_api_Notice} (h : noticeT r n = 0) : vldB n.Alert = true ∧ n.Signatures.length ≤ 8 := by
 have hv : vldB n.Alert = true := by
  cases hv : vldB n.Alert with
  | true => rfl
  | false => unfold noticeT at h; rw [hv] at h; simp at h
 have hsg : sgB r.Keys (digT n.Alert) (-1) n.Signatures = true := by
  cases hs : sgB r.Keys (digT n.Alert) (-1) n.Signatures with
  | true => rfl
  | false => unfold noticeT at h; rw [hv, hs] at h; simp at h
 have hkl := (roll_facts hr).1
 refine ⟨hv, ?_⟩
 rcases sg_len _ _ _ _ hsg with h | h
 ·rw [h]; simp
 ·omega
theorem apost_eq (F : Nat) (hF : 20000 < F) (r : S_api_Roll) (hr : rollB r = true) (n : S_api_Notice) (hc : n.Alert.Cells.length ≤ 9223372036854775807) (hg : n.Signatures.length ≤ 9223372036854775807) (L : List S_api_Notice) (h : BoardOK L) :
  alert_Board_Post_h4 F n.Alert.Event n.Alert.Version n.Alert.Time n.Alert.Chance.N n.Alert.Chance.Of n.Alert.Grid n.Alert.Cells n.Alert.Withdrawn n.Alert.Before n.Signatures r.Quorum r.Keys L = some (postT r n L) := by
 have a1 := als_len L n.Alert.Event
 have a2 := h.len
 have e : S_api_Notice.mk n.Alert n.Signatures = n := rfl
 unfold alert_Board_Post_h4 postT
 rw [alert_eta, e, check_roll_eq' F hF r hr n hc hg, bnd_eq]
 cases hz : noticeT r n == 0 with
 | false => rfl
 | true =>
  obtain ⟨hv, hs⟩ := notice_ok hr (eq_of_beq hz)
  rw [Bool.not_true, cond_false, cond_true, alertsOf_eq F (by omega) _ _ _ L h, bnd_eq, checkNext_eq F hF _ (by omega) (h.vldA _) n.Alert, bnd_eq]
  cases hy : lastE (als L n.Alert.Event) n.Alert == 0 with
  | false => rfl
  | true =>
   rw [Bool.not_true, cond_false, cond_true]
   by_cases hfull : 256 ≤ L.length
   ·rw [bif_pos' (by omega), decide_eq_true hfull]; rfl
   ·rw [bif_neg' (by omega), decide_eq_false hfull, copyN_eq F n (vld_fine hv).cl hs, bnd_eq]
    simp only [alert_eta, e]
    rw [apN (by omega) (by omega), bnd_eq]
    rfl
theorem own3_eq (F : Nat) (n : S_api_Notice) (h : n.Alert.Cells.length ≤ 17592186044416) (hs : n.Signatures.length ≤ 8796093022208) : ref10_OwnNotice_h3 F n.Alert.Event n.Alert.Version n.Alert.Time n.Alert.Chance.N n.Alert.Chance.Of n.Alert.Grid n.Alert.Cells n.Alert.Withdrawn n.Alert.Before n.Signatures =
  some (n.Alert.Event, n.Alert.Version, n.Alert.Time, n.Alert.Chance.N, n.Alert.Chance.Of, n.Alert.Grid, n.Alert.Cells, n.Alert.Withdrawn, n.Alert.Before, n.Signatures) := by
 unfold ref10_OwnNotice_h3 ref00_OwnInts
 rw [apd8 (by omega), show apd 16 ([] : List S_api_Signature) n.Signatures = some n.Signatures from by
  unfold apd
  rw [Nat.ble_eq_true_of_le (by simp; omega), Nat.ble_eq_true_of_le (by simp; omega)]; rfl, bnd_eq, bnd_eq, bnd_eq]
theorem own1_eq (F : Nat) (n : S_api_Notice) (h : n.Alert.Cells.length ≤ 17592186044416) (hs : n.Signatures.length ≤ 8796093022208) : ref10_OwnNotice_h1 F n.Alert.Event n.Alert.Version n.Alert.Time n.Alert.Chance.N n.Alert.Chance.Of n.Alert.Grid n.Alert.Cells n.Alert.Withdrawn n.Alert.Before n.Signatures =
  some (n.Alert.Event, n.Alert.Version, n.Alert.Time, n.Alert.Chance.N, n.Alert.Chance.Of, n.Alert.Grid, n.Alert.Cells, n.Alert.Withdrawn, n.Alert.Before, n.Signatures) := own3_eq F n h hs
theorem rpost_eq (F : Nat) (hF : 20000 < F) (r : S_api_Roll) (hr : rollB r = true) (n : S_api_Notice) (hc : n.Alert.Cells.length ≤ 17592186044416) (hcF : n.Alert.Cells.length < F) (hg : n.Signatures.length ≤ 8796093022208) (hgF : n.Signatures.length < F) (L : List S_api_Notice) (h : BoardOK L) :
  ref10_Board_Post_h2 F n.Alert.Event n.Alert.Version n.Alert.Time n.Alert.Chance.N n.Alert.Chance.Of n.Alert.Grid n.Alert.Cells n.Alert.Withdrawn n.Alert.Before n.Signatures r.Quorum r.Keys L = some (postT r n L) := by
 have a2 := h.len
 have e : S_api_Notice.mk n.Alert n.Signatures = n := rfl
 unfold ref10_Board_Post_h2 postT
 rw [alert_eta, e, rnotice_eq F hF r hr n (by omega) hcF (by omega) hgF, bnd_eq]
 cases hz : noticeT r n == 0 with
 | false => rfl
 | true =>
  rw [Bool.not_true, cond_false, cond_true, last_eq F (by omega) _ _ _ L a2, bnd_eq]
  have key : ∀ (v b t : Int) (w : Bool) (x1 : List UInt8) (x3 x4 x5 x8 : Int) (x6 : List Int), w64 (v + 1) = v + 1 → ref10_Board_Post_h2_1 F n.Alert.Event n.Alert.Version n.Alert.Time n.Alert.Chance.N n.Alert.Chance.Of n.Alert.Grid n.Alert.Cells n.Alert.Withdrawn n.Alert.Before n.Signatures r.Quorum r.Keys L b n.Alert.Event n.Alert.Version n.Alert.Time n.Alert.Chance.N n.Alert.Chance.Of n.Alert.Grid n.Alert.Cells n.Alert.Withdrawn n.Alert.Before n.Signatures x1 v t x3 x4 x5 x6 w x8 =
    some (bif nextE v b t w n.Alert == 0 then (bif decide (256 ≤ L.length) then ((7 : Int), L) else (0, L ++ [n])) else (nextE v b t w n.Alert, L)) := by
   intro v b t w x1 x3 x4 x5 x8 x6 hv
   unfold ref10_Board_Post_h2_1 nextE
   rw [hv]
   cases w with
   | true => rfl
   | false =>
    rw [cond_false, cond_false]
    cases n.Alert.Version == v + 1 with
    | false => rfl
    | true =>
     rw [Bool.not_true, cond_false, cond_false]
     cases n.Alert.Before == b with
     | false => rfl
     | true =>
      rw [Bool.not_true, cond_false, cond_false]
      cases decide (n.Alert.Time < t) with
      | true => rfl
      | false =>
       rw [cond_false, cond_false, show ((0 : Int) == 0) = true from rfl, cond_true]
       by_cases hfull : 256 ≤ L.length
       ·rw [bif_pos' (by omega), decide_eq_true hfull]; rfl
       ·rw [bif_neg' (by omega), decide_eq_false hfull, own3_eq F n hc hg, bnd_eq]
        simp only [alert_eta, e]
        rw [apN (by omega) (by omega), bnd_eq]
        rfl
  unfold lastE
  cases hl : (als L n.Alert.Event).getLast? with
  | none =>
   unfold lastT
   rw [hl]
   exact key 0 0 0 false [] 0 0 0 0 [] (w64_id (by omega) (by omega))
  | some x =>
   have hx := vld_fine (h.vldA _ x (List.mem_of_getLast? hl))
   unfold lastT
   rw [hl]
   dsimp only
   rw [cond_true, alert_eta, rdigest_eq F hF hx, bnd_eq]
   exact key _ _ _ _ _ _ _ _ _ _ (ver_up hx)
/- All notices. -/
theorem an1 (F : Nat) (q : Int) (ks : List S_api_Key) (L : List S_api_Notice) (hL : L.length ≤ 256) (hc : ∀ n ∈ L, n.Alert.Cells.length ≤ 384 ∧ n.Signatures.length ≤ 8) : ∀ (k N i : Nat), k = L.length - i → i ≤ L.length → k < N → alert_Board_Notices_h2_1 F q ks L N L.length i (L.take i) = some L
 | k, 0, i, _, _, h => by omega
 | 0, N + 1, i, hk, hi, _ => by rw [alert_Board_Notices_h2_1, bif_neg' (by omega), List.take_of_length_le (by omega)]
 | k + 1, N + 1, i, hk, hi, hN => by
  obtain ⟨n, hn⟩ := get_lt (l := L) (i := i) (by omega)
  obtain ⟨h1, h2⟩ := hc n (List.mem_of_getElem? hn)
  have e : S_api_Notice.mk n.Alert n.Signatures = n := rfl
  rw [alert_Board_Notices_h2_1, bif_pos' (by omega), idx_nat, hn, bnd_eq, copyN_eq F n h1 h2, bnd_eq]
  simp only [alert_eta, e]
  rw [apN (by omega) (by simp; omega), bnd_eq, up (by omega), ← take_next hn]
  exact an1 F q ks L hL hc k N (i + 1) (by omega) (by omega) (by omega)
theorem notices_eq (F : Nat) (hF : 1000 < F) (q : Int) (ks : List S_api_Key) (L : List S_api_Notice) (hL : L.length ≤ 256) (hc : ∀ n ∈ L, n.Alert.Cells.length ≤ 384 ∧ n.Signatures.length ≤ 8) : alert_Board_Notices_h2 F q ks L = some L := an1 F q ks L hL hc _ F 0 rfl (by omega) (by omega)
theorem sn3 (F : Nat) (hd : List S_api_Notice → List S_api_Notice → Int → Option Bool) (L : List S_api_Notice) (i : Nat) (hi : i < 300) (n : S_api_Notice) (hn : L[i]? = some n) (hs : n.Signatures.length ≤ 8) : ∀ (k N j : Nat), k = n.Signatures.length - j → j ≤ n.Signatures.length → k < N → law10_sameNotices_3 F hd N L L i j = hd L L ((i + 1 : Nat) : Int)
 | k, 0, j, _, _, h => by omega
 | 0, N + 1, j, hk, hj, _ => by rw [law10_sameNotices_3, idx_nat, hn, bnd_eq, bif_neg' (by omega), up (by omega)]
 | k + 1, N + 1, j, hk, hj, hN => by
  obtain ⟨s, hs'⟩ := get_lt (l := n.Signatures) (i := j) (by omega)
  rw [law10_sameNotices_3, idx_nat, hn, bnd_eq, bif_pos' (by omega), bnd_eq, idx_nat, hs', bnd_eq, bnd_eq, idx_nat, hs', bnd_eq, beq_self_eq_true, beq_self_eq_true, up (by omega)]
  exact sn3 F hd L i hi n hn hs k N (j + 1) (by omega) (by omega) (by omega)
theorem sn1 (F : Nat) (hF : 1000 < F) (L : List S_api_Notice) (hL : L.length ≤ 256) (hc : ∀ n ∈ L, n.Alert.Cells.length ≤ 384 ∧ n.Signatures.length ≤ 8) : ∀ (k N i : Nat), k = L.length - i → i ≤ L.length → k < N → law10_sameNotices_1 F N L L i = some true
 | k, 0, i, _, _, h => by omega
 | 0, N + 1, i, hk, hi, _ => by rw [law10_sameNotices_1, bif_neg' (by omega)]
 | k + 1, N + 1, i, hk, hi, hN => by
  obtain ⟨n, hn⟩ := get_lt (l := L) (i := i) (by omega)
  obtain ⟨h1, h2⟩ := hc n (List.mem_of_getElem? hn)
  rw [law10_sameNotices_1, bif_pos' (by omega), idx_nat, hn, bnd_eq, bnd_eq, same_self F n.Alert (by omega) (by omega), bnd_eq, Bool.not_true, cond_false, bnd_eq, bnd_eq, beq_self_eq_true, Bool.not_true]
  unfold law10_sameNotices_2
  rw [cond_false]
  rw [show (0 : Int) = ((0 : Nat) : Int) from rfl, sn3 F _ L i (by omega) n hn h2 _ F 0 rfl (by omega) (by omega)]
  exact sn1 F hF L hL hc k N (i + 1) (by omega) (by omega) (by omega)
theorem sameNotices_self (F : Nat) (hF : 1000 < F) (L : List S_api_Notice) (hL : L.length ≤ 256) (hc : ∀ n ∈ L, n.Alert.Cells.length ≤ 384 ∧ n.Signatures.length ≤ 8) : law10_sameNotices F L L = some true := by
 unfold law10_sameNotices
 rw [beq_self_eq_true, Bool.not_true, cond_false]
 exact sn1 F hF L hL hc L.length F 0 rfl (by omega) (by omega)
end Go.Ev.AlertBoards
