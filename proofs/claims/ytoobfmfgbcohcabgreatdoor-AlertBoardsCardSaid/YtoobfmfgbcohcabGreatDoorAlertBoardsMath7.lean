/- Boards: what they hold, and what follows. -/
import Derived.Test.YtoobfmfgbcohcabGreatDoorAlertBoardsMath6
namespace Go.Ev.AlertBoards
open Go Go.Ev Go.Proofs
set_option linter.unusedVariables false
/- As few rounds as there can be. -/
theorem ac1' (F : Nat) (n : Int) (hn : 0 ≤ n) (hn1 : n ≤ 1000) (l : List Int) (hl : l.length ≤ 9223372036854775807) : ∀ (N i : Nat) (lo : Int), i ≤ l.length → -1 ≤ lo → lo ≤ n → n - lo < N → alert_areCells_1 F N n lo l l.length i = some (incB n lo (l.drop i))
 | 0, i, lo, _, _, h1, h => by omega
 | N + 1, i, lo, hi, h1, h2, hN => by
  by_cases hk : i = l.length
  ·rw [alert_areCells_1, bif_neg' (by omega), List.drop_of_length_le (by omega)]
   rfl
  ·obtain ⟨c, hc⟩ := get_lt (l := l) (i := i) (by omega)
   rw [alert_areCells_1, bif_pos' (by omega), idx_nat, hc, bnd_eq, isFrom_eq, bnd_eq, w64_id (by omega) (by omega), w64_id (n := n - 1) (by omega) (by omega), drop_get hc, incB]
   cases hr : inR (lo + 1) c (n - 1) with
   | false => rfl
   | true =>
    have := inR_iff.1 hr
    rw [up (by omega)]
    simp only [Bool.not_true, cond_false, Bool.true_and]
    exact ac1' F n hn hn1 l hl N (i + 1) c (by omega) (by omega) (by omega) (by omega)
theorem isAlert_eq' (F : Nat) (a : S_api_Alert) (hF0 : 1000 < F) (hl : a.Cells.length ≤ 9223372036854775807) : alert_isAlert F a = some (vldB a) := by
 have hpl : alert_isPlaced F a = some (plcB a) := by
  unfold alert_isPlaced plcB
  rw [skyCells_eq, bnd_eq]
  cases h : inR 1 a.Grid 8 with
  | false => rfl
  | true =>
   have := cells_rng h
   simp only [cond_true]
   unfold alert_areCells
   have h0 : ((0 : Nat) : Int) = 0 := rfl
   rw [← h0, ac1' F _ (by omega) (by omega) _ hl F 0 (-1) (by omega) (by omega) (by omega) (by omega), bnd_eq, List.drop_zero]
   unfold alert_isPlaced_1 alert_isPlaced_2
   cases incB (cellsN a.Grid) (-1) a.Cells <;> rfl
 unfold alert_isAlert
 simp only [name_eq F (show 20 < F by omega), isFrom_eq, bnd_eq, alert_isAlert_1, alert_isAlert_2, alert_isAlert_3, alert_isAlert_4, alert_isAlert_5, isChance_eq]
 have e : S_api_Alert.mk a.Event a.Version a.Time (S_api_Chance.mk a.Chance.N a.Chance.Of) a.Grid a.Cells a.Withdrawn a.Before = a := rfl
 rw [e, hpl, isBefore_eq, bnd_eq, bnd_eq]
 unfold vldB
 cases nameB a.Event <;> cases inR 1 a.Version 1000 <;> cases inR 0 a.Time 1073741824 <;> cases (inR 1 a.Chance.N a.Chance.Of && decide (a.Chance.Of ≤ 256)) <;> cases plcB a <;> cases befB a <;> rfl
theorem is1' (F : Nat) (hF : 1000 < F) (l : List S_api_Key) (hl : l.length ≤ 8) (hk : kyB [] l = true) (q : Int) (d : Nat) (g : List S_api_Signature) (hg : g.length ≤ 9223372036854775807) : ∀ (N i : Nat) (lo : Int), i ≤ g.length → -1 ≤ lo → lo ≤ 8 → 9 - lo < N → alert_roll_isSigned_1 F N d lo g g.length i l q = some (sgB l d lo (g.drop i))
 | 0, i, lo, _, _, h1, h => by omega
 | N + 1, i, lo, hi, h1, h2, hN => by
  by_cases hn : i = g.length
  ·rw [alert_roll_isSigned_1, bif_neg' (by omega), List.drop_of_length_le (by omega)]
   rfl
  ·obtain ⟨s, hs⟩ := get_lt (l := g) (i := i) (by omega)
   rw [alert_roll_isSigned_1, bif_pos' (by omega), idx_nat, hs, bnd_eq, isFrom_eq, bnd_eq, w64_id (by omega) (by omega), w64_id (n := (l.length : Int) - 1) (by omega) (by omega), drop_get hs, sgB]
   cases hr : inR (lo + 1) s.Signer ((l.length : Int) - 1) with
   | false => rfl
   | true =>
    obtain ⟨j, m, x, e, hj, a, b, c⟩ := key_at hk h1 hr
    have hjl := (List.getElem?_eq_some_iff.1 hj).1
    have hr' := inR_iff.1 hr
    have hidx : idx l s.Signer = some (S_api_Key.mk m x) := by rw [e]; exact hj
    have hat : l[s.Signer.toNat]? = some (S_api_Key.mk m x) := by rw [e]; exact hj
    rw [Bool.not_true, cond_false, hidx, bnd_eq, isSigned_eq F m x d s.Number a b c (by omega), bnd_eq, hat]
    unfold alert_roll_isSigned_2
    simp only [Int.toNat_natCast, Bool.true_and]
    cases hb : sigB m x d s.Number with
    | false => rfl
    | true =>
     rw [Bool.not_true, cond_false, Bool.true_and, up (by omega)]
     exact is1' F hF l hl hk q d g hg N (i + 1) s.Signer (by omega) (by omega) (by omega) (by omega)
theorem check_roll_eq' (F : Nat) (hF : 20000 < F) (r : S_api_Roll) (hr : rollB r = true) (n : S_api_Notice) (hc : n.Alert.Cells.length ≤ 9223372036854775807) (hg : n.Signatures.length ≤ 9223372036854775807) :
  alert_roll_check F (S_alert_roll.mk r.Keys r.Quorum) n = some (noticeT r n) := by
 obtain ⟨hl, hk⟩ := roll_facts hr
 unfold alert_roll_check noticeT
 rw [isAlert_eq' F _ (by omega) hc, bnd_eq]
 cases hv : vldB n.Alert with
 | false => rfl
 | true =>
  have hd := digestOf_eq F hF (vld_fine hv)
  rw [Bool.not_true, cond_false, cond_true]
  unfold alert_roll_isSigned
  simp only [hd, bnd_eq]
  rw [show ((0 : Int)) = ((0 : Nat) : Int) from rfl, is1' F (by omega) r.Keys hl hk r.Quorum (digT n.Alert) n.Signatures hg F 0 (-1) (by omega) (by omega) (by omega) (by omega), bnd_eq, List.drop_zero]
  cases sgB r.Keys (digT n.Alert) (-1) n.Signatures with
  | false => rfl
  | true => cases decide ((n.Signatures.length : Int) < r.Quorum) <;> rfl
theorem sg_len (l : List S_api_Key) (d : Nat) : ∀ (g : List S_api_Signature) (lo : Int), sgB l d lo g = true → g = [] ∨ (g.length : Int) ≤ (l.length : Int) - 1 - lo
 | [], _, _ => .inl rfl
 | s :: g, lo, h => by
  rw [sgB, Bool.and_eq_true, Bool.and_eq_true] at h
  have h1 := inR_iff.1 h.1.1
  rcases sg_len l d g s.Signer h.2 with rfl | h2
  ·right; simp; omega
  ·right; simp only [List.length_cons]; omega
/- What a board holds of an event. -/
def isOf (ev : List UInt8) (n : S_api_Notice) : Bool := n.Alert.Event == ev
def als (L : List S_api_Notice) (ev : List UInt8) : List S_api_Alert := (L.filter (isOf ev)).map (·.Alert)
theorem als_app (L : List S_api_Notice) (n : S_api_Notice) (ev : List UInt8) : als (L ++ [n]) ev = bif isOf ev n then als L ev ++ [n.Alert] else als L ev := by
 unfold als
 rw [List.filter_append, List.map_append]
 cases h : isOf ev n <;> simp [h]
theorem als_len (L : List S_api_Notice) (ev : List UInt8) : (als L ev).length ≤ L.length := by
 unfold als
 rw [List.length_map]
 exact List.length_filter_le _ _
theorem on1 (F : Nat) (ev : List UInt8) (L : List S_api_Notice) (hL : L.length ≤ 256) : ∀ (k N i : Nat) (p : List S_api_Notice), k = L.length - i → i ≤ L.length → k < N → p.length ≤ i → alert_only_h2_1 F ev L N L.length i p = some (p ++ (L.drop i).filter (isOf ev))
 | k, 0, i, p, _, _, h, _ => by omega
 | 0, N + 1, i, p, hk, hi, _, _ => by
  rw [alert_only_h2_1, bif_neg' (by omega), List.drop_of_length_le (by omega)]
  simp
 | k + 1, N + 1, i, p, hk, hi, hN, hp => by
  obtain ⟨n, hn⟩ := get_lt (l := L) (i := i) (by omega)
  rw [alert_only_h2_1, bif_pos' (by omega), idx_nat, hn, bnd_eq, drop_get hn, List.filter_cons]
  have e : S_api_Notice.mk n.Alert n.Signatures = n := rfl
  unfold alert_only_h2_2
  have h120 : apd 120 p [n] = some (p ++ [n]) := by
   unfold apd
   rw [Nat.ble_eq_true_of_le (by simp; omega), Nat.ble_eq_true_of_le (by simp; omega)]; rfl
  rw [e, h120, bnd_eq, up (by omega), on1 F ev L hL k N (i + 1) _ (by omega) (by omega) (by omega) (by simp; omega), on1 F ev L hL k N (i + 1) _ (by omega) (by omega) (by omega) (by omega)]
  show (bif isOf ev n then _ else _) = _
  cases isOf ev n
  ·rfl
  ·rw [cond_true, if_pos rfl, List.append_assoc]; rfl
theorem only_eq (F : Nat) (hF : 1000 < F) (ev : List UInt8) (L : List S_api_Notice) (hL : L.length ≤ 256) : alert_only_h2 F ev L = some (L.filter (isOf ev)) := by
 unfold alert_only_h2
 have := on1 F ev L hL L.length F 0 [] rfl (by omega) (by omega) (by simp)
 rwa [List.drop_zero, List.nil_append] at this
theorem copyA_eq (F : Nat) {a : S_api_Alert} (h : a.Cells.length ≤ 384) : alert_copyOfAlert F a = some a := by
 unfold alert_copyOfAlert slices_Clone
 rw [apd8 (by omega), bnd_eq, bnd_eq]
theorem ao1 (F : Nat) (ev : List UInt8) (q : Int) (ks : List S_api_Key) (L G : List S_api_Notice) (hG : G.length ≤ 256) (hf : ∀ n ∈ G, n.Alert.Cells.length ≤ 384) : ∀ (k N i : Nat), k = G.length - i → i ≤ G.length → k < N →
  alert_Board_alertsOf_h2_1 F ev q ks L N G.length i ((G.take i).map (·.Alert)) G = some (G.map (·.Alert))
 | k, 0, i, _, _, h => by omega
 | 0, N + 1, i, hk, hi, _ => by
  rw [alert_Board_alertsOf_h2_1, bif_neg' (by omega), List.take_of_length_le (by omega)]
 | k + 1, N + 1, i, hk, hi, hN => by
  obtain ⟨n, hn⟩ := get_lt (l := G) (i := i) (by omega)
  have h96 : ∀ (p : List S_api_Alert) (x : S_api_Alert), p.length ≤ 256 → apd 96 p [x] = some (p ++ [x]) := fun p x hp => by
   unfold apd
   rw [Nat.ble_eq_true_of_le (by simp; omega), Nat.ble_eq_true_of_le (by simp; omega)]; rfl
  rw [alert_Board_alertsOf_h2_1, bif_pos' (by omega), idx_nat, hn, bnd_eq, copyA_eq F (hf n (List.mem_of_getElem? hn)), bnd_eq, h96 _ _ (by simp; omega), bnd_eq, up (by omega)]
  have e : (G.take i).map (·.Alert) ++ [n.Alert] = (G.take (i + 1)).map (·.Alert) := by rw [take_next hn, List.map_append]; rfl
  rw [e]
  exact ao1 F ev q ks L G hG hf k N (i + 1) (by omega) (by omega) (by omega)
/- What holds of a board. -/
def Chain (H : List S_api_Alert) : Prop := ∀ (k : Nat) (a : S_api_Alert), H[k]? = some a → a.Version = (k : Int) + 1 ∧ (k + 1 < H.length → a.Withdrawn = false) ∧ ∀ (j : Nat) (b : S_api_Alert), k = j + 1 → H[j]? = some b → a.Before = (digT b : Int) ∧ b.Time ≤ a.Time
structure BoardOK (L : List S_api_Notice) : Prop where
 len : L.length ≤ 256
 fine : ∀ n ∈ L, vldB n.Alert = true
 chain : ∀ ev, Chain (als L ev)
theorem BoardOK.cells {L : List S_api_Notice} (h : BoardOK L) : ∀ n ∈ L, n.Alert.Cells.length ≤ 384 := fun n hn => (vld_fine (h.fine n hn)).cl
theorem BoardOK.vldA {L : List S_api_Notice} (h : BoardOK L) (ev : List UInt8) : ∀ a ∈ als L ev, vldB a = true := by
 intro a ha
 unfold als at ha
 obtain ⟨n, hn, rfl⟩ := List.mem_map.1 ha
 exact h.fine n (List.mem_filter.1 hn).1
theorem alertsOf_eq (F : Nat) (hF : 1000 < F) (ev : List UInt8) (q : Int) (ks : List S_api_Key) (L : List S_api_Notice) (h : BoardOK L) : alert_Board_alertsOf_h2 F ev q ks L = some (als L ev) := by
 have hfl := List.length_filter_le (isOf ev) L
 have hl := h.len
 unfold alert_Board_alertsOf_h2
 rw [only_eq F hF ev L h.len, bnd_eq]
 exact ao1 F ev q ks L (L.filter (isOf ev)) (by omega) (fun n hn => h.cells n (List.mem_filter.1 hn).1) _ F 0 rfl (by omega) (by omega)
/- Lists of alerts compared. -/
theorem sa1 (F : Nat) (hF : 1000 < F) (H : List S_api_Alert) (hH : H.length ≤ 300) (hc : ∀ a ∈ H, a.Cells.length ≤ 384) : ∀ (k N i : Nat), k = H.length - i → i ≤ H.length → k < N → law10_sameAlerts_1 F N H H i = some true
 | k, 0, i, _, _, h => by omega
 | 0, N + 1, i, hk, hi, _ => by rw [law10_sameAlerts_1, bif_neg' (by omega)]
 | k + 1, N + 1, i, hk, hi, hN => by
  obtain ⟨a, ha⟩ := get_lt (l := H) (i := i) (by omega)
  have := hc a (List.mem_of_getElem? ha)
  rw [law10_sameAlerts_1, bif_pos' (by omega), idx_nat, ha, bnd_eq, bnd_eq, same_self F a (by omega) (by omega), bnd_eq, Bool.not_true, cond_false, up (by omega), sa1 F hF H hH hc k N (i + 1) (by omega) (by omega) (by omega)]
theorem sameAlerts_self (F : Nat) (hF : 1000 < F) (H : List S_api_Alert) (hH : H.length ≤ 300) (hc : ∀ a ∈ H, a.Cells.length ≤ 384) : law10_sameAlerts F H H = some true := by
 unfold law10_sameAlerts
 rw [beq_self_eq_true, Bool.not_true, cond_false]
 exact sa1 F hF H hH hc H.length F 0 rfl (by omega) (by omega)
/- What is next. -/
def nextE (v b t : Int) (w : Bool) (a : S_api_Alert) : Int := bif w then 107 else bif !(a.Version == v + 1) then 105 else bif !(a.Before == b) then 106 else bif decide (a.Time < t) then 108 else 0
def lastE (H : List S_api_Alert) (a : S_api_Alert) : Int := match H.getLast? with
 | some x => nextE x.Version (digT x) x.Time x.Withdrawn a
 | none => nextE 0 0 0 false a
theorem last_idx {H : List S_api_Alert} (h : H ≠ []) (hl : H.length ≤ 300) : ∃ x, H.getLast? = some x ∧ idx H (w64 ((H.length : Int) - 1)) = some x := by
 have hpos : 0 < H.length := List.length_pos_iff.2 h
 obtain ⟨x, hx⟩ := get_lt (l := H) (i := H.length - 1) (by omega)
 refine ⟨x, ?_, ?_⟩
 ·rw [List.getLast?_eq_getElem?]; exact hx
 ·rw [w64_id (by omega) (by omega), show (H.length : Int) - 1 = ((H.length - 1 : Nat) : Int) by omega]
  exact hx
theorem checkNext_eq (F : Nat) (hF : 20000 < F) (H : List S_api_Alert) (hH : H.length ≤ 300) (hv : ∀ a ∈ H, vldB a = true) (a : S_api_Alert) : alert_checkNext F H a = some (lastE H a) := by
 unfold alert_checkNext lastE
 by_cases h : H = []
 ·subst h
  rw [bif_neg' (by simp)]
  unfold alert_checkNext_1 nextE
  simp only [List.getLast?_nil, cond_false]
  have e : w64 ((0 : Int) + 1) = 0 + 1 := w64_id (by omega) (by omega)
  rw [e]
  cases a.Version == 0 + 1 <;> cases a.Before == 0 <;> cases decide (a.Time < 0) <;> rfl
 ·obtain ⟨x, h1, h2⟩ := last_idx h hH
  have hpos : 0 < H.length := List.length_pos_iff.2 h
  have hx := vld_fine (hv x (List.mem_of_getLast? h1))
  rw [bif_pos' (by omega), h2, bnd_eq, digestOf_eq F hF hx, bnd_eq, h1]
  unfold alert_checkNext_1 nextE
  simp only [ver_up hx]
  cases x.Withdrawn <;> cases a.Version == x.Version + 1 <;> cases a.Before == (digT x : Int) <;> cases decide (a.Time < x.Time) <;> rfl
theorem next_zero {v b t : Int} {w : Bool} {a : S_api_Alert} (h : nextE v b t w a = 0) : w = false ∧ a.Version = v + 1 ∧ a.Before = b ∧ t ≤ a.Time := by
 unfold nextE at h
 cases w with
 | true => simp at h
 | false =>
  cases h1 : a.Version == v + 1 with
  | false => rw [h1] at h; simp at h
  | true =>
   cases h2 : a.Before == b with
   | false => rw [h1, h2] at h; simp at h
   | true =>
    by_cases h3 : a.Time < t
    ·rw [h1, h2, decide_eq_true h3] at h; simp at h
    ·exact ⟨rfl, eq_of_beq h1, eq_of_beq h2, by omega⟩
theorem chain_app {H : List S_api_Alert} {a : S_api_Alert} (hc : Chain H) (h : lastE H a = 0) : Chain (H ++ [a]) := by
 intro k x hx
 by_cases hk : k < H.length
 ·rw [List.getElem?_append_left hk] at hx
  obtain ⟨h1, h2, h3⟩ := hc k x hx
  refine ⟨h1, fun hlt => ?_, fun j b hj hb => ?_⟩
  ·rw [List.length_append] at hlt
   by_cases hk1 : k + 1 < H.length
   ·exact h2 hk1
   ·have hlast : H.getLast? = some x := by rw [List.getLast?_eq_getElem?, show H.length - 1 = k by omega]; exact hx
    unfold lastE at h
    rw [hlast] at h
    exact (next_zero h).1
  ·rw [List.getElem?_append_left (by omega)] at hb
   exact h3 j b hj hb
 ·have hk' : k = H.length := by
   have := (List.getElem?_eq_some_iff.1 hx).1
   rw [List.length_append] at this
   simp at this
   omega
  subst hk'
  rw [List.getElem?_append_right (Nat.le_refl _), Nat.sub_self] at hx
  simp only [List.getElem?_cons_zero, Option.some.injEq] at hx
  subst hx
  unfold lastE at h
  by_cases hH : H = []
  ·subst hH
   simp only [List.getLast?_nil] at h
   obtain ⟨_, h2, _, _⟩ := next_zero h
   exact ⟨by simpa using h2, fun hlt => by simp at hlt, fun j b hj => by simp at hj⟩
  ·obtain ⟨x, hx⟩ : ∃ x, H.getLast? = some x := by
    cases hl : H.getLast? with
    | none => exact absurd (List.getLast?_eq_none_iff.1 hl) hH
    | some x => exact ⟨x, rfl⟩
   rw [hx] at h
   obtain ⟨_, h2, h3, h4⟩ := next_zero h
   have hpos : 0 < H.length := List.length_pos_iff.2 hH
   rw [List.getLast?_eq_getElem?] at hx
   have hxv := (hc _ x hx).1
   refine ⟨by rw [h2, hxv]; omega, fun hlt => by simp at hlt, fun j b hj hb => ?_⟩
   rw [List.getElem?_append_left (by omega), show j = H.length - 1 by omega, hx] at hb
   obtain rfl := Option.some.inj hb
   exact ⟨h3, h4⟩
theorem post_ok {L : List S_api_Notice} {n : S_api_Notice} (h : BoardOK L) (hl : L.length < 256) (hv : vldB n.Alert = true) (hn : lastE (als L n.Alert.Event) n.Alert = 0) : BoardOK (L ++ [n]) := by
 refine ⟨by simp; omega, fun x hx => ?_, fun ev => ?_⟩
 ·rcases List.mem_append.1 hx with hx | hx
  ·exact h.fine x hx
  ·rw [List.mem_singleton.1 hx]; exact hv
 ·rw [als_app]
  cases he : isOf ev n with
  | false => exact h.chain ev
  | true =>
   obtain rfl : n.Alert.Event = ev := eq_of_beq he
   exact chain_app (h.chain _) hn
/- What is in force. -/
abbrev ForceR := (List UInt8) × Int × Int × Int × Int × Int × (List Int) × Bool × Int × Int
def forceT (H : List S_api_Alert) : ForceR := match H.getLast? with
 | none => ([], 0, 0, 0, 0, 0, [], false, 0, 4)
 | some x => bif x.Withdrawn then ([], 0, 0, 0, 0, 0, [], false, 0, 107) else (x.Event, x.Version, x.Time, x.Chance.N, x.Chance.Of, x.Grid, x.Cells, x.Withdrawn, x.Before, 0)
theorem force_eq (F : Nat) (hF : 1000 < F) (ev : List UInt8) (q : Int) (ks : List S_api_Key) (L : List S_api_Notice) (h : BoardOK L) : alert_Board_Force_h2 F ev q ks L = some (forceT (als L ev)) := by
 have h1 := als_len L ev
 have h2 := h.len
 unfold alert_Board_Force_h2 forceT
 rw [alertsOf_eq F hF ev q ks L h, bnd_eq]
 by_cases hH : als L ev = []
 ·rw [hH]; rfl
 ·obtain ⟨x, g1, g2⟩ := last_idx hH (by omega)
  have hpos : 0 < (als L ev).length := List.length_pos_iff.2 hH
  have e0 : (((als L ev).length : Int) == 0) = false := by rw [beq_eq_false_iff_ne]; omega
  rw [e0, cond_false, g2, bnd_eq, g1]
  dsimp only
  cases x.Withdrawn <;> rfl
theorem copyN_eq (F : Nat) (n : S_api_Notice) (h : n.Alert.Cells.length ≤ 384) (hs : n.Signatures.length ≤ 8) : alert_copyOfNotice_h2 F n.Alert.Event n.Alert.Version n.Alert.Time n.Alert.Chance.N n.Alert.Chance.Of n.Alert.Grid n.Alert.Cells n.Alert.Withdrawn n.Alert.Before n.Signatures =
  some (n.Alert.Event, n.Alert.Version, n.Alert.Time, n.Alert.Chance.N, n.Alert.Chance.Of, n.Alert.Grid, n.Alert.Cells, n.Alert.Withdrawn, n.Alert.Before, n.Signatures) := by
 unfold alert_copyOfNotice_h2 slices_Clone_84
 rw [alert_eta, copyA_eq F h, bnd_eq, show apd 16 ([] : List S_api_Signature) n.Signatures = some n.Signatures from by
  unfold apd
  rw [Nat.ble_eq_true_of_le (by simp; omega), Nat.ble_eq_true_of_le (by simp; omega)]; rfl, bnd_eq, bnd_eq]
end Go.Ev.AlertBoards
