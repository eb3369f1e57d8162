/- Rolls and notices, on both sides. -/
import Derived.Test.YtoobfmfgbcohcabGreatDoorAlertBoardsMath4
namespace Go.Ev.AlertBoards
open Go Go.Ev Go.Proofs
set_option linter.unusedVariables false
/-- Has none of these keys the modulus of k? -/
def newB (p : List S_api_Key) (k : S_api_Key) : Bool := p.all fun o => !(o.Modulus == k.Modulus)
def kyB (p : List S_api_Key) : List S_api_Key → Bool
 | [] => true
 | k :: r => (plsB k && newB p k) && kyB (p ++ [k]) r
theorem take_next {α : Type} {l : List α} {i : Nat} {a : α} (h : l[i]? = some a) : l.take (i + 1) = l.take i ++ [a] := by
 rw [List.take_add_one, h]; rfl
theorem ir4 (F : Nat) (hd : List S_api_Key → Int → Int → List S_api_Key → Int → Option Bool) (p : List S_api_Key) (hp : p.length ≤ 1000) (a : List S_api_Key) (b c : Int) (k : S_api_Key) (e : List S_api_Key) (q : Int) : ∀ (n N j : Nat), n = p.length - j → j ≤ p.length → n < N →
  alert_isRoll_4 F hd N p p.length j a b c false k e q = bif newB (p.drop j) k then hd a b (w64 (c + 1)) e q else some false
 | n, 0, j, _, _, h => by omega
 | 0, N + 1, j, hn, hj, _ => by
  rw [alert_isRoll_4, bif_neg' (by omega), List.drop_of_length_le (by omega)]
  rfl
 | n + 1, N + 1, j, hn, hj, hN => by
  obtain ⟨x, hx⟩ := get_lt (l := p) (i := j) (by omega)
  rw [alert_isRoll_4, bif_pos' (by omega), idx_nat, hx, bnd_eq, up (by omega), ir4 F hd p hp a b c k e q n N (j + 1) (by omega) (by omega) (by omega), drop_get hx]
  unfold newB
  rw [List.all_cons]
  cases hm : x.Modulus == k.Modulus with
  | true =>
   rw [cond_true, cond_false, decide_eq_true (show (0 : Int) ≤ (j : Int) by omega)]
   rfl
  | false => rfl
theorem ir2 (F : Nat) (hF : 1000 < F) (l : List S_api_Key) (hl : l.length ≤ 8) (q : Int) : ∀ (n N i : Nat), n = l.length - i → i ≤ l.length → n < N → alert_isRoll_2 F N l l.length i l q = some (kyB (l.take i) (l.drop i))
 | n, 0, i, _, _, h => by omega
 | 0, N + 1, i, hn, hi, _ => by
  rw [alert_isRoll_2, bif_neg' (by omega), List.drop_of_length_le (by omega)]
  rfl
 | n + 1, N + 1, i, hn, hi, hN => by
  obtain ⟨k, hk⟩ := get_lt (l := l) (i := i) (by omega)
  have hlt : (l.take i).length = i := by rw [List.length_take]; omega
  rw [alert_isRoll_2, bif_pos' (by omega), idx_nat, hk, bnd_eq, plausible_eq, bnd_eq, drop_get hk, kyB]
  cases hp : plsB k with
  | false => rfl
  | true =>
   have e0 : ((l.take i).length : Int) = ((l.take i).length : Nat) := rfl
   rw [Bool.not_true, cond_false, subc0 l i (by omega) rfl, bnd_eq]
   have := ir4 F (alert_isRoll_2 F N) (l.take i) (by omega) l l.length i k l q i F 0 (by omega) (by omega) (by omega)
   rw [List.drop_zero] at this
   have h0 : ((0 : Nat) : Int) = 0 := rfl
   rw [h0] at this
   rw [this, up (by omega), ir2 F hF l hl q n N (i + 1) (by omega) (by omega) (by omega), take_next hk]
   cases newB (l.take i) k <;> rfl
def rollB (r : S_api_Roll) : Bool := inR 1 r.Keys.length 8 && (inR 1 r.Quorum r.Keys.length && kyB [] r.Keys)
theorem isRoll_eq (F : Nat) (hF : 1000 < F) (r : S_api_Roll) : alert_isRoll F r = some (rollB r) := by
 unfold alert_isRoll alert_isRoll_1 rollB
 rw [isFrom_eq, isFrom_eq, bnd_eq, bnd_eq]
 cases h : inR 1 (r.Keys.length : Int) 8 with
 | false => rfl
 | true =>
  have := inR_iff.1 h
  cases hq : inR 1 r.Quorum r.Keys.length with
  | false => rfl
  | true =>
   simp only [Bool.not_true, cond_false, Bool.true_and]
   exact ir2 F hF r.Keys (by omega) r.Quorum r.Keys.length F 0 rfl (by omega) (by omega)
theorem checkRoll_eq (F : Nat) (hF : 1000 < F) (r : S_api_Roll) : alert_CheckRoll F r = some (bif rollB r then 0 else 104) := by
 unfold alert_CheckRoll
 rw [isRoll_eq F hF, bnd_eq]
 cases rollB r <;> rfl
/- On the other side. -/
theorem cr4f (F : Nat) (hd : Bool → Int → List S_api_Key → Int → Option Int) (l : List S_api_Key) (q : Int) (i : Nat) (hi : i < 9223372036854775807) : ∀ (n N j : Nat), n = i - j → j ≤ i → n < N → ref10_CheckRoll_4 F hd N false i j l q = hd false ((i + 1 : Nat) : Int) l q
 | n, 0, j, _, _, h => by omega
 | 0, N + 1, j, hn, hj, _ => by
  rw [ref10_CheckRoll_4, bif_neg' (by omega), up (by omega)]
 | n + 1, N + 1, j, hn, hj, hN => by
  rw [ref10_CheckRoll_4, bif_pos' (by omega), cond_false, ref10_CheckRoll_5, up (by omega), cr4f F hd l q i hi n N (j + 1) (by omega) (by omega) (by omega)]
theorem cr2f (F : Nat) (l : List S_api_Key) (hl : l.length ≤ 9223372036854775807) (hF : l.length < F) (q : Int) : ∀ (n N i : Nat), n = l.length - i → i ≤ l.length → n < N → ref10_CheckRoll_2 F N false i l q = some 104
 | n, 0, i, _, _, h => by omega
 | 0, N + 1, i, hn, hi, _ => by
  rw [ref10_CheckRoll_2, bif_neg' (by omega)]
  rfl
 | n + 1, N + 1, i, hn, hi, hN => by
  have h0 : ((0 : Nat) : Int) = 0 := rfl
  rw [ref10_CheckRoll_2, bif_pos' (by omega), cond_false, ref10_CheckRoll_3, ← h0, cr4f F _ l q i (by omega) i F 0 rfl (by omega) (by omega)]
  exact cr2f F l hl hF q n N (i + 1) (by omega) (by omega) (by omega)
theorem cr4 (F : Nat) (hd : Bool → Int → List S_api_Key → Int → Option Int) (l : List S_api_Key) (hl : l.length ≤ 8) (q : Int) (i : Nat) (k : S_api_Key) (hk : l[i]? = some k) : ∀ (n N j : Nat) (ok : Bool), n = i - j → j ≤ i → n < N → ref10_CheckRoll_4 F hd N ok i j l q = hd (ok && newB ((l.take i).drop j) k) ((i + 1 : Nat) : Int) l q
 | n, 0, j, ok, _, _, h => by omega
 | 0, N + 1, j, ok, hn, hj, _ => by
  have := (List.getElem?_eq_some_iff.1 hk).1
  rw [ref10_CheckRoll_4, bif_neg' (by omega), up (by omega), List.drop_of_length_le (by rw [List.length_take]; omega)]
  simp [newB]
 | n + 1, N + 1, j, ok, hn, hj, hN => by
  have := (List.getElem?_eq_some_iff.1 hk).1
  obtain ⟨x, hx⟩ := get_lt (l := l) (i := j) (by omega)
  have hx' : (l.take i)[j]? = some x := by rw [List.getElem?_take_of_lt (by omega)]; exact hx
  rw [ref10_CheckRoll_4, bif_pos' (by omega), idx_nat, hx, bnd_eq, idx_nat, hk, bnd_eq, drop_get hx']
  unfold ref10_CheckRoll_5
  rw [up (by omega), cr4 F hd l hl q i k hk n N (j + 1) _ (by omega) (by omega) (by omega), cr4 F hd l hl q i k hk n N (j + 1) _ (by omega) (by omega) (by omega)]
  unfold newB
  rw [List.all_cons]
  cases ok <;> rfl
theorem cr2 (F : Nat) (l : List S_api_Key) (hl : l.length ≤ 8) (hF : 1000 < F) (q : Int) : ∀ (n N i : Nat), n = l.length - i → i ≤ l.length → n < N → ref10_CheckRoll_2 F N true i l q = some (bif kyB (l.take i) (l.drop i) then 0 else 104)
 | n, 0, i, _, _, h => by omega
 | 0, N + 1, i, hn, hi, _ => by
  rw [ref10_CheckRoll_2, bif_neg' (by omega), List.drop_of_length_le (by omega)]
  rfl
 | n + 1, N + 1, i, hn, hi, hN => by
  obtain ⟨k, hk⟩ := get_lt (l := l) (i := i) (by omega)
  have h0 : ((0 : Nat) : Int) = 0 := rfl
  rw [ref10_CheckRoll_2, bif_pos' (by omega), cond_true, idx_nat, hk, bnd_eq, rplausible_eq, bnd_eq, ref10_CheckRoll_3, ← h0, cr4 F _ l hl q i k hk i F 0 _ rfl (by omega) (by omega), List.drop_zero, drop_get hk, kyB]
  cases hb : plsB k && newB (l.take i) k with
  | false => exact cr2f F l (by omega) (by omega) q n N (i + 1) (by omega) (by omega) (by omega)
  | true =>
   rw [Bool.true_and, ← take_next hk]
   exact cr2 F l hl hF q n N (i + 1) (by omega) (by omega) (by omega)
theorem rcheckRoll_eq (F : Nat) (hF : 1000 < F) (r : S_api_Roll) (hl : r.Keys.length ≤ 9223372036854775807) (hFl : r.Keys.length < F) : ref10_CheckRoll F r = some (bif rollB r then 0 else 104) := by
 have hf := cr2f F r.Keys hl hFl r.Quorum r.Keys.length F 0 rfl (by omega) hFl
 unfold ref10_CheckRoll ref10_CheckRoll_1 rollB
 rw [rIn_eq, rIn_eq, bnd_eq, bnd_eq]
 cases h : inR 1 (r.Keys.length : Int) 8 with
 | false => exact hf
 | true =>
  have := inR_iff.1 h
  cases hq : inR 1 r.Quorum r.Keys.length with
  | false => exact hf
  | true => exact cr2 F r.Keys (by omega) hF r.Quorum r.Keys.length F 0 rfl (by omega) (by omega)
/- Signatures. -/
def sgB (l : List S_api_Key) (d : Nat) : Int → List S_api_Signature → Bool
 | _, [] => true
 | lo, s :: r => (inR (lo + 1) s.Signer ((l.length : Int) - 1) && (match l[s.Signer.toNat]? with
   | some k => sigB k.Modulus.toNat k.Exponent.toNat d s.Number
   | none => false)) && sgB l d s.Signer r
theorem ky_all : ∀ (l p : List S_api_Key), kyB p l = true → ∀ k ∈ l, plsB k = true
 | [], _, _, k, hk => by simp at hk
 | x :: l, p, h, k, hk => by
  rw [kyB, Bool.and_eq_true, Bool.and_eq_true] at h
  rcases List.mem_cons.1 hk with rfl | hk
  ·exact h.1.1
  ·exact ky_all l _ h.2 k hk
theorem key_at {l : List S_api_Key} (h : kyB [] l = true) {s lo : Int} (hlo : -1 ≤ lo) (hs : inR (lo + 1) s ((l.length : Int) - 1) = true) : ∃ (j m x : Nat), s = j ∧ l[j]? = some (S_api_Key.mk m x) ∧ 15 ≤ m ∧ m ≤ 1073741824 ∧ x ≤ 32749 := by
 have h1 := inR_iff.1 hs
 obtain ⟨k, hk⟩ := get_lt (l := l) (i := s.toNat) (by omega)
 obtain ⟨m, x, rfl, a, b, _, c⟩ := pls_nat (ky_all l [] h k (List.mem_of_getElem? hk))
 exact ⟨s.toNat, m, x, by omega, hk, a, b, c⟩
theorem is1 (F : Nat) (hF : 1000 < F) (l : List S_api_Key) (hl : l.length ≤ 8) (hk : kyB [] l = true) (q : Int) (d : Nat) (g : List S_api_Signature) (hg : g.length ≤ 9223372036854775807) : ∀ (n N i : Nat) (lo : Int), n = g.length - i → i ≤ g.length → n < N → -1 ≤ lo → lo ≤ 8 → alert_roll_isSigned_1 F N d lo g g.length i l q = some (sgB l d lo (g.drop i))
 | n, 0, i, lo, _, _, h, _, _ => by omega
 | 0, N + 1, i, lo, hn, hi, _, _, _ => by
  rw [alert_roll_isSigned_1, bif_neg' (by omega), List.drop_of_length_le (by omega)]
  rfl
 | n + 1, N + 1, i, lo, hn, hi, hN, h1, h2 => by
  obtain ⟨s, hs⟩ := get_lt (l := g) (i := i) (by omega)
  rw [alert_roll_isSigned_1, bif_pos' (by omega), idx_nat, hs, bnd_eq, isFrom_eq, bnd_eq, w64_id (by omega) (by omega), w64_id (n := (l.length : Int) - 1) (by omega) (by omega), drop_get hs, sgB]
  cases hr : inR (lo + 1) s.Signer ((l.length : Int) - 1) with
  | false => rfl
  | true =>
   obtain ⟨j, m, x, e, hj, a, b, c⟩ := key_at hk h1 hr
   have hjl := (List.getElem?_eq_some_iff.1 hj).1
   have hidx : idx l s.Signer = some (S_api_Key.mk m x) := by rw [e]; exact hj
   have hat : l[s.Signer.toNat]? = some (S_api_Key.mk m x) := by rw [e]; exact hj
   rw [Bool.not_true, cond_false, hidx, bnd_eq, isSigned_eq F m x d s.Number a b c (by omega), bnd_eq, hat]
   unfold alert_roll_isSigned_2
   simp only [Int.toNat_natCast, Bool.true_and]
   cases hb : sigB m x d s.Number with
   | false => rfl
   | true =>
    rw [Bool.not_true, cond_false, Bool.true_and, up (by omega)]
    exact is1 F hF l hl hk q d g hg n N (i + 1) s.Signer (by omega) (by omega) (by omega) (by omega) (by omega)
def noticeT (r : S_api_Roll) (n : S_api_Notice) : Int := bif vldB n.Alert then (bif sgB r.Keys (digT n.Alert) (-1) n.Signatures then (bif decide ((n.Signatures.length : Int) < r.Quorum) then 103 else 0) else 102) else 101
theorem ro1 (F : Nat) (l : List S_api_Key) (hl : l.length ≤ 8) (a : List S_api_Key) (q z : Int) : ∀ (n N i : Nat), n = l.length - i → i ≤ l.length → n < N → alert_rollOf_1 F N l l.length i a q z (l.take i) = some (S_alert_roll.mk l q)
 | n, 0, i, _, _, h => by omega
 | 0, N + 1, i, hn, hi, _ => by
  rw [alert_rollOf_1, bif_neg' (by omega), List.take_of_length_le (by omega)]
 | n + 1, N + 1, i, hn, hi, hN => by
  obtain ⟨k, hk⟩ := get_lt (l := l) (i := i) (by omega)
  rw [alert_rollOf_1, bif_pos' (by omega), idx_nat, hk, bnd_eq, apd_ok (by rw [List.length_take]; simp; omega) (by omega), bnd_eq, ← take_next hk, up (by omega)]
  exact ro1 F l hl a q z n N (i + 1) (by omega) (by omega) (by omega)
theorem rollOf_eq (F : Nat) (hF : 1000 < F) (r : S_api_Roll) (hl : r.Keys.length ≤ 8) : alert_rollOf F r = some (S_alert_roll.mk r.Keys r.Quorum) := by
 unfold alert_rollOf
 exact ro1 F r.Keys hl r.Keys r.Quorum 0 r.Keys.length F 0 rfl (by omega) (by omega)
theorem roll_facts {r : S_api_Roll} (h : rollB r = true) : r.Keys.length ≤ 8 ∧ kyB [] r.Keys = true := by
 unfold rollB at h
 rw [Bool.and_eq_true, Bool.and_eq_true] at h
 have := inR_iff.1 h.1
 exact ⟨by omega, h.2.2⟩
theorem check_roll_eq (F : Nat) (hF : 20000 < F) (r : S_api_Roll) (hr : rollB r = true) (n : S_api_Notice) (hc : n.Alert.Cells.length ≤ 9223372036854775807) (hcF : n.Alert.Cells.length < F) (hg : n.Signatures.length ≤ 9223372036854775807) (hgF : n.Signatures.length < F) :
  alert_roll_check F (S_alert_roll.mk r.Keys r.Quorum) n = some (noticeT r n) := by
 obtain ⟨hl, hk⟩ := roll_facts hr
 unfold alert_roll_check noticeT
 rw [isAlert_eq F _ (by omega) hc hcF, bnd_eq]
 cases hv : vldB n.Alert with
 | false => rfl
 | true =>
  have hd := digestOf_eq F hF (vld_fine hv)
  rw [Bool.not_true, cond_false, cond_true]
  unfold alert_roll_isSigned
  simp only [hd, bnd_eq]
  rw [show ((0 : Int)) = ((0 : Nat) : Int) from rfl, is1 F (by omega) r.Keys hl hk r.Quorum (digT n.Alert) n.Signatures hg n.Signatures.length F 0 (-1) rfl (by omega) hgF (by omega) (by omega), bnd_eq, List.drop_zero]
  cases sgB r.Keys (digT n.Alert) (-1) n.Signatures with
  | false => rfl
  | true => cases decide ((n.Signatures.length : Int) < r.Quorum) <;> rfl
/- On the other side. -/
def prevS (g : List S_api_Signature) : Nat → Int
 | 0 => -1
 | i + 1 => match g[i]? with
  | some s => s.Signer
  | none => -1
theorem no1 (F : Nat) (hF : 20000 < F) (a : S_api_Alert) (ha : Fine a) (l : List S_api_Key) (hl : l.length ≤ 8) (hk : kyB [] l = true) (q : Int) (g : List S_api_Signature) (hg : g.length ≤ 9223372036854775807) : ∀ (n N i : Nat), n = g.length - i → i ≤ g.length → n < N → -1 ≤ prevS g i → prevS g i ≤ 8 →
  ref10_notice_1 F N i l q a.Event a.Version a.Time a.Chance.N a.Chance.Of a.Grid a.Cells a.Withdrawn a.Before g = some (bif sgB l (digT a) (prevS g i) (g.drop i) then (bif decide ((g.length : Int) < q) then 103 else 0) else 102)
 | n, 0, i, _, _, h, _, _ => by omega
 | 0, N + 1, i, hn, hi, _, _, _ => by
  rw [ref10_notice_1, bif_neg' (by omega), List.drop_of_length_le (by omega)]
  cases decide ((g.length : Int) < q) <;> rfl
 | n + 1, N + 1, i, hn, hi, hN, h1, h2 => by
  obtain ⟨s, hs⟩ := get_lt (l := g) (i := i) (by omega)
  have hnext : prevS g (i + 1) = s.Signer := by show (match g[i]? with | some s => s.Signer | none => (-1 : Int)) = _; rw [hs]
  have hstep : inR (prevS g i + 1) s.Signer ((l.length : Int) - 1) = true → (bnd (idx l s.Signer) fun x49 => bnd (ref10_signed F x49 (S_api_Alert.mk a.Event a.Version a.Time (S_api_Chance.mk a.Chance.N a.Chance.Of) a.Grid a.Cells a.Withdrawn a.Before) s.Number) fun r50 => ref10_notice_2 F (ref10_notice_1 F N) (i : Int) (!r50) l q a.Event a.Version a.Time a.Chance.N a.Chance.Of a.Grid a.Cells a.Withdrawn a.Before g) = some (bif sgB l (digT a) (prevS g i) (s :: g.drop (i + 1)) then (bif decide ((g.length : Int) < q) then 103 else 0) else 102) := by
   intro hr
   have hr' := inR_iff.1 hr
   obtain ⟨j, m, x, e, hj, aa, b, c⟩ := key_at hk h1 hr
   have hjl := (List.getElem?_eq_some_iff.1 hj).1
   have hidx : idx l s.Signer = some (S_api_Key.mk m x) := by rw [e]; exact hj
   have hat : l[s.Signer.toNat]? = some (S_api_Key.mk m x) := by rw [e]; exact hj
   rw [hidx, bnd_eq, alert_eta, rsigned_eq F m x a s.Number aa b c hF ha, bnd_eq, sgB, hr, hat]
   unfold ref10_notice_2
   simp only [Int.toNat_natCast, Bool.true_and]
   cases hb : sigB m x (digT a) s.Number with
   | false => rfl
   | true =>
    rw [Bool.not_true, cond_false, Bool.true_and, up (by omega), no1 F hF a ha l hl hk q g hg n N (i + 1) (by omega) (by omega) (by omega) (by rw [hnext]; omega) (by rw [hnext]; omega), hnext]
  have hbad : inR (prevS g i + 1) s.Signer ((l.length : Int) - 1) = false → some (102 : Int) = some (bif sgB l (digT a) (prevS g i) (s :: g.drop (i + 1)) then (bif decide ((g.length : Int) < q) then 103 else 0) else 102) := by
   intro hr
   rw [sgB, hr]
   rfl
  rw [ref10_notice_1, bif_pos' (by omega), idx_nat, hs, bnd_eq, rIn_eq, bnd_eq, w64_id (n := (l.length : Int) - 1) (by omega) (by omega), drop_get hs]
  cases hr : inR 0 s.Signer ((l.length : Int) - 1) with
  | false =>
   rw [Bool.not_false, cond_true]
   refine hbad ?_
   have := inR_false.1 hr
   exact inR_false.2 (by omega)
  | true =>
   have hr' := inR_iff.1 hr
   rw [Bool.not_true, cond_false]
   cases i with
   | zero =>
    rw [bif_neg' (by omega)]
    exact hstep (inR_iff.2 (by show (-1 : Int) + 1 ≤ _ ∧ _; omega))
   | succ i =>
    obtain ⟨p, hp⟩ := get_lt (l := g) (i := i) (by omega)
    have hpv : prevS g (i + 1) = p.Signer := by show (match g[i]? with | some s => s.Signer | none => (-1 : Int)) = _; rw [hp]
    have e1 : w64 (((i + 1 : Nat) : Int) - 1) = (i : Int) := by rw [w64_id (by omega) (by omega)]; omega
    rw [bif_pos' (by omega), e1, idx_nat, hp, bnd_eq]
    by_cases hle : s.Signer ≤ p.Signer
    ·rw [bif_pos' hle]
     exact hbad (inR_false.2 (by rw [hpv]; omega))
    ·rw [bif_neg' hle]
     exact hstep (inR_iff.2 (by rw [hpv]; omega))
theorem rnotice_eq (F : Nat) (hF : 20000 < F) (r : S_api_Roll) (hr : rollB r = true) (n : S_api_Notice) (hc : n.Alert.Cells.length ≤ 9223372036854775807) (hcF : n.Alert.Cells.length < F) (hg : n.Signatures.length ≤ 9223372036854775807) (hgF : n.Signatures.length < F) :
  ref10_notice F r n = some (noticeT r n) := by
 obtain ⟨hl, hk⟩ := roll_facts hr
 unfold ref10_notice noticeT
 rw [check_eq F _ (by omega) hc hcF, bnd_eq]
 cases hv : vldB n.Alert with
 | false => rfl
 | true =>
  rw [cond_true, cond_true, show ((0 : Int) == 0) = true from rfl, Bool.not_true, cond_false]
  exact no1 F hF n.Alert (vld_fine hv) r.Keys hl hk r.Quorum n.Signatures hg n.Signatures.length F 0 rfl (by omega) hgF (by show (-1 : Int) ≤ -1; omega) (by show (-1 : Int) ≤ 8; omega)
end Go.Ev.AlertBoards
