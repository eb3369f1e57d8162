/- Rolls and notices, on both sides. -/
import Derived.Test.YtoobfmfgbcohcaaDoorAlertChainMath6
namespace Go.Ev.AlertChain
open Go Go.Ev Go.Proofs
set_option linter.unusedVariables false
def newB (p : List S_api_Key) (k : S_api_Key) : Bool := p.all fun o => !(o.Modulus == k.Modulus)
def kyB (p : List S_api_Key) : List S_api_Key → Bool
  | [] => true
  | k :: r => (plsB k && newB p k) && kyB (p ++ [k]) r
theorem take_next {α : Type} {l : List α} {i : Nat} {a : α} (h : l[i]? = some a) : l.take (i + 1) = l.take i ++ [a] := by
  rw [List.take_add_one, h]; rfl
theorem ir4 (F : Nat) (hd : List S_api_Key → Int → Int → List S_api_Key → Int → Option Bool) (p : List S_api_Key) (hp : p.length ≤ 1000) (a : List S_api_Key) (b c : Int) (k : S_api_Key) (e : List S_api_Key) (q : Int) : ∀ (n N j : Nat), n = p.length - j → j ≤ p.length → n < N →
    alert_isRoll_4 F hd N p p.length j a b c false k e q = bif newB (p.drop j) k then hd a b (w64 (c + 1)) e q else some false
  | n, 0, j, _, _, h => by omega
  | 0, N + 1, j, hn, hj, _ => by
    rw [alert_isRoll_4, bif_neg' (by omega), List.drop_of_length_le (by omega)]
    rfl
  | n + 1, N + 1, j, hn, hj, hN => by
    obtain ⟨x, hx⟩ := get_lt (l := p) (i := j) (by omega)
    rw [alert_isRoll_4, bif_pos' (by omega), idx_nat, hx, bnd_eq, up (by omega), ir4 F hd p hp a b c k e q n N (j + 1) (by omega) (by omega) (by omega), drop_get hx]
    unfold newB
    rw [List.all_cons]
    cases hm : x.Modulus == k.Modulus with
    | true =>
      rw [cond_true, cond_false, decide_eq_true (show (0 : Int) ≤ (j : Int) by omega)]
      rfl
    | false => rfl
theorem ir2 (F : Nat) (hF : 1000 < F) (l : List S_api_Key) (hl : l.length ≤ 8) (q : Int) : ∀ (n N i : Nat), n = l.length - i → i ≤ l.length → n < N → alert_isRoll_2 F N l l.length i l q = some (kyB (l.take i) (l.drop i))
  | n, 0, i, _, _, h => by omega
  | 0, N + 1, i, hn, hi, _ => by
    rw [alert_isRoll_2, bif_neg' (by omega), List.drop_of_length_le (by omega)]
    rfl
  | n + 1, N + 1, i, hn, hi, hN => by
    obtain ⟨k, hk⟩ := get_lt (l := l) (i := i) (by omega)
    have hlt : (l.take i).length = i := by rw [List.length_take]; omega
    rw [alert_isRoll_2, bif_pos' (by omega), idx_nat, hk, bnd_eq, plausible_eq, bnd_eq, drop_get hk, kyB]
    cases hp : plsB k with
    | false => rfl
    | true =>
      have e0 : ((l.take i).length : Int) = ((l.take i).length : Nat) := rfl
      rw [Bool.not_true, cond_false, subc0 l i (by omega) rfl, bnd_eq]
      have := ir4 F (alert_isRoll_2 F N) (l.take i) (by omega) l l.length i k l q i F 0 (by omega) (by omega) (by omega)
      rw [List.drop_zero] at this
      have h0 : ((0 : Nat) : Int) = 0 := rfl
      rw [h0] at this
      rw [this, up (by omega), ir2 F hF l hl q n N (i + 1) (by omega) (by omega) (by omega), take_next hk]
      cases newB (l.take i) k <;> rfl
def rollB (r : S_api_Roll) : Bool := inR 1 r.Keys.length 8 && (inR 1 r.Quorum r.Keys.length && kyB [] r.Keys)
theorem isRoll_eq (F : Nat) (hF : 1000 < F) (r : S_api_Roll) : alert_isRoll F r = some (rollB r) := by
  unfold alert_isRoll alert_isRoll_1 rollB
  rw [isFrom_eq, isFrom_eq, bnd_eq, bnd_eq]
  cases h : inR 1 (r.Keys.length : Int) 8 with
  | false => rfl
  | true =>
    have := inR_iff.1 h
    cases hq : inR 1 r.Quorum r.Keys.length with
    | false => rfl
    | true =>
      simp only [Bool.not_true, cond_false, Bool.true_and]
      exact ir2 F hF r.Keys (by omega) r.Quorum r.Keys.length F 0 rfl (by omega) (by omega)
theorem checkRoll_eq (F : Nat) (hF : 1000 < F) (r : S_api_Roll) : alert_CheckRoll F r = some (bif rollB r then 0 else 104) := by
  unfold alert_CheckRoll
  rw [isRoll_eq F hF, bnd_eq]
  cases rollB r <;> rfl
def sgB (l : List S_api_Key) (d : Nat) : Int → List S_api_Signature → Bool
  | _, [] => true
  | lo, s :: r => (inR (lo + 1) s.Signer ((l.length : Int) - 1) && (match l[s.Signer.toNat]? with
      | some k => sigB k.Modulus.toNat k.Exponent.toNat d s.Number
      | none => false)) && sgB l d s.Signer r
theorem ky_all : ∀ (l p : List S_api_Key), kyB p l = true → ∀ k ∈ l, plsB k = true
  | [], _, _, k, hk => by simp at hk
  | x :: l, p, h, k, hk => by
    rw [kyB, Bool.and_eq_true, Bool.and_eq_true] at h
    rcases List.mem_cons.1 hk with rfl | hk
    · exact h.1.1
    · exact ky_all l _ h.2 k hk
theorem key_at {l : List S_api_Key} (h : kyB [] l = true) {s lo : Int} (hlo : -1 ≤ lo) (hs : inR (lo + 1) s ((l.length : Int) - 1) = true) : ∃ (j m x : Nat), s = j ∧ l[j]? = some (S_api_Key.mk m x) ∧ 15 ≤ m ∧ m ≤ 1073741824 ∧ x ≤ 32749 := by
  have h1 := inR_iff.1 hs
  obtain ⟨k, hk⟩ := get_lt (l := l) (i := s.toNat) (by omega)
  obtain ⟨m, x, rfl, a, b, _, c⟩ := pls_nat (ky_all l [] h k (List.mem_of_getElem? hk))
  exact ⟨s.toNat, m, x, by omega, hk, a, b, c⟩
def noticeT (r : S_api_Roll) (n : S_api_Notice) : Int := bif vldB n.Alert then (bif sgB r.Keys (digT n.Alert) (-1) n.Signatures then (bif decide ((n.Signatures.length : Int) < r.Quorum) then 103 else 0) else 102) else 101
theorem ro1 (F : Nat) (l : List S_api_Key) (hl : l.length ≤ 8) (a : List S_api_Key) (q z : Int) : ∀ (n N i : Nat), n = l.length - i → i ≤ l.length → n < N → alert_rollOf_1 F N l l.length i a q z (l.take i) = some (S_alert_roll.mk l q)
  | n, 0, i, _, _, h => by omega
  | 0, N + 1, i, hn, hi, _ => by
    rw [alert_rollOf_1, bif_neg' (by omega), List.take_of_length_le (by omega)]
  | n + 1, N + 1, i, hn, hi, hN => by
    obtain ⟨k, hk⟩ := get_lt (l := l) (i := i) (by omega)
    rw [alert_rollOf_1, bif_pos' (by omega), idx_nat, hk, bnd_eq, apd_ok (by rw [List.length_take]; simp; omega) (by omega), bnd_eq, ← take_next hk, up (by omega)]
    exact ro1 F l hl a q z n N (i + 1) (by omega) (by omega) (by omega)
theorem rollOf_eq (F : Nat) (hF : 1000 < F) (r : S_api_Roll) (hl : r.Keys.length ≤ 8) : alert_rollOf F r = some (S_alert_roll.mk r.Keys r.Quorum) := by
  unfold alert_rollOf
  exact ro1 F r.Keys hl r.Keys r.Quorum 0 r.Keys.length F 0 rfl (by omega) (by omega)
theorem roll_facts {r : S_api_Roll} (h : rollB r = true) : r.Keys.length ≤ 8 ∧ kyB [] r.Keys = true := by
  unfold rollB at h
  rw [Bool.and_eq_true, Bool.and_eq_true] at h
  have := inR_iff.1 h.1
  exact ⟨by omega, h.2.2⟩
end Go.Ev.AlertChain
