/- SearchSeals. -/
import Derived.Test.YtcifnjdjnoadfaaSearchSealsMath8
namespace Go.Ev.SearchSeals
open Go Go.Ev Go.Proofs
set_option linter.unusedVariables false
theorem rgiven_eq (F : Nat) (hF : 1024 < F) (x : List Int) (ws : List S_api_Wave) (hx : x.length ≤ 9223372036854775807) (hFx : x.length < F) (hS : ∀ w ∈ ws, w.Samples.length ≤ 9223372036854775807) : ref08_given F x ws = some (chkW x ws) := by
  unfold ref08_given chkW
  rw [rrecord_eq F x hFx hx, bnd_eq]
  cases e : isRec x with
  | false => rfl
  | true =>
    have := (isRec_ok e).1
    simp only [Bool.not_true, cond_false, cond_true]
    rw [rwaves_eq F (by omega) ws hS x.length ⟨by omega, by omega⟩, bnd_eq]
    cases wavesB x.length ws <;> rfl
theorem radd2 (F : Nat) (hd : (List S_api_Wave) → Int → Int → (List Int) → Option ((List Int))) (k : Int) (ws : List S_api_Wave) (m : Nat) (w : S_api_Wave) (hm : ws[m]? = some w) (ha : 0 ≤ w.At) (hS : w.Samples.length ≤ 64) : ∀ (d N j : Nat) (l : List Int), d = w.Samples.length - j → j ≤ w.Samples.length → d < N → l.length ≤ 1024 → w.At + (w.Samples.length : Int) ≤ l.length →
    ref08_injected_2 F hd N ws k m j l = hd ws k (w64 ((m : Int) + 1)) (addS (w64 (k * w.Gain)) l (w.At.toNat + j) (w.Samples.drop j))
  | d, 0, j, l, _, _, h, _, _ => by omega
  | 0, N + 1, j, l, hd', hj, _, _, _ => by
    rw [ref08_injected_2, idx_nat, hm, bnd_eq, bif_neg' (by omega : ¬ ((j : Int) < w.Samples.length)), List.drop_of_length_le (by omega)]
    rfl
  | d + 1, N + 1, j, l, hd', hj, hN, hl, hal => by
    obtain ⟨s, hs⟩ := get_lt (l := w.Samples) (i := j) (by omega)
    obtain ⟨x, hx⟩ := get_lt (l := l) (i := w.At.toNat + j) (by omega)
    have e : w64 (w.At + (j : Int)) = ((w.At.toNat + j : Nat) : Int) := by rw [w64_id (by omega) (by omega)]; omega
    rw [ref08_injected_2, idx_nat, hm]
    simp only [bnd_eq]
    rw [bif_pos' (by omega : ((j : Int) < w.Samples.length)), e, idx_nat, hx, bnd_eq, idx_nat, hs, bnd_eq, inn_at (by omega), bnd_eq, upd_at (by omega), bnd_eq, up (by omega),
      radd2 F hd k ws m w hm ha hS d N (j + 1) _ (by omega) (by omega) (by omega) (by rw [List.length_set]; omega) (by rw [List.length_set]; omega), drop_get hs, addS, hx]
    rfl
theorem radd1 (F : Nat) (hF : 64 < F) (k : Int) (ws : List S_api_Wave) (hws : ws.length ≤ 64) (t : Nat) (ht : t ≤ 1024) (hW : ∀ w ∈ ws, w.Samples.length ≤ 64 ∧ 0 ≤ w.At ∧ w.At + (w.Samples.length : Int) ≤ t) : ∀ (d N m : Nat) (l : List Int), d = ws.length - m → m ≤ ws.length → d < N → l.length = t →
    ref08_injected_1 F N ws k m l = some (addAll k l (ws.drop m))
  | d, 0, m, l, _, _, h, _ => by omega
  | 0, N + 1, m, l, hd', hm, _, _ => by
    rw [ref08_injected_1, bif_neg' (by omega : ¬ ((m : Int) < ws.length)), List.drop_of_length_le (by omega)]
    rfl
  | d + 1, N + 1, m, l, hd', hm, hN, hl => by
    obtain ⟨w, hw⟩ := get_lt (l := ws) (i := m) (by omega)
    obtain ⟨w1, w2, w3⟩ := hW w (List.mem_of_getElem? hw)
    have h2 := radd2 F (ref08_injected_1 F N) k ws m w hw w2 w1 w.Samples.length F 0 l rfl (Nat.zero_le _) (by omega) (by omega) (by omega)
    rw [List.drop_zero, Nat.add_zero] at h2
    rw [ref08_injected_1, bif_pos' (by omega : ((m : Int) < ws.length)), drop_get hw, addAll]
    refine h2.trans ?_
    rw [up (by omega)]
    exact radd1 F hF k ws hws t ht hW d N (m + 1) _ (by omega) (by omega) (by omega) (by rw [addS_len]; exact hl)
theorem radded_eq (F : Nat) (hF : 1024 < F) (k : Int) (x : List Int) (ws : List S_api_Wave) (h : chkW x ws = 0) : ref08_injected F x ws k = some (addAll k x ws) := by
  obtain ⟨h1, h2⟩ := chkW_0 h
  obtain ⟨w1, w2⟩ := waves_in h2
  have hx := (isRec_ok h1).1
  unfold ref08_injected ref00_OwnInts
  rw [apd_ok (by simp; omega) (by omega), bnd_eq, bnd_eq, List.nil_append]
  exact radd1 F (by omega) k ws w1 x.length hx w2 ws.length F 0 x rfl (Nat.zero_le _) (by omega) rfl
theorem rInject_eq (F : Nat) (hF : 1024 < F) (x : List Int) (ws : List S_api_Wave) (hx : x.length ≤ 9223372036854775807) (hFx : x.length < F) (hS : ∀ w ∈ ws, w.Samples.length ≤ 9223372036854775807) : ref08_Inject F x ws = some (injR x ws) := by
  unfold ref08_Inject injR
  rw [rgiven_eq F hF x ws hx hFx hS, bnd_eq]
  cases e : (chkW x ws == 0) with
  | false => rfl
  | true =>
    rw [beq_iff_eq] at e
    simp only [Bool.not_true, cond_false, cond_true]
    rw [radded_eq F hF 1 x ws e, bnd_eq, rrecord_eq F _ (by rw [addAll_len]; exact hFx) (by rw [addAll_len]; exact hx), bnd_eq]
    unfold recR
    cases isRec (addAll 1 x ws) <;> rfl
theorem renv2 (F : Nat) (hd : (List S_api_Wave) → Int → Int → S_api_Envelope → Option (S_api_Envelope)) (ws : List S_api_Wave) (m a g : Int) (S : List Int) (hS : S.length ≤ 64) (c22 : S_api_Envelope) : ∀ (d N j : Nat) (c : Int), d = S.length - j → j ≤ S.length → d < N →
    ref08_envelope_2 F hd N ws c m j c22 a g S = hd ws ((S.drop j).foldl nxt c) (w64 (m + 1)) c22
  | d, 0, j, c, _, _, h => by omega
  | 0, N + 1, j, c, hd', hj, _ => by
    rw [ref08_envelope_2, bif_neg' (by omega : ¬ ((j : Int) < S.length)), List.drop_of_length_le (by omega)]
    rfl
  | d + 1, N + 1, j, c, hd', hj, hN => by
    obtain ⟨s, hs⟩ := get_lt (l := S) (i := j) (by omega)
    rw [ref08_envelope_2, bif_pos' (by omega : ((j : Int) < S.length)), idx_nat, hs, bnd_eq]
    unfold ref08_next
    rw [bnd_eq, up (by omega), renv2 F hd ws m a g S hS c22 d N (j + 1) _ (by omega) (by omega) (by omega), drop_get hs]
    rfl
theorem renv1 (F : Nat) (hF : 64 < F) (ws : List S_api_Wave) (hws : ws.length ≤ 64) (hW : ∀ w ∈ ws, w.Samples.length ≤ 64) (c22 : S_api_Envelope) : ∀ (d N m : Nat) (c : Int), d = ws.length - m → m ≤ ws.length → d < N →
    ref08_envelope_1 F N ws c m c22 = some ⟨ws.length, (ws.drop m).foldl envW c⟩
  | d, 0, m, c, _, _, h => by omega
  | 0, N + 1, m, c, hd', hm, _ => by
    rw [ref08_envelope_1, bif_neg' (by omega : ¬ ((m : Int) < ws.length)), List.drop_of_length_le (by omega)]
    rfl
  | d + 1, N + 1, m, c, hd', hm, hN => by
    obtain ⟨w, hw⟩ := get_lt (l := ws) (i := m) (by omega)
    have w1 := hW w (List.mem_of_getElem? hw)
    have h2 := renv2 F (ref08_envelope_1 F N) ws m w.At w.Gain w.Samples w1 c22 w.Samples.length F 0 (nxt (nxt (nxt c w.At) w.Gain) w.Samples.length) rfl (Nat.zero_le _) (by omega)
    rw [List.drop_zero] at h2
    rw [ref08_envelope_1, bif_pos' (by omega : ((m : Int) < ws.length)), idx_nat, hw, bnd_eq, drop_get hw, List.foldl_cons]
    refine h2.trans ?_
    rw [up (by omega)]
    exact renv1 F hF ws hws hW c22 d N (m + 1) _ (by omega) (by omega) (by omega)
theorem renvelope_eq (F : Nat) (hF : 64 < F) (ws : List S_api_Wave) (key : Int) (hws : ws.length ≤ 64) (hW : ∀ w ∈ ws, w.Samples.length ≤ 64) : ref08_envelope F ws key = some (envE ws key) := by
  unfold ref08_envelope
  exact renv1 F hF ws hws hW ⟨0, 0⟩ ws.length F 0 (w64 (key + 1)) rfl (Nat.zero_le _) (by omega)
theorem rSeal_eq (F : Nat) (hF : 1024 < F) (x : List Int) (ws : List S_api_Wave) (key : Int) (hx : x.length ≤ 9223372036854775807) (hFx : x.length < F) (hS : ∀ w ∈ ws, w.Samples.length ≤ 9223372036854775807) : ref08_Seal F x ws key = some (sealR x ws key) := by
  unfold ref08_Seal sealR chkS
  rw [rgiven_eq F hF x ws hx hFx hS, bnd_eq]
  cases e : (chkW x ws == 0) with
  | false =>
    simp only [cond_false, Bool.not_false, cond_true, e]
  | true =>
    obtain ⟨w1, w2⟩ := waves_in (chkW_0 (eq_of_beq e)).2
    simp only [Bool.not_true, cond_false, cond_true]
    rw [In_eq, bnd_eq]
    cases inR 0 key 1073741824 with
    | false => rfl
    | true =>
      simp only [Bool.not_true, cond_false, cond_true]
      rw [renvelope_eq F (by omega) ws key w1 (fun w hw => (w2 w hw).1)]
      rfl
theorem sameE_comm (a b : S_api_Envelope) : sameE a b = sameE b a := by
  unfold sameE
  rw [show (a.Many == b.Many) = (b.Many == a.Many) from BEq.comm, show (a.Code == b.Code) = (b.Code == a.Code) from BEq.comm]
theorem rOpen_eq (F : Nat) (hF : 1024 < F) (a : S_api_Envelope) (x : List Int) (ws : List S_api_Wave) (key : Int) (hx : x.length ≤ 9223372036854775807) (hFx : x.length < F) (hS : ∀ w ∈ ws, w.Samples.length ≤ 9223372036854775807) : ref08_Open F a x ws key = some (openR a x ws key) := by
  unfold ref08_Open openR
  rw [rSeal_eq F hF x ws key hx hFx hS, bnd_eq]
  unfold sealR
  cases e : (chkS x ws key == 0) with
  | false =>
    simp only [cond_false, e, Bool.not_false, cond_true]
  | true =>
    obtain ⟨h1, _⟩ := chkS_0 (eq_of_beq e)
    simp only [cond_true, beq_self_eq_true, Bool.not_true, cond_false]
    show (bif !sameE (envE ws key) a then _ else _) = _
    rw [sameE_comm]
    cases e2 : sameE a (envE ws key) with
    | false => rfl
    | true =>
      simp only [Bool.not_true, cond_false, cond_true]
      rw [radded_eq F hF (-1) x ws h1, bnd_eq, rrecord_eq F _ (by rw [addAll_len]; exact hFx) (by rw [addAll_len]; exact hx), bnd_eq]
      unfold recR
      cases isRec (addAll (-1) x ws) <;> rfl
theorem seal3 (F : Nat) (hF : 1300 < F) (hw : works F = some true) (x : List Int) (ws : List S_api_Wave) (key : Int) (c : S_api_Envelope) (hx : x.length ≤ 9223372036854775807) (hFx : x.length < F) (hS : ∀ w ∈ ws, w.Samples.length ≤ 9223372036854775807) : ∀ (d N v : Nat), d = 2 - v → v ≤ 2 → d < N →
    law08_SearchSeals_3 F N x ws key v c c = some true
  | d, 0, v, _, _, h => by omega
  | 0, N + 1, v, hd, hv, _ => by
    rw [law08_SearchSeals_3, bif_neg' (by omega : ¬ ((v : Int) < 2)), hw, bnd_eq]
  | d + 1, N + 1, v, hd, hv, hN => by
    have hl := openR_len c x ws (w64 (key - (v : Int)))
    rw [law08_SearchSeals_3, bif_pos' (by omega : ((v : Int) < 2)), Open_eq F (by omega) c x ws _ hx, bnd_eq, rOpen_eq F (by omega) c x ws _ hx hFx hS, bnd_eq, same_self F _ (by omega) (by omega), bnd_eq]
    simp only [Bool.not_true, cond_false, beq_self_eq_true, law08_SearchSeals_4]
    rw [up (by omega)]
    exact seal3 F hF hw x ws key c hx hFx hS d N (v + 1) (by omega) (by omega) (by omega)
theorem law_eq (F : Nat) (x : List Int) (ws : List S_api_Wave) (key : Int) (hx : x.length ≤ 9223372036854775807) (hws : ws.length ≤ 9223372036854775807) (hFx : x.length + 1300 < F) (hF2 : ws.length + 1300 < F) (hS : ∀ w ∈ ws, w.Samples.length ≤ 9223372036854775807) (hw : works F = some true) : law08_SearchSeals F x ws key = some true := by
  have hl := injR_len x ws
  unfold law08_SearchSeals
  rw [Inject_eq F (by omega) x ws hx, bnd_eq, rInject_eq F (by omega) x ws hx (by omega) hS, bnd_eq, same_self F _ (by omega) (by omega), bnd_eq]
  simp only [Bool.not_true, cond_false, beq_self_eq_true, law08_SearchSeals_1]
  rw [Seal_eq F (by omega) x ws key hx, bnd_eq, rSeal_eq F (by omega) x ws key hx (by omega) hS, bnd_eq]
  simp only [beq_self_eq_true, Bool.and_self, Bool.not_true, cond_false, law08_SearchSeals_2]
  exact seal3 F (by omega) hw x ws key _ hx (by omega) hS 2 F 0 rfl (by omega) (by omega)
end Go.Ev.SearchSeals
