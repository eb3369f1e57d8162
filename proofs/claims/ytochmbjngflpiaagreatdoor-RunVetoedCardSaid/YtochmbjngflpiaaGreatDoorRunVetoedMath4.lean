/- Plans that are valid, and what they keep; vetoes with them. -/
import Derived.Test.YtochmbjngflpiaaGreatDoorRunVetoedMath3
namespace Go.Ev.RunVetoed
open Go Go.Ev Go.Proofs
set_option linter.unusedVariables false
theorem val1 (F : Nat) (l : List Int) (hl : l.length ≤ 512) : ∀ (k N i : Nat), k = l.length - i → i ≤ l.length → k < N → ∃ r, run_areValues_1 F N l l.length i = some r
 | k, 0, i, _, _, h => by omega
 | 0, N + 1, i, hk, hi, _ => by
  rw [run_areValues_1, bif_neg' (by omega)]
  exact ⟨_, rfl⟩
 | k + 1, N + 1, i, hk, hi, hN => by
  obtain ⟨x, hx⟩ := get_lt (l := l) (i := i) (by omega)
  obtain ⟨r, hr⟩ := val1 F l hl k N (i + 1) (by omega) (by omega) (by omega)
  rw [run_areValues_1, bif_pos' (by omega), idx_nat, hx, bnd_eq]
  unfold run_areValues_f1
  rw [isFrom_eq, bnd_eq, bnd_eq, up (by omega), hr]
  cases inR (-4096) x 4096 <;> exact ⟨_, rfl⟩
theorem val_ex (F : Nat) (hF : 1000 < F) (l : List Int) (hl : l.length ≤ 512) : ∃ r, run_areValues F l = some r :=
 val1 F l hl l.length F 0 rfl (by omega) (by omega)
theorem smp_ex (F : Nat) (hF : 1000 < F) (d : S__2_int) : ∃ r, run_areSamples F d = some r ∧ (r = true → 1 ≤ d.e0.length ∧ d.e0.length ≤ 512 ∧ d.e1.length = d.e0.length) := by
 unfold run_areSamples
 rw [isFrom_eq, bnd_eq]
 cases h : inR 1 (d.e0.length : Int) 512 with
 | false => exact ⟨false, rfl, fun h => by simp at h⟩
 | true =>
  rw [inR_iff] at h
  unfold run_areSamples_1
  by_cases h2 : d.e1.length = d.e0.length
  ·have e : ((d.e1.length : Int) == (d.e0.length : Int)) = true := by simp [h2]
   rw [e, cond_true, cond_true]
   obtain ⟨r, hr⟩ := val_ex F hF d.e0 (by omega)
   obtain ⟨s, hs⟩ := val_ex F hF d.e1 (by omega)
   rw [hr, bnd_eq]
   unfold run_areSamples_2 run_areSamples_3
   rw [hs, bnd_eq]
   cases r
   ·exact ⟨_, rfl, fun _ => by omega⟩
   ·exact ⟨_, rfl, fun _ => by omega⟩
  ·have e : ((d.e1.length : Int) == (d.e0.length : Int)) = false := by simp; omega
   rw [e, cond_true, cond_false]
   exact ⟨false, rfl, fun h => by simp at h⟩
def Chain (n : Int) : Int → List S_api_Duty → Prop
 | a, [] => a = n
 | a, d :: r => d.From = a ∧ a < d.To ∧ Chain n d.To r
theorem dut1 (F : Nat) (hF : 1000 < F) (n : Int) (l : List S_api_Duty) (hl : l.length ≤ 64) : ∀ (k N i : Nat) (c : S_api_Duty), k = l.length - i → i ≤ l.length → k < N → 0 ≤ c.To → c.To ≤ 128 * i → ∃ r, run_areDuties_1 F N n l l.length i c = some r ∧ (r = true → Chain n c.To (l.drop i))
 | k, 0, i, c, _, _, h, _, _ => by omega
 | 0, N + 1, i, c, hk, hi, _, _, _ => by
  rw [run_areDuties_1, bif_neg' (by omega), List.drop_of_length_le (by omega : l.length ≤ i)]
  exact ⟨_, rfl, fun h => by simpa [Chain] using h⟩
 | k + 1, N + 1, i, c, hk, hi, hN, h0, h1 => by
  obtain ⟨x, hx⟩ := get_lt (l := l) (i := i) (by omega)
  rw [run_areDuties_1, bif_pos' (by omega), idx_nat, hx, bnd_eq, name_eq F (by omega), bnd_eq, drop_get hx]
  have key : ∀ b, ∃ r, run_areDuties_2 F (run_areDuties_1 F N) n l l.length i b c x = some r ∧ (r = true → Chain n c.To (x :: l.drop (i + 1))) := by
   intro b
   have bad : ∀ b : Bool, ∃ r, run_areDuties_4 F (run_areDuties_1 F N) n l l.length i true c x = some r ∧ (r = true → Chain n c.To (x :: l.drop (i + 1))) :=
    fun b => ⟨false, rfl, fun h => by simp at h⟩
   unfold run_areDuties_2 run_areDuties_3
   cases b with
   | true => exact bad true
   | false =>
    by_cases hf : x.From = c.To
    ·have e : (!(x.From == c.To)) = false := by simp [hf]
     rw [e, cond_false, cond_false, isFrom_eq, bnd_eq]
     cases hr : inR (w64 (x.From + 1)) x.To (w64 (x.From + 128)) with
     | false => exact bad true
     | true =>
      rw [w64_id (by omega) (by omega), w64_id (by omega) (by omega), inR_iff] at hr
      obtain ⟨r, hr1, hr2⟩ := dut1 F hF n l hl k N (i + 1) x (by omega) (by omega) (by omega) (by omega) (by omega)
      refine ⟨r, ?_, fun h => ⟨hf, by omega, hr2 h⟩⟩
      show run_areDuties_1 F N n l l.length (w64 ((i : Int) + 1)) x = some r
      rw [up (by omega), hr1]
    ·have e : (!(x.From == c.To)) = true := by simp [hf]
     rw [e, cond_false, cond_true]
     exact bad true
  cases nameB x.Who with
  | false => exact key true
  | true => exact key _
theorem dut_ex (F : Nat) (hF : 1000 < F) (n : Int) (l : List S_api_Duty) : ∃ r, run_areDuties F l n = some r ∧ (r = true → Chain n 0 l ∧ l.length ≤ 64) := by
 unfold run_areDuties
 by_cases h : l.length ≤ 64
 ·rw [bif_neg' (by omega)]
  obtain ⟨r, hr, hr2⟩ := dut1 F hF n l h l.length F 0 (S_api_Duty.mk [] 0 0) rfl (by omega) (by omega) (by exact Int.le_refl 0) (by exact Int.le_refl 0)
  exact ⟨r, hr, fun e => ⟨hr2 e, h⟩⟩
 ·rw [bif_pos' (by omega)]
  exact ⟨false, rfl, fun h => by simp at h⟩
theorem chain_le (n : Int) : ∀ (l : List S_api_Duty) (a : Int), Chain n a l → a ≤ n ∧ ∀ d ∈ l, d.To ≤ n
 | [], a, h => ⟨by have : a = n := h; omega, fun d hd => nomatch hd⟩
 | x :: r, a, h => by
  obtain ⟨h1, h2, h3⟩ := h
  obtain ⟨h4, h5⟩ := chain_le n r x.To h3
  exact ⟨by omega, fun d hd => (List.mem_cons.1 hd).elim (fun e => by subst e; exact h4) (h5 d)⟩
theorem wrk4 (F : Nat) (l : List S_api_Duty) (hl : l.length ≤ 64) (hd : List S_api_Duty → Int → List S_api_Segment → Int → Int → Option Bool) (ws : List S_api_Segment) (wn wi : Int) (c : S_api_Segment) {q : Bool} (hhd : hd l c.To ws wn (w64 (wi + 1)) = some q) : ∀ (k N i : Nat), k = l.length - i → i ≤ l.length → k < N → ∃ r, run_isWork_4 F hd N l l.length i l ws wn wi false c = some r ∧ (r = true → q = true ∧ ∃ d ∈ l, c.To ≤ d.To)
 | k, 0, i, _, _, h => by omega
 | 0, N + 1, i, hk, hi, _ => by
  rw [run_isWork_4, bif_neg' (by omega)]
  unfold run_isWork_3
  exact ⟨false, rfl, fun h => by simp at h⟩
 | k + 1, N + 1, i, hk, hi, hN => by
  obtain ⟨x, hx⟩ := get_lt (l := l) (i := i) (by omega)
  obtain ⟨r, hr, hr2⟩ := wrk4 F l hl hd ws wn wi c hhd k N (i + 1) (by omega) (by omega) (by omega)
  rw [run_isWork_4, bif_pos' (by omega), idx_nat, hx, bnd_eq]
  have e : (!(decide ((0 : Int) ≤ (i : Int)))) = false := by simp
  unfold run_isWork_5 run_isWork_3
  rw [up (by omega), hr, hhd, e]
  cases e1 : decide (x.From ≤ c.From) with
  | false => exact ⟨r, rfl, hr2⟩
  | true =>
   cases e2 : decide (c.To ≤ x.To) with
   | false => exact ⟨r, rfl, hr2⟩
   | true => exact ⟨q, rfl, fun h => ⟨h, x, List.mem_of_getElem? hx, of_decide_eq_true e2⟩⟩
theorem wrk1 (F : Nat) (hF : 1000 < F) (ds : List S_api_Duty) (hds : ds.length ≤ 64) (l : List S_api_Segment) (hl : l.length ≤ 16) : ∀ (k N i : Nat) (last : Int), k = l.length - i → i ≤ l.length → k < N → 0 ≤ last → ∃ r, run_isWork_1 F N ds last l l.length i = some r ∧ (r = true → ∀ s ∈ l.drop i, 0 ≤ s.From ∧ s.From < s.To ∧ ∃ d ∈ ds, s.To ≤ d.To)
 | k, 0, i, last, _, _, h, _ => by omega
 | 0, N + 1, i, last, hk, hi, _, _ => by
  rw [run_isWork_1, bif_neg' (by omega), List.drop_of_length_le (by omega : l.length ≤ i)]
  exact ⟨_, rfl, fun _ s hs => nomatch hs⟩
 | k + 1, N + 1, i, last, hk, hi, hN, h0 => by
  obtain ⟨x, hx⟩ := get_lt (l := l) (i := i) (by omega)
  have bad : ∃ r, run_isWork_2 F (run_isWork_1 F N) ds l l.length i true x = some r ∧ (r = true → ∀ s ∈ x :: l.drop (i + 1), 0 ≤ s.From ∧ s.From < s.To ∧ ∃ d ∈ ds, s.To ≤ d.To) := ⟨false, rfl, fun h => by simp at h⟩
  rw [run_isWork_1, bif_pos' (by omega), idx_nat, hx, bnd_eq, drop_get hx]
  cases e1 : decide (x.From < last) with
  | true => exact bad
  | false =>
   rw [cond_false]
   cases e2 : decide (x.To ≤ x.From) with
   | true => exact bad
   | false =>
    have h1 := of_decide_eq_false e1
    have h2 := of_decide_eq_false e2
    obtain ⟨r, hr, hr2⟩ := wrk1 F hF ds hds l hl k N (i + 1) x.To (by omega) (by omega) (by omega) (by omega)
    have hr' : run_isWork_1 F N ds x.To l l.length (w64 ((i : Int) + 1)) = some r := by rw [up (by omega), hr]
    obtain ⟨q, hq, hq2⟩ := wrk4 F ds hds (run_isWork_1 F N) l l.length i x hr' ds.length F 0 rfl (by omega) (by omega)
    refine ⟨q, hq, fun h s hs => ?_⟩
    obtain ⟨g1, g2⟩ := hq2 h
    rcases List.mem_cons.1 hs with rfl | hs
    ·exact ⟨by omega, by omega, g2⟩
    ·exact hr2 g1 s hs
theorem wrk_ex (F : Nat) (hF : 1000 < F) (ds : List S_api_Duty) (hds : ds.length ≤ 64) (l : List S_api_Segment) : ∃ r, run_isWork F l ds = some r ∧ (r = true → l.length ≤ 16 ∧ ∀ s ∈ l, 0 ≤ s.From ∧ s.From < s.To ∧ ∃ d ∈ ds, s.To ≤ d.To) := by
 unfold run_isWork
 by_cases h : l.length ≤ 16
 ·rw [bif_neg' (by omega)]
  obtain ⟨r, hr, hr2⟩ := wrk1 F hF ds hds l h l.length F 0 0 rfl (by omega) (by omega) (Int.le_refl _)
  exact ⟨r, hr, fun e => ⟨h, hr2 e⟩⟩
 ·rw [bif_pos' (by omega)]
  exact ⟨false, rfl, fun h => by simp at h⟩
theorem seg1 (F : Nat) (l : List S_api_Segment) (hl : l.length ≤ 32) (f : Bool) : ∀ (k N i : Nat), k = l.length - i → i ≤ l.length → k < N → ∃ r, glitch_areSegments_1 F N l l.length i f = some r ∧ (r = true → ∀ s ∈ l.drop i, 0 ≤ s.From ∧ s.From < s.To)
  | k, 0, i, _, _, h => by omega
  | 0, N + 1, i, hk, hi, _ => by
    rw [glitch_areSegments_1, bif_neg' (by omega), List.drop_of_length_le (by omega : l.length ≤ i)]
    unfold glitch_areSegments_2
    cases f
    · exact ⟨_, rfl, fun _ s hs => nomatch hs⟩
    · exact ⟨_, rfl, fun _ s hs => nomatch hs⟩
  | k + 1, N + 1, i, hk, hi, hN => by
    obtain ⟨x, hx⟩ := get_lt (l := l) (i := i) (by omega)
    obtain ⟨r, hr, hr2⟩ := seg1 F l hl f k N (i + 1) (by omega) (by omega) (by omega)
    rw [glitch_areSegments_1, bif_pos' (by omega), idx_nat, hx, bnd_eq, drop_get hx]
    unfold glitch_areSegments_f1 glitch_areSegments_f1_1 glitch_areSegments_f1_2 glitch_areSegments_2
    rw [up (by omega), hr]
    have e : (!(decide ((0 : Int) ≤ (i : Int)))) = false := by simp
    rw [e]
    cases e1 : decide (0 ≤ x.From) <;> cases e2 : decide (x.From < x.To) <;> cases e3 : decide (x.To ≤ 1073741824) <;> first
      | (refine ⟨r, rfl, fun h s hs => ?_⟩
         rcases List.mem_cons.1 hs with rfl | hs
         · exact ⟨of_decide_eq_true e1, of_decide_eq_true e2⟩
         · exact hr2 h s hs)
      | (cases f <;> exact ⟨false, rfl, fun h => by simp at h⟩)
theorem seg_ex (F : Nat) (hF : 40 < F) (l : List S_api_Segment) : ∃ r, glitch_areSegments F l = some r ∧ (r = true → l.length ≤ 32 ∧ ∀ s ∈ l, 0 ≤ s.From ∧ s.From < s.To) := by
 unfold glitch_areSegments
 by_cases h : l.length ≤ 32
 ·rw [bif_pos' (by omega)]
  obtain ⟨r, hr, hr2⟩ := seg1 F l h (decide ((l.length : Int) ≤ 32)) l.length F 0 rfl (by omega) (by omega)
  exact ⟨r, hr, fun e => ⟨h, hr2 e⟩⟩
 ·rw [bif_neg' (by omega)]
  exact ⟨false, rfl, fun h => by simp at h⟩
structure VOK (F : Nat) (v : S_api_Veto) : Prop where
 name : nameB v.Name = true
 segs : glitch_areSegments F v.Segments = some true
 len : v.Segments.length ≤ 32
 all : ∀ s ∈ v.Segments, 0 ≤ s.From ∧ s.From < s.To
theorem vet1 (F : Nat) (hF : 40 < F) (l : List S_api_Veto) (hl : l.length ≤ 12) : ∀ (k N i : Nat) (m : List ((List UInt8) × Bool)), k = l.length - i → i ≤ l.length → k < N → ∃ r, glitch_areVetoes_1 F N l l.length i m = some r ∧ (r = true → ∀ v ∈ l.drop i, VOK F v)
 | k, 0, i, m, _, _, h => by omega
 | 0, N + 1, i, m, hk, hi, _ => by
  rw [glitch_areVetoes_1, bif_neg' (by omega), List.drop_of_length_le (by omega : l.length ≤ i)]
  exact ⟨true, rfl, fun _ v hv => nomatch hv⟩
 | k + 1, N + 1, i, m, hk, hi, hN => by
  obtain ⟨x, hx⟩ := get_lt (l := l) (i := i) (by omega)
  obtain ⟨s, hs, hs2⟩ := seg_ex F hF x.Segments
  obtain ⟨r, hr, hr2⟩ := vet1 F hF l hl k N (i + 1) (mput eqB m x.Name true) (by omega) (by omega) (by omega)
  have key : ∀ b, (b = false → nameB x.Name = true) → ∃ q, glitch_areVetoes_2 F (glitch_areVetoes_1 F N) l l.length i b x.Name x.Segments m = some q ∧ (q = true → ∀ v ∈ x :: l.drop (i + 1), VOK F v) := by
   intro b hb
   unfold glitch_areVetoes_2 glitch_areVetoes_3
   rw [hs, bnd_eq, up (by omega), hr]
   cases b with
   | true => exact ⟨false, rfl, fun h => by simp at h⟩
   | false =>
    cases s with
    | false => exact ⟨false, rfl, fun h => by simp at h⟩
    | true =>
     refine ⟨r, rfl, fun h v hv => ?_⟩
     rcases List.mem_cons.1 hv with rfl | hv
     ·exact ⟨hb rfl, hs, (hs2 rfl).1, (hs2 rfl).2⟩
     ·exact hr2 h v hv
  rw [glitch_areVetoes_1, bif_pos' (by omega), idx_nat, hx, bnd_eq, name_eq F (by omega), bnd_eq, drop_get hx]
  cases en : nameB x.Name with
  | false => exact key true (fun h => by simp at h)
  | true => exact key _ (fun _ => en)
theorem vet_ex (F : Nat) (hF : 40 < F) (l : List S_api_Veto) : ∃ r, glitch_areVetoes F l = some r ∧ (r = true → l.length ≤ 12 ∧ ∀ v ∈ l, VOK F v) := by
 unfold glitch_areVetoes
 by_cases h : l.length ≤ 12
 ·rw [bif_neg' (by omega)]
  obtain ⟨r, hr, hr2⟩ := vet1 F hF l h l.length F 0 [] rfl (by omega) (by omega)
  exact ⟨r, hr, fun e => ⟨h, hr2 e⟩⟩
 ·rw [bif_pos' (by omega)]
  exact ⟨false, rfl, fun h => by simp at h⟩
theorem cvt_ex (F : Nat) (hF : 40 < F) (l : List S_api_Veto) : ∃ r, glitch_CheckVetoes F l = some r ∧ (r = 0 → glitch_areVetoes F l = some true ∧ l.length ≤ 12 ∧ ∀ v ∈ l, VOK F v) := by
 obtain ⟨r, hr, hr2⟩ := vet_ex F hF l
 unfold glitch_CheckVetoes
 rw [hr, bnd_eq]
 cases r with
 | false => exact ⟨63, rfl, fun h => by simp at h⟩
 | true => exact ⟨0, rfl, fun _ => ⟨rfl, hr2 rfl⟩⟩
structure Good (F : Nat) (p : S_run_plan) : Prop where
 one : 1 ≤ p.data.e0.length
 top : p.data.e0.length ≤ 512
 same : p.data.e1.length = p.data.e0.length
 chain : Chain p.data.e0.length 0 p.duties
 many : p.duties.length ≤ 64
 work : p.work.length ≤ 16 ∧ ∀ s ∈ p.work, 0 ≤ s.From ∧ s.From < s.To ∧ s.To ≤ p.data.e0.length
 v0 : glitch_areVetoes F p.vetoes.e0 = some true ∧ p.vetoes.e0.length ≤ 12 ∧ ∀ v ∈ p.vetoes.e0, VOK F v
 v1 : glitch_areVetoes F p.vetoes.e1 = some true ∧ p.vetoes.e1.length ≤ 12 ∧ ∀ v ∈ p.vetoes.e1, VOK F v
theorem chk_ex (F : Nat) (hF : 1000 < F) (p : S_run_plan) : ∃ r, run_plan_check F p = some r ∧ (r = 0 → Good F p) := by
 obtain ⟨a, ha, ha2⟩ := smp_ex F hF p.data
 unfold run_plan_check
 rw [ha, bnd_eq]
 cases a with
 | false => exact ⟨110, rfl, fun h => by simp at h⟩
 | true =>
  obtain ⟨h1, h2, h3⟩ := ha2 rfl
  obtain ⟨b, hb, hb2⟩ := dut_ex F hF p.data.e0.length p.duties
  unfold run_plan_span
  simp only [Bool.not_true, cond_false, bnd_eq]
  rw [hb, bnd_eq]
  cases b with
  | false => exact ⟨111, rfl, fun h => by simp at h⟩
  | true =>
   obtain ⟨h4, h5⟩ := hb2 rfl
   obtain ⟨c, hc, hc2⟩ := wrk_ex F hF p.duties h5 p.work
   rw [hc]
   simp only [Bool.not_true, cond_false, bnd_eq]
   cases c with
   | false => exact ⟨112, rfl, fun h => by simp at h⟩
   | true =>
    obtain ⟨d, hd, hd2⟩ := cvt_ex F (by omega) p.vetoes.e0
    obtain ⟨e, he, he2⟩ := cvt_ex F (by omega) p.vetoes.e1
    obtain ⟨G, rfl⟩ : ∃ G, F = G + 3 := ⟨F - 3, by omega⟩
    have z1 : ((1 : Int) == 0) = false := rfl
    have z2 : w64 ((0 : Int) + 1) = 1 := by decide
    have z3 : w64 ((1 : Int) + 1) = 2 := by decide
    show ∃ r, run_plan_check_1 (G + 3) (G + 3) p.vetoes.e0 p.vetoes.e1 0 = some r ∧ _
    rw [run_plan_check_1, bif_pos' (by decide), show ((0 : Int) == 0) = true from rfl, cond_true]
    unfold run_plan_check_2
    rw [hd, bnd_eq]
    by_cases d0 : d = 0
    ·subst d0
     rw [show (!((0 : Int) == 0)) = false from rfl, cond_false, z2, run_plan_check_1, bif_pos' (by decide), z1, cond_false, show ((1 : Int) == 1) = true from rfl, cond_true]
     unfold run_plan_check_2
     rw [he, bnd_eq]
     by_cases e0 : e = 0
     ·subst e0
      rw [show (!((0 : Int) == 0)) = false from rfl, cond_false, z3, run_plan_check_1, bif_neg' (by decide)]
      exact ⟨0, rfl, fun _ => ⟨h1, h2, h3, h4, h5, ⟨(hc2 rfl).1, fun s hs => by
       obtain ⟨g1, g2, dd, g3, g4⟩ := (hc2 rfl).2 s hs
       exact ⟨g1, g2, Int.le_trans g4 ((chain_le _ _ _ h4).2 dd g3)⟩⟩, hd2 rfl, he2 rfl⟩⟩
     ·rw [show (!(e == 0)) = true by simp [e0], cond_true]
      exact ⟨e, rfl, fun h => absurd h e0⟩
    ·rw [show (!(d == 0)) = true by simp [d0], cond_true]
     exact ⟨d, rfl, fun h => absurd h d0⟩
def planO (p : S_api_Plan) : S_run_plan := S_run_plan.mk p.Duties p.Work p.Vetoes p.Data
theorem Check_ex (F : Nat) (hF : 1000 < F) (p : S_api_Plan) : ∃ r, run_Check F p = some r ∧ run_plan_check F (planO p) = some r ∧ (r = 0 → Good F (planO p)) := by
 obtain ⟨r, hr, hr2⟩ := chk_ex F hF (planO p)
 refine ⟨r, ?_, hr, hr2⟩
 show bnd (run_plan_check F (planO p)) _ = _
 rw [hr, bnd_eq]
end Go.Ev.RunVetoed
