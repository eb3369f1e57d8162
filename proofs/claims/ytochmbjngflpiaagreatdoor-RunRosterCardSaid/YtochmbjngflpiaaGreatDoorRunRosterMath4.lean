/- RunRoster answers true. -/
import Derived.Test.YtochmbjngflpiaaGreatDoorRunRosterMath3
namespace Go.Ev.RunRoster
open Go Go.Ev Go.Proofs
set_option linter.unusedVariables false
theorem val1 (F : Nat) (l : List Int) (hl : l.length ≤ 512) : ∀ (k N i : Nat), k = l.length - i → i ≤ l.length → k < N → ∃ r, run_areValues_1 F N l l.length i = some r
  | k, 0, i, _, _, h => by omega
  | 0, N + 1, i, hk, hi, _ => by
    rw [run_areValues_1, bif_neg' (by omega)]
    exact ⟨_, rfl⟩
  | k + 1, N + 1, i, hk, hi, hN => by
    obtain ⟨x, hx⟩ := get_lt (l := l) (i := i) (by omega)
    obtain ⟨r, hr⟩ := val1 F l hl k N (i + 1) (by omega) (by omega) (by omega)
    rw [run_areValues_1, bif_pos' (by omega), idx_nat, hx, bnd_eq]
    unfold run_areValues_f1
    rw [isFrom_eq, bnd_eq, bnd_eq, up (by omega), hr]
    cases inR (-4096) x 4096 <;> exact ⟨_, rfl⟩
theorem val_ex (F : Nat) (hF : 1000 < F) (l : List Int) (hl : l.length ≤ 512) : ∃ r, run_areValues F l = some r :=
  val1 F l hl l.length F 0 rfl (by omega) (by omega)
theorem smp_ex (F : Nat) (hF : 1000 < F) (d : S__2_int) : ∃ r, run_areSamples F d = some r ∧ (r = true → 1 ≤ d.e0.length ∧ d.e0.length ≤ 512 ∧ d.e1.length = d.e0.length) := by
  unfold run_areSamples
  rw [isFrom_eq, bnd_eq]
  cases h : inR 1 (d.e0.length : Int) 512 with
  | false => exact ⟨false, rfl, fun h => by simp at h⟩
  | true =>
    rw [inR_iff] at h
    unfold run_areSamples_1
    by_cases h2 : d.e1.length = d.e0.length
    · have e : ((d.e1.length : Int) == (d.e0.length : Int)) = true := by simp [h2]
      rw [e, cond_true, cond_true]
      obtain ⟨r, hr⟩ := val_ex F hF d.e0 (by omega)
      obtain ⟨s, hs⟩ := val_ex F hF d.e1 (by omega)
      rw [hr, bnd_eq]
      unfold run_areSamples_2 run_areSamples_3
      rw [hs, bnd_eq]
      cases r
      · exact ⟨_, rfl, fun _ => by omega⟩
      · exact ⟨_, rfl, fun _ => by omega⟩
    · have e : ((d.e1.length : Int) == (d.e0.length : Int)) = false := by simp; omega
      rw [e, cond_true, cond_false]
      exact ⟨false, rfl, fun h => by simp at h⟩
def Chain (n : Int) : Int → List S_api_Duty → Prop
  | a, [] => a = n
  | a, d :: r => d.From = a ∧ a < d.To ∧ Chain n d.To r
theorem dut1 (F : Nat) (hF : 1000 < F) (n : Int) (l : List S_api_Duty) (hl : l.length ≤ 64) : ∀ (k N i : Nat) (c : S_api_Duty), k = l.length - i → i ≤ l.length → k < N → 0 ≤ c.To → c.To ≤ 128 * i → ∃ r, run_areDuties_1 F N n l l.length i c = some r ∧ (r = true → Chain n c.To (l.drop i))
  | k, 0, i, c, _, _, h, _, _ => by omega
  | 0, N + 1, i, c, hk, hi, _, _, _ => by
    rw [run_areDuties_1, bif_neg' (by omega), List.drop_of_length_le (by omega : l.length ≤ i)]
    exact ⟨_, rfl, fun h => by simpa [Chain] using h⟩
  | k + 1, N + 1, i, c, hk, hi, hN, h0, h1 => by
    obtain ⟨x, hx⟩ := get_lt (l := l) (i := i) (by omega)
    rw [run_areDuties_1, bif_pos' (by omega), idx_nat, hx, bnd_eq, name_eq F (by omega), bnd_eq, drop_get hx]
    have key : ∀ b, ∃ r, run_areDuties_2 F (run_areDuties_1 F N) n l l.length i b c x = some r ∧ (r = true → Chain n c.To (x :: l.drop (i + 1))) := by
      intro b
      have bad : ∀ b : Bool, ∃ r, run_areDuties_4 F (run_areDuties_1 F N) n l l.length i true c x = some r ∧ (r = true → Chain n c.To (x :: l.drop (i + 1))) :=
        fun b => ⟨false, rfl, fun h => by simp at h⟩
      unfold run_areDuties_2 run_areDuties_3
      cases b with
      | true => exact bad true
      | false =>
        by_cases hf : x.From = c.To
        · have e : (!(x.From == c.To)) = false := by simp [hf]
          rw [e, cond_false, cond_false, isFrom_eq, bnd_eq]
          cases hr : inR (w64 (x.From + 1)) x.To (w64 (x.From + 128)) with
          | false => exact bad true
          | true =>
            rw [w64_id (by omega) (by omega), w64_id (by omega) (by omega), inR_iff] at hr
            obtain ⟨r, hr1, hr2⟩ := dut1 F hF n l hl k N (i + 1) x (by omega) (by omega) (by omega) (by omega) (by omega)
            refine ⟨r, ?_, fun h => ⟨hf, by omega, hr2 h⟩⟩
            show run_areDuties_1 F N n l l.length (w64 ((i : Int) + 1)) x = some r
            rw [up (by omega), hr1]
        · have e : (!(x.From == c.To)) = true := by simp [hf]
          rw [e, cond_false, cond_true]
          exact bad true
    cases nameB x.Who with
    | false => exact key true
    | true => exact key _
theorem dut_ex (F : Nat) (hF : 1000 < F) (n : Int) (l : List S_api_Duty) : ∃ r, run_areDuties F l n = some r ∧ (r = true → Chain n 0 l ∧ l.length ≤ 64) := by
  unfold run_areDuties
  by_cases h : l.length ≤ 64
  · rw [bif_neg' (by omega)]
    obtain ⟨r, hr, hr2⟩ := dut1 F hF n l h l.length F 0 (S_api_Duty.mk [] 0 0) rfl (by omega) (by omega) (by exact Int.le_refl 0) (by exact Int.le_refl 0)
    exact ⟨r, hr, fun e => ⟨hr2 e, h⟩⟩
  · rw [bif_pos' (by omega)]
    exact ⟨false, rfl, fun h => by simp at h⟩
theorem wrk4 (F : Nat) (l : List S_api_Duty) (hl : l.length ≤ 64) (hd : List S_api_Duty → Int → List S_api_Segment → Int → Int → Option Bool) (ws : List S_api_Segment) (wn wi : Int) (g : Bool) (c : S_api_Segment) (hhd : ∃ r, hd l c.To ws wn (w64 (wi + 1)) = some r) : ∀ (k N i : Nat), k = l.length - i → i ≤ l.length → k < N → ∃ r, run_isWork_4 F hd N l l.length i l ws wn wi g c = some r
  | k, 0, i, _, _, h => by omega
  | 0, N + 1, i, hk, hi, _ => by
    rw [run_isWork_4, bif_neg' (by omega)]
    unfold run_isWork_3
    obtain ⟨r, hr⟩ := hhd
    rw [hr]
    cases g <;> exact ⟨_, rfl⟩
  | k + 1, N + 1, i, hk, hi, hN => by
    obtain ⟨x, hx⟩ := get_lt (l := l) (i := i) (by omega)
    obtain ⟨r, hr⟩ := wrk4 F l hl hd ws wn wi g c hhd k N (i + 1) (by omega) (by omega) (by omega)
    rw [run_isWork_4, bif_pos' (by omega), idx_nat, hx, bnd_eq]
    obtain ⟨q, hq⟩ := hhd
    have e : (!(decide ((0 : Int) ≤ (i : Int)))) = false := by simp
    unfold run_isWork_5 run_isWork_3
    rw [up (by omega), hr, hq, e]
    cases decide (x.From ≤ c.From) <;> cases decide (c.To ≤ x.To) <;> cases g <;> exact ⟨_, rfl⟩
theorem wrk1 (F : Nat) (hF : 1000 < F) (ds : List S_api_Duty) (hds : ds.length ≤ 64) (l : List S_api_Segment) (hl : l.length ≤ 16) : ∀ (k N i : Nat) (last : Int), k = l.length - i → i ≤ l.length → k < N → ∃ r, run_isWork_1 F N ds last l l.length i = some r
  | k, 0, i, last, _, _, h => by omega
  | 0, N + 1, i, last, hk, hi, _ => by
    rw [run_isWork_1, bif_neg' (by omega)]
    exact ⟨_, rfl⟩
  | k + 1, N + 1, i, last, hk, hi, hN => by
    obtain ⟨x, hx⟩ := get_lt (l := l) (i := i) (by omega)
    obtain ⟨r, hr⟩ := wrk1 F hF ds hds l hl k N (i + 1) x.To (by omega) (by omega) (by omega)
    have hr' : run_isWork_1 F N ds x.To l l.length (w64 ((i : Int) + 1)) = some r := by rw [up (by omega), hr]
    rw [run_isWork_1, bif_pos' (by omega), idx_nat, hx, bnd_eq]
    have key : ∀ b, ∃ r, run_isWork_2 F (run_isWork_1 F N) ds l l.length i b x = some r := by
      intro b
      unfold run_isWork_2
      cases b with
      | true => exact ⟨false, rfl⟩
      | false => exact wrk4 F ds hds _ l l.length i false x ⟨r, hr'⟩ ds.length F 0 rfl (by omega) (by omega)
    cases decide (x.From < last)
    · exact key _
    · exact key true
theorem wrk_ex (F : Nat) (hF : 1000 < F) (ds : List S_api_Duty) (hds : ds.length ≤ 64) (l : List S_api_Segment) : ∃ r, run_isWork F l ds = some r ∧ (r = true → l.length ≤ 16) := by
  unfold run_isWork
  by_cases h : l.length ≤ 16
  · rw [bif_neg' (by omega)]
    obtain ⟨r, hr⟩ := wrk1 F hF ds hds l h l.length F 0 0 rfl (by omega) (by omega)
    exact ⟨r, hr, fun _ => h⟩
  · rw [bif_pos' (by omega)]
    exact ⟨false, rfl, fun h => by simp at h⟩
theorem seg1 (F : Nat) (l : List S_api_Segment) (hl : l.length ≤ 32) (f : Bool) : ∀ (k N i : Nat), k = l.length - i → i ≤ l.length → k < N → ∃ r, glitch_areSegments_1 F N l l.length i f = some r
  | k, 0, i, _, _, h => by omega
  | 0, N + 1, i, hk, hi, _ => by
    rw [glitch_areSegments_1, bif_neg' (by omega)]
    unfold glitch_areSegments_2
    cases f
    · exact ⟨_, rfl⟩
    · exact ⟨_, rfl⟩
  | k + 1, N + 1, i, hk, hi, hN => by
    obtain ⟨x, hx⟩ := get_lt (l := l) (i := i) (by omega)
    obtain ⟨r, hr⟩ := seg1 F l hl f k N (i + 1) (by omega) (by omega) (by omega)
    rw [glitch_areSegments_1, bif_pos' (by omega), idx_nat, hx, bnd_eq]
    unfold glitch_areSegments_f1 glitch_areSegments_f1_1 glitch_areSegments_f1_2 glitch_areSegments_2
    rw [up (by omega), hr]
    cases decide (0 ≤ x.From) <;> cases decide (x.From < x.To) <;> cases decide (x.To ≤ 1073741824) <;> cases f <;> exact ⟨_, rfl⟩
theorem seg_ex (F : Nat) (hF : 40 < F) (l : List S_api_Segment) : ∃ r, glitch_areSegments F l = some r ∧ (r = true → l.length ≤ 32) := by
  unfold glitch_areSegments
  by_cases h : l.length ≤ 32
  · rw [bif_pos' (by omega)]
    obtain ⟨r, hr⟩ := seg1 F l h (decide ((l.length : Int) ≤ 32)) l.length F 0 rfl (by omega) (by omega)
    exact ⟨r, hr, fun _ => h⟩
  · rw [bif_neg' (by omega)]
    exact ⟨false, rfl, fun h => by simp at h⟩
theorem vet1 (F : Nat) (hF : 40 < F) (l : List S_api_Veto) (hl : l.length ≤ 12) : ∀ (k N i : Nat) (m : List ((List UInt8) × Bool)), k = l.length - i → i ≤ l.length → k < N → ∃ r, glitch_areVetoes_1 F N l l.length i m = some r ∧ (r = true → ∀ v ∈ l.drop i, v.Segments.length ≤ 32)
  | k, 0, i, m, _, _, h => by omega
  | 0, N + 1, i, m, hk, hi, _ => by
    rw [glitch_areVetoes_1, bif_neg' (by omega), List.drop_of_length_le (by omega : l.length ≤ i)]
    exact ⟨true, rfl, fun _ v hv => nomatch hv⟩
  | k + 1, N + 1, i, m, hk, hi, hN => by
    obtain ⟨x, hx⟩ := get_lt (l := l) (i := i) (by omega)
    obtain ⟨s, hs, hs2⟩ := seg_ex F hF x.Segments
    obtain ⟨r, hr, hr2⟩ := vet1 F hF l hl k N (i + 1) (mput eqB m x.Name true) (by omega) (by omega) (by omega)
    have key : ∀ b, ∃ q, glitch_areVetoes_2 F (glitch_areVetoes_1 F N) l l.length i b x.Name x.Segments m = some q ∧ (q = true → ∀ v ∈ x :: l.drop (i + 1), v.Segments.length ≤ 32) := by
      intro b
      unfold glitch_areVetoes_2 glitch_areVetoes_3
      rw [hs, bnd_eq, up (by omega), hr]
      cases b with
      | true => exact ⟨false, rfl, fun h => by simp at h⟩
      | false =>
        cases s with
        | false => exact ⟨false, rfl, fun h => by simp at h⟩
        | true =>
          refine ⟨r, rfl, fun h v hv => ?_⟩
          rcases List.mem_cons.1 hv with rfl | hv
          · exact hs2 rfl
          · exact hr2 h v hv
    rw [glitch_areVetoes_1, bif_pos' (by omega), idx_nat, hx, bnd_eq, name_eq F (by omega), bnd_eq, drop_get hx]
    cases nameB x.Name with
    | false => exact key true
    | true => exact key _
theorem vet_ex (F : Nat) (hF : 40 < F) (l : List S_api_Veto) : ∃ r, glitch_areVetoes F l = some r ∧ (r = true → l.length ≤ 12 ∧ ∀ v ∈ l, v.Segments.length ≤ 32) := by
  unfold glitch_areVetoes
  by_cases h : l.length ≤ 12
  · rw [bif_neg' (by omega)]
    obtain ⟨r, hr, hr2⟩ := vet1 F hF l h l.length F 0 [] rfl (by omega) (by omega)
    exact ⟨r, hr, fun e => ⟨h, hr2 e⟩⟩
  · rw [bif_pos' (by omega)]
    exact ⟨false, rfl, fun h => by simp at h⟩
theorem cvt_ex (F : Nat) (hF : 40 < F) (l : List S_api_Veto) : ∃ r, glitch_CheckVetoes F l = some r ∧ (r = 0 → l.length ≤ 12 ∧ ∀ v ∈ l, v.Segments.length ≤ 32) := by
  obtain ⟨r, hr, hr2⟩ := vet_ex F hF l
  unfold glitch_CheckVetoes
  rw [hr, bnd_eq]
  cases r with
  | false => exact ⟨63, rfl, fun h => by simp at h⟩
  | true => exact ⟨0, rfl, fun _ => hr2 rfl⟩
structure Good (p : S_run_plan) : Prop where
  one : 1 ≤ p.data.e0.length
  top : p.data.e0.length ≤ 512
  same : p.data.e1.length = p.data.e0.length
  chain : Chain p.data.e0.length 0 p.duties
  many : p.duties.length ≤ 64
  work : p.work.length ≤ 16
  v0 : p.vetoes.e0.length ≤ 12 ∧ ∀ v ∈ p.vetoes.e0, v.Segments.length ≤ 32
  v1 : p.vetoes.e1.length ≤ 12 ∧ ∀ v ∈ p.vetoes.e1, v.Segments.length ≤ 32
theorem chk_ex (F : Nat) (hF : 1000 < F) (p : S_run_plan) : ∃ r, run_plan_check F p = some r ∧ (r = 0 → Good p) := by
  obtain ⟨a, ha, ha2⟩ := smp_ex F hF p.data
  unfold run_plan_check
  rw [ha, bnd_eq]
  cases a with
  | false => exact ⟨110, rfl, fun h => by simp at h⟩
  | true =>
    obtain ⟨h1, h2, h3⟩ := ha2 rfl
    obtain ⟨b, hb, hb2⟩ := dut_ex F hF p.data.e0.length p.duties
    unfold run_plan_span
    simp only [Bool.not_true, cond_false, bnd_eq]
    rw [hb, bnd_eq]
    cases b with
    | false => exact ⟨111, rfl, fun h => by simp at h⟩
    | true =>
      obtain ⟨h4, h5⟩ := hb2 rfl
      obtain ⟨c, hc, hc2⟩ := wrk_ex F hF p.duties h5 p.work
      rw [hc]
      simp only [Bool.not_true, cond_false, bnd_eq]
      cases c with
      | false => exact ⟨112, rfl, fun h => by simp at h⟩
      | true =>
        obtain ⟨d, hd, hd2⟩ := cvt_ex F (by omega) p.vetoes.e0
        obtain ⟨e, he, he2⟩ := cvt_ex F (by omega) p.vetoes.e1
        obtain ⟨G, rfl⟩ : ∃ G, F = G + 3 := ⟨F - 3, by omega⟩
        have z1 : ((1 : Int) == 0) = false := rfl
        have z2 : w64 ((0 : Int) + 1) = 1 := by decide
        have z3 : w64 ((1 : Int) + 1) = 2 := by decide
        show ∃ r, run_plan_check_1 (G + 3) (G + 3) p.vetoes.e0 p.vetoes.e1 0 = some r ∧ _
        rw [run_plan_check_1, bif_pos' (by decide), show ((0 : Int) == 0) = true from rfl, cond_true]
        unfold run_plan_check_2
        rw [hd, bnd_eq]
        by_cases d0 : d = 0
        · subst d0
          rw [show (!((0 : Int) == 0)) = false from rfl, cond_false, z2, run_plan_check_1, bif_pos' (by decide), z1, cond_false, show ((1 : Int) == 1) = true from rfl, cond_true]
          unfold run_plan_check_2
          rw [he, bnd_eq]
          by_cases e0 : e = 0
          · subst e0
            rw [show (!((0 : Int) == 0)) = false from rfl, cond_false, z3, run_plan_check_1, bif_neg' (by decide)]
            exact ⟨0, rfl, fun _ => ⟨h1, h2, h3, h4, h5, hc2 rfl, hd2 rfl, he2 rfl⟩⟩
          · rw [show (!(e == 0)) = true by simp [e0], cond_true]
            exact ⟨e, rfl, fun h => absurd h e0⟩
        · rw [show (!(d == 0)) = true by simp [d0], cond_true]
          exact ⟨d, rfl, fun h => absurd h d0⟩
def planO (p : S_api_Plan) : S_run_plan := S_run_plan.mk p.Duties p.Work p.Vetoes p.Data
theorem Check_ex (F : Nat) (hF : 1000 < F) (p : S_api_Plan) : ∃ r, run_Check F p = some r ∧ run_plan_check F (planO p) = some r ∧ (r = 0 → Good (planO p)) := by
  obtain ⟨r, hr, hr2⟩ := chk_ex F hF (planO p)
  refine ⟨r, ?_, hr, hr2⟩
  show bnd (run_plan_check F (planO p)) _ = _
  rw [hr, bnd_eq]
def watchW (t : Int) : List S_api_Duty → List UInt8
  | [] => []
  | d :: r => if t < d.To then d.Who else watchW t r
theorem wat1 (F : Nat) (l : List S_api_Duty) (hl : l.length ≤ 64) (n t : Int) (ht : t < n) (e0 : List S_api_Duty) : ∀ (k N i : Nat) (a : Int), k = l.length - i → i ≤ l.length → k < N → a ≤ t → Chain n a (l.drop i) → ∃ j : Nat, slices_IndexFunc_65_h1_1 F e0 t N l l.length i = some (j : Int) ∧ ∃ d, l[j]? = some d ∧ d.Who = watchW t (l.drop i)
  | k, 0, i, a, _, _, h, _, _ => by omega
  | 0, N + 1, i, a, hk, hi, _, ha, hc => by
    rw [List.drop_of_length_le (by omega : l.length ≤ i)] at hc
    have : a = n := hc
    omega
  | k + 1, N + 1, i, a, hk, hi, hN, ha, hc => by
    obtain ⟨x, hx⟩ := get_lt (l := l) (i := i) (by omega)
    rw [drop_get hx] at hc ⊢
    obtain ⟨c1, c2, c3⟩ := hc
    rw [slices_IndexFunc_65_h1_1, bif_pos' (by omega), idx_nat, hx, bnd_eq]
    by_cases h : t < x.To
    · rw [bif_pos' h]
      exact ⟨i, rfl, x, hx, by rw [watchW, if_pos h]⟩
    · rw [bif_neg' h, up (by omega)]
      obtain ⟨j, hj, d, hd, hw⟩ := wat1 F l hl n t ht e0 k N (i + 1) x.To (by omega) (by omega) (by omega) (by omega) c3
      exact ⟨j, hj, d, hd, by rw [watchW, if_neg h]; exact hw⟩
theorem Watcher_in (F : Nat) (hF : 1000 < F) (p : S_api_Plan) (hc : run_plan_check F (planO p) = some 0) (g : Good (planO p)) (t : Int) (h0 : 0 ≤ t) (h1 : t < p.Data.e0.length) : run_Watcher F p t = some (watchW t p.Duties, 0) := by
  have t1 := g.top
  have m1 := g.many
  change p.Data.e0.length ≤ 512 at t1
  change p.Duties.length ≤ 64 at m1
  show bnd (run_plan_check F (planO p)) _ = _
  rw [hc, bnd_eq]
  unfold run_plan_span
  rw [show (!((0 : Int) == 0)) = false from rfl, cond_false, bnd_eq, isFrom_eq, bnd_eq]
  show (bif !inR 0 t (w64 ((p.Data.e0.length : Int) - 1)) then _ else _) = _
  rw [w64_id (by omega) (by omega), inR_iff.2 ⟨h0, by omega⟩, Bool.not_true, cond_false]
  obtain ⟨j, hj, d, hd, hw⟩ := wat1 F p.Duties m1 p.Data.e0.length t h1 p.Duties p.Duties.length F 0 0 rfl (by omega) (by omega) h0 g.chain
  rw [List.drop_zero] at hw
  have e : run_plan_watcher F (planO p) t = some (watchW t p.Duties) := by
    unfold run_plan_watcher slices_IndexFunc_65_h1
    change bnd (slices_IndexFunc_65_h1_1 F p.Duties t F p.Duties p.Duties.length ((0 : Nat) : Int)) (fun r27 => bnd (idx p.Duties r27) fun x29 => some x29.Who) = _
    rw [hj, bnd_eq, idx_nat, hd, bnd_eq, hw]
  show bnd (run_plan_watcher F (planO p) t) _ = _
  rw [e, bnd_eq]
theorem Watcher_out (F : Nat) (hF : 1000 < F) (p : S_api_Plan) (hc : run_plan_check F (planO p) = some 0) (g : Good (planO p)) : run_Watcher F p p.Data.e0.length = some ([], 8) := by
  have t1 := g.top
  have t2 := g.one
  change p.Data.e0.length ≤ 512 at t1
  change 1 ≤ p.Data.e0.length at t2
  show bnd (run_plan_check F (planO p)) _ = _
  rw [hc, bnd_eq]
  unfold run_plan_span
  rw [show (!((0 : Int) == 0)) = false from rfl, cond_false, bnd_eq, isFrom_eq, bnd_eq]
  show (bif !inR 0 (p.Data.e0.length : Int) (w64 ((p.Data.e0.length : Int) - 1)) then _ else _) = _
  have : inR 0 (p.Data.e0.length : Int) (w64 ((p.Data.e0.length : Int) - 1)) = false := by
    rw [w64_id (by omega) (by omega), Bool.eq_false_iff]
    intro h
    rw [inR_iff] at h
    omega
  rw [this]
  rfl
theorem Watcher_bad (F : Nat) (p : S_api_Plan) (t r : Int) (hr : r ≠ 0) (hc : run_plan_check F (planO p) = some r) : run_Watcher F p t = some ([], r) := by
  show bnd (run_plan_check F (planO p)) _ = _
  rw [hc, bnd_eq, show (!(r == 0)) = true by simp [hr], cond_true]
def cntW (w : List UInt8) (t : Int) (l : List S_api_Duty) : Nat := l.countP fun d => decide (d.From ≤ t) && (decide (t < d.To) && d.Who == w)
theorem chain_low (w : List UInt8) (t n : Int) : ∀ (l : List S_api_Duty) (a : Int), Chain n a l → t < a → cntW w t l = 0
  | [], a, _, _ => rfl
  | d :: r, a, h, ht => by
    obtain ⟨h1, h2, h3⟩ := h
    have := chain_low w t n r d.To h3 (by omega)
    unfold cntW at this ⊢
    rw [List.countP_cons, this, decide_eq_false (by omega : ¬ d.From ≤ t)]
    rfl
theorem chain_hit (t n : Int) (ht : t < n) : ∀ (l : List S_api_Duty) (a : Int), Chain n a l → a ≤ t → cntW (watchW t l) t l = 1
  | [], a, h, h2 => by
    have : a = n := h
    omega
  | d :: r, a, h, ha => by
    obtain ⟨h1, h2, h3⟩ := h
    by_cases h : t < d.To
    · rw [watchW, if_pos h]
      have := chain_low d.Who t n r d.To h3 h
      unfold cntW at this ⊢
      rw [List.countP_cons, this, decide_eq_true (by omega : d.From ≤ t), decide_eq_true h, beq_self_eq_true]
      rfl
    · rw [watchW, if_neg h]
      have := chain_hit t n ht r d.To h3 (by omega)
      unfold cntW at this ⊢
      rw [List.countP_cons, this, decide_eq_false h, Bool.false_and, Bool.and_false]
      rfl
theorem ros3 (F : Nat) (hd : Int → List S_api_Duty → List S_api_Segment → List S_api_Veto → List S_api_Veto → List Int → List Int → Option Bool) (t : Int) (w : List UInt8) (l : List S_api_Duty) (hl : l.length ≤ 64) (c1 : List S_api_Segment) (c2 c3 : List S_api_Veto) (c4 c5 : List Int) : ∀ (k N i m : Nat), k = l.length - i → i ≤ l.length → k < N → m ≤ i → m + cntW w t (l.drop i) = 1 → law11_RunRoster_3 F hd N t w 0 m i l c1 c2 c3 c4 c5 = hd (w64 (t + 1)) l c1 c2 c3 c4 c5
  | k, 0, i, m, _, _, h, _, _ => by omega
  | 0, N + 1, i, m, hk, hi, _, hm, h1 => by
    rw [List.drop_of_length_le (by omega : l.length ≤ i)] at h1
    have e : m = 1 := h1
    subst e
    rw [law11_RunRoster_3, bif_neg' (by omega)]
    rfl
  | k + 1, N + 1, i, m, hk, hi, hN, hm, h1 => by
    obtain ⟨x, hx⟩ := get_lt (l := l) (i := i) (by omega)
    rw [drop_get hx] at h1
    rw [law11_RunRoster_3, bif_pos' (by omega), idx_nat, hx, bnd_eq, bnd_eq]
    unfold law11_RunRoster_4
    rw [idx_nat, hx, bnd_eq]
    unfold law11_RunRoster_5 law11_RunRoster_6
    rw [up (i := m) (by omega), up (i := i) (by omega)]
    have a0 := ros3 F hd t w l hl c1 c2 c3 c4 c5 k N (i + 1) m (by omega) (by omega) (by omega) (by omega)
    have a1 := ros3 F hd t w l hl c1 c2 c3 c4 c5 k N (i + 1) (m + 1) (by omega) (by omega) (by omega) (by omega)
    have ec : cntW w t (x :: l.drop (i + 1)) = cntW w t (l.drop (i + 1)) + if (decide (x.From ≤ t) && (decide (t < x.To) && x.Who == w)) = true then 1 else 0 := by
      unfold cntW
      rw [List.countP_cons]
    rw [ec] at h1
    cases e1 : decide (x.From ≤ t) with
    | false =>
      rw [e1] at h1
      exact a0 (by simpa using h1)
    | true =>
      cases e2 : decide (t < x.To) with
      | false =>
        rw [e1, e2] at h1
        exact a0 (by simpa using h1)
      | true =>
        cases e3 : x.Who == w with
        | false =>
          rw [e1, e2, e3] at h1
          exact a0 (by simpa using h1)
        | true =>
          rw [e1, e2, e3] at h1
          refine a1 ?_
          simp only [Bool.and_self, if_true] at h1
          omega
theorem ros2 (F : Nat) (hF : 1000 < F) (hw : works F = some true) (p : S_api_Plan) (hc : run_plan_check F (planO p) = some 0) (g : Good (planO p)) : ∀ (k N t : Nat), k = p.Data.e0.length - t → t ≤ p.Data.e0.length → k < N → law11_RunRoster_2 F N t p.Duties p.Work p.Vetoes.e0 p.Vetoes.e1 p.Data.e0 p.Data.e1 = some true
  | k, 0, t, _, _, h => by omega
  | 0, N + 1, t, hk, hi, _ => by
    rw [law11_RunRoster_2, bif_neg' (by omega)]
    have := Watcher_out F hF p hc g
    show bnd (run_Watcher F p p.Data.e0.length) _ = _
    rw [this, bnd_eq, hw]
    rfl
  | k + 1, N + 1, t, hk, hi, hN => by
    have t1 := g.top
    have m1 := g.many
    change p.Data.e0.length ≤ 512 at t1
    change p.Duties.length ≤ 64 at m1
    rw [law11_RunRoster_2, bif_pos' (by omega)]
    have := Watcher_in F hF p hc g t (by omega) (by omega)
    show bnd (run_Watcher F p t) _ = _
    rw [this, bnd_eq]
    have h1 := chain_hit t p.Data.e0.length (by omega) p.Duties 0 g.chain (by omega)
    have := ros3 F (law11_RunRoster_2 F N) t (watchW t p.Duties) p.Duties m1 p.Work p.Vetoes.e0 p.Vetoes.e1 p.Data.e0 p.Data.e1 p.Duties.length F 0 0 rfl (by omega) (by omega) (by omega) (by rw [List.drop_zero]; omega)
    exact this.trans (by rw [up (by omega)]; exact ros2 F hF hw p hc g k N (t + 1) (by omega) (by omega) (by omega))
theorem law_eq (F : Nat) (a : S_api_Plan) (hF : 1000 < F) (hw : works F = some true) : law11_RunRoster F a = some true := by
  obtain ⟨r, hr, hr1, hr2⟩ := Check_ex F hF a
  unfold law11_RunRoster
  rw [hr, bnd_eq]
  by_cases h : r = 0
  · subst h
    rw [show (!((0 : Int) == 0)) = false from rfl, cond_false]
    have g := hr2 rfl
    have t1 := g.top
    change a.Data.e0.length ≤ 512 at t1
    exact ros2 F hF hw a hr1 g a.Data.e0.length F 0 rfl (by omega) (by omega)
  · rw [show (!(r == 0)) = true by simp [h], cond_true, Watcher_bad F a 0 r h hr1, bnd_eq, beq_self_eq_true, cond_true, hw]
    rfl
end Go.Ev.RunRoster
