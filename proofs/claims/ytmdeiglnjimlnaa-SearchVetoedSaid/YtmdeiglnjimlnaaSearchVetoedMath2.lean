/- What vetoes pass. -/
import Derived.Test.YtmdeiglnjimlnaaSearchVetoedMath1
namespace Go.Ev.SearchVetoed
open Go Go.Ev Go.Proofs
set_option linter.unusedVariables false
theorem seg1 (F : Nat) (l : List S_api_Segment) (hl : l.length ≤ 32) (f : Bool) : ∀ (k N i : Nat), k = l.length - i → i ≤ l.length → k < N → ∃ r, glitch_areSegments_1 F N l l.length i f = some r
  | k, 0, i, _, _, h => by omega
  | 0, N + 1, i, hk, hi, _ => by
    rw [glitch_areSegments_1, bif_neg' (by omega)]
    unfold glitch_areSegments_4
    cases f
    · exact ⟨_, rfl⟩
    · exact ⟨_, rfl⟩
  | k + 1, N + 1, i, hk, hi, hN => by
    obtain ⟨x, hx⟩ := get_lt (l := l) (i := i) (by omega)
    obtain ⟨r, hr⟩ := seg1 F l hl f k N (i + 1) (by omega) (by omega) (by omega)
    rw [glitch_areSegments_1, bif_pos' (by omega), idx_nat, hx, bnd_eq]
    unfold glitch_areSegments_2 glitch_areSegments_3 glitch_areSegments_4
    rw [up (by omega), hr]
    cases decide (0 ≤ x.From) <;> cases decide (x.From < x.To) <;> cases decide (x.To ≤ 1073741824) <;> cases f <;> exact ⟨_, rfl⟩
theorem seg_ex (F : Nat) (hF : 40 < F) (l : List S_api_Segment) : ∃ r, glitch_areSegments F l = some r ∧ (r = true → l.length ≤ 32) := by
  unfold glitch_areSegments
  by_cases h : l.length ≤ 32
  · rw [bif_pos' (by omega)]
    obtain ⟨r, hr⟩ := seg1 F l h (decide ((l.length : Int) ≤ 32)) l.length F 0 rfl (by omega) (by omega)
    exact ⟨r, hr, fun _ => h⟩
  · rw [bif_neg' (by omega)]
    exact ⟨false, rfl, fun h => by simp at h⟩
theorem vet1 (F : Nat) (hF : 40 < F) (l : List S_api_Veto) (hl : l.length ≤ 12) : ∀ (k N i : Nat) (m : List ((List UInt8) × Bool)), k = l.length - i → i ≤ l.length → k < N → ∃ r, glitch_areVetoes_1 F N l l.length i m = some r ∧ (r = true → ∀ v ∈ l.drop i, v.Segments.length ≤ 32)
  | k, 0, i, m, _, _, h => by omega
  | 0, N + 1, i, m, hk, hi, _ => by
    rw [glitch_areVetoes_1, bif_neg' (by omega), List.drop_of_length_le (by omega : l.length ≤ i)]
    exact ⟨true, rfl, fun _ v hv => nomatch hv⟩
  | k + 1, N + 1, i, m, hk, hi, hN => by
    obtain ⟨x, hx⟩ := get_lt (l := l) (i := i) (by omega)
    obtain ⟨s, hs, hs2⟩ := seg_ex F hF x.Segments
    obtain ⟨r, hr, hr2⟩ := vet1 F hF l hl k N (i + 1) (mput eqB m x.Name true) (by omega) (by omega) (by omega)
    have key : ∀ b, ∃ q, glitch_areVetoes_2 F (glitch_areVetoes_1 F N) l l.length i b x.Name x.Segments m = some q ∧ (q = true → ∀ v ∈ x :: l.drop (i + 1), v.Segments.length ≤ 32) := by
      intro b
      unfold glitch_areVetoes_2 glitch_areVetoes_3
      rw [hs, bnd_eq, up (by omega), hr]
      cases b with
      | true => exact ⟨false, rfl, fun h => by simp at h⟩
      | false =>
        cases s with
        | false => exact ⟨false, rfl, fun h => by simp at h⟩
        | true =>
          refine ⟨r, rfl, fun h v hv => ?_⟩
          rcases List.mem_cons.1 hv with rfl | hv
          · exact hs2 rfl
          · exact hr2 h v hv
    rw [glitch_areVetoes_1, bif_pos' (by omega), idx_nat, hx, bnd_eq, name_eq F (by omega), bnd_eq, drop_get hx]
    cases nameB x.Name with
    | false => exact key true
    | true => exact key _
theorem vet_ex (F : Nat) (hF : 40 < F) (l : List S_api_Veto) : ∃ r, glitch_areVetoes F l = some r ∧ (r = true → l.length ≤ 12 ∧ ∀ v ∈ l, v.Segments.length ≤ 32) := by
  unfold glitch_areVetoes
  by_cases h : l.length ≤ 12
  · rw [bif_neg' (by omega)]
    obtain ⟨r, hr, hr2⟩ := vet1 F hF l h l.length F 0 [] rfl (by omega) (by omega)
    exact ⟨r, hr, fun e => ⟨h, hr2 e⟩⟩
  · rw [bif_pos' (by omega)]
    exact ⟨false, rfl, fun h => by simp at h⟩
theorem gisFrom_eq (F : Nat) (a b c : Int) : glitch_isFrom F a b c = some (inR a b c) := by
  unfold glitch_isFrom inR glitch_isFrom_1
  by_cases h : a ≤ b <;> simp [h]
theorem tim1 (F : Nat) (l : List Int) (hl : l.length ≤ 256) : ∀ (k N i : Nat) (last : Int), k = l.length - i → i ≤ l.length → k < N → ∃ r, glitch_areTimes_1 F N last l l.length i = some r
  | k, 0, i, last, _, _, h => by omega
  | 0, N + 1, i, last, hk, hi, _ => by
    rw [glitch_areTimes_1, bif_neg' (by omega)]
    exact ⟨_, rfl⟩
  | k + 1, N + 1, i, last, hk, hi, hN => by
    obtain ⟨x, hx⟩ := get_lt (l := l) (i := i) (by omega)
    obtain ⟨r, hr⟩ := tim1 F l hl k N (i + 1) x (by omega) (by omega) (by omega)
    rw [glitch_areTimes_1, bif_pos' (by omega), idx_nat, hx, bnd_eq, gisFrom_eq, bnd_eq, up (by omega), hr]
    cases inR (w64 (last + 1)) x 1073741824 <;> exact ⟨_, rfl⟩
theorem tim_ex (F : Nat) (hF : 300 < F) (l : List Int) : ∃ r, glitch_areTimes F l = some r ∧ (r = true → l.length ≤ 256) := by
  unfold glitch_areTimes
  by_cases h : l.length ≤ 256
  · rw [bif_neg' (by omega)]
    obtain ⟨r, hr⟩ := tim1 F l h l.length F 0 (-1) rfl (by omega) (by omega)
    exact ⟨r, hr, fun _ => h⟩
  · rw [bif_pos' (by omega)]
    exact ⟨false, rfl, fun h => by simp at h⟩
def holdB (v : S_api_Veto) (t : Int) : Bool := v.Segments.any fun s => decide (s.From ≤ t) && decide (t < s.To)
theorem hol1 (F : Nat) (l : List S_api_Segment) (hl : l.length ≤ 32) (t : Int) : ∀ (k N i : Nat), k = l.length - i → i ≤ l.length → k < N → glitch_holdsAt_1 F N l l.length i t = some ((l.drop i).any fun s => decide (s.From ≤ t) && decide (t < s.To))
  | k, 0, i, _, _, h => by omega
  | 0, N + 1, i, hk, hi, _ => by
    rw [glitch_holdsAt_1, bif_neg' (by omega), List.drop_of_length_le (by omega : l.length ≤ i)]
    rfl
  | k + 1, N + 1, i, hk, hi, hN => by
    obtain ⟨x, hx⟩ := get_lt (l := l) (i := i) (by omega)
    rw [glitch_holdsAt_1, bif_pos' (by omega), idx_nat, hx, bnd_eq, drop_get hx, List.any_cons]
    unfold glitch_holdsAt_2
    rw [up (by omega), hol1 F l hl t k N (i + 1) (by omega) (by omega) (by omega), decide_eq_true (show (0 : Int) ≤ (i : Int) by omega)]
    cases decide (x.From ≤ t) <;> cases decide (t < x.To) <;> rfl
theorem con1 (F : Nat) (hF : 40 < F) (l : List S_api_Veto) (hl : l.length ≤ 12) (hv : ∀ v ∈ l, v.Segments.length ≤ 32) (t : Int) (l0 : List S_api_Veto) : ∀ (k N i : Nat), k = l.length - i → i ≤ l.length → k < N → slices_ContainsFunc_67_h1_1 F l0 t N l l.length i = some ((l.drop i).any fun v => holdB v t)
  | k, 0, i, _, _, h => by omega
  | 0, N + 1, i, hk, hi, _ => by
    rw [slices_ContainsFunc_67_h1_1, bif_neg' (by omega), List.drop_of_length_le (by omega : l.length ≤ i)]
    rfl
  | k + 1, N + 1, i, hk, hi, hN => by
    obtain ⟨x, hx⟩ := get_lt (l := l) (i := i) (by omega)
    have h1 := hol1 F x.Segments (hv x (List.mem_of_getElem? hx)) t x.Segments.length F 0 rfl (by omega) (by have := hv x (List.mem_of_getElem? hx); omega)
    rw [List.drop_zero] at h1
    have h2 : glitch_holdsAt F x t = some (holdB x t) := h1
    rw [slices_ContainsFunc_67_h1_1, bif_pos' (by omega), idx_nat, hx, bnd_eq, h2, bnd_eq, drop_get hx, List.any_cons, up (by omega), con1 F hF l hl hv t l0 k N (i + 1) (by omega) (by omega) (by omega), decide_eq_true (show (0 : Int) ≤ (i : Int) by omega)]
    cases holdB x t <;> rfl
def passB (l : List S_api_Veto) (t : Int) : Bool := !(l.any fun v => holdB v t)
theorem pas1 (F : Nat) (hF : 40 < F) (l : List S_api_Veto) (hl : l.length ≤ 12) (hv : ∀ v ∈ l, v.Segments.length ≤ 32) (ts : List Int) (ht : ts.length ≤ 256) : ∀ (k N i : Nat) (acc : List Int), k = ts.length - i → i ≤ ts.length → k < N → acc.length ≤ i → glitch_passed_1 F N ts ts.length i l acc = some (acc ++ (ts.drop i).filter (passB l))
  | k, 0, i, acc, _, _, h, _ => by omega
  | 0, N + 1, i, acc, hk, hi, _, _ => by
    rw [glitch_passed_1, bif_neg' (by omega), List.drop_of_length_le (by omega : ts.length ≤ i)]
    simp
  | k + 1, N + 1, i, acc, hk, hi, hN, hacc => by
    obtain ⟨x, hx⟩ := get_lt (l := ts) (i := i) (by omega)
    have h1 := con1 F hF l hl hv x l l.length F 0 rfl (by omega) (by omega)
    rw [List.drop_zero] at h1
    have h2 : slices_ContainsFunc_67_h1 F l x = some (l.any fun v => holdB v x) := h1
    rw [glitch_passed_1, bif_pos' (by omega), idx_nat, hx, bnd_eq, h2, bnd_eq, drop_get hx]
    unfold glitch_passed_2
    rw [up (by omega)]
    show (bif passB l x then _ else _) = _
    cases e : passB l x with
    | true => rw [cond_true, apd_ok (by simp; omega) (by omega), bnd_eq, pas1 F hF l hl hv ts ht k N (i + 1) _ (by omega) (by omega) (by omega) (by simp; omega), List.filter_cons_of_pos (by simp [e]), List.append_assoc]; rfl
    | false => rw [cond_false, pas1 F hF l hl hv ts ht k N (i + 1) _ (by omega) (by omega) (by omega) (by omega), List.filter_cons_of_neg (by simp [e])]
theorem Passed_ex (F : Nat) (hF : 300 < F) (l : List S_api_Veto) (ts : List Int) : (∃ e, e ≠ 0 ∧ glitch_Passed F l ts = some ([], e)) ∨ (ts.length ≤ 256 ∧ glitch_Passed F l ts = some (ts.filter (passB l), 0)) := by
  obtain ⟨a, ha, ha2⟩ := vet_ex F (by omega) l
  obtain ⟨b, hb, hb2⟩ := tim_ex F hF ts
  unfold glitch_Passed
  rw [ha, bnd_eq]
  cases a with
  | false => exact .inl ⟨63, by decide, rfl⟩
  | true =>
    rw [Bool.not_true, cond_false, hb, bnd_eq]
    cases b with
    | false => exact .inl ⟨64, by decide, rfl⟩
    | true =>
      obtain ⟨h1, h2⟩ := ha2 rfl
      have := pas1 F (by omega) l h1 h2 ts (hb2 rfl) ts.length F 0 [] rfl (by omega) (by have := hb2 rfl; omega) (by simp)
      rw [List.drop_zero, List.nil_append] at this
      have this' : glitch_passed F l ts = _ := this
      rw [Bool.not_true, cond_false, this', bnd_eq]
      exact .inr ⟨hb2 rfl, rfl⟩
end Go.Ev.SearchVetoed
