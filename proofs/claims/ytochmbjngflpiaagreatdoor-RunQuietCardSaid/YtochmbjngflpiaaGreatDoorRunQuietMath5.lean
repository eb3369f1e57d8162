/- What a veto covers of a span, and for which times a plan is quiet. -/
import Derived.Test.YtochmbjngflpiaaGreatDoorRunQuietMath4
namespace Go.Ev.RunQuiet
open Go Go.Ev Go.Proofs
set_option linter.unusedVariables false
def InS (n : Int) (s : S_api_Segment) : Prop := 0 ≤ s.From ∧ s.From < s.To ∧ s.To ≤ n
theorem hel3 (F : Nat) (n : Int) (l : List S_api_Segment) (hl : l.length ≤ 32) (hb : ∀ s ∈ l, InS n s) : ∀ (k N i : Nat) (acc : List S_api_Segment), k = l.length - i → i ≤ l.length → k < N → acc.length ≤ i → (∀ s ∈ acc, InS n s) → ∃ r, glitch_held_3 F N l.length i acc l = some r ∧ r.length ≤ 32 ∧ ∀ s ∈ r, InS n s
  | k, 0, i, acc, _, _, h, _, _ => by omega
  | 0, N + 1, i, acc, hk, hi, _, ha, hi2 => by
    rw [glitch_held_3, bif_neg' (by omega)]
    exact ⟨acc, rfl, by omega, hi2⟩
  | k + 1, N + 1, i, acc, hk, hi, hN, ha, hi2 => by
    obtain ⟨x, hx⟩ := get_lt (l := l) (i := i) (by omega)
    have hxb := hb x (List.mem_of_getElem? hx)
    rw [glitch_held_3, bif_pos' (by omega), idx_nat, hx, bnd_eq]
    have more : ∀ v, ∃ r, glitch_held_4 F (glitch_held_3 F N) v l.length i false x acc l = some r ∧ r.length ≤ 32 ∧ ∀ s ∈ r, InS n s := by
      intro v
      unfold glitch_held_4 glitch_held_5
      rw [cond_false, apd_ok (by simp; omega) (by omega), bnd_eq, up (by omega)]
      exact hel3 F n l hl hb k N (i + 1) (acc ++ [x]) (by omega) (by omega) (by omega) (by simp; omega) (fun s hs => by
        rcases List.mem_append.1 hs with h | h
        · exact hi2 s h
        · simp at h; subst h; exact hxb)
    by_cases h0 : acc.length = 0
    · have e : w64 ((acc.length : Int) - 1) = -1 := by rw [h0]; decide
      rw [e, bif_neg' (by decide)]
      exact more _
    · have e : w64 ((acc.length : Int) - 1) = ((acc.length - 1 : Nat) : Int) := by rw [w64_id (by omega) (by omega)]; omega
      obtain ⟨y, hy⟩ := get_lt (l := acc) (i := acc.length - 1) (by omega)
      have hyb := hi2 y (List.mem_of_getElem? hy)
      rw [e, bif_pos' (by omega), idx_nat, hy, bnd_eq]
      cases e1 : decide (x.From ≤ y.To) with
      | false => exact more _
      | true =>
        unfold glitch_held_4 glitch_held_5
        rw [cond_true, idx_nat, hy, bnd_eq, inn_at (by omega), bnd_eq, hy, bnd_eq, upd_at (by omega), bnd_eq, up (by omega)]
        refine hel3 F n l hl hb k N (i + 1) (acc.set (acc.length - 1) ⟨y.From, max y.To x.To⟩) (by omega) (by omega) (by omega) (by simp; omega) (fun s hs => ?_)
        rcases List.mem_or_eq_of_mem_set hs with h | h
        · exact hi2 s h
        · subst h
          obtain ⟨a1, a2, a3⟩ := hyb
          obtain ⟨b1, b2, b3⟩ := hxb
          refine ⟨a1, ?_, ?_⟩
          · show y.From < max y.To x.To
            omega
          · show max y.To x.To ≤ n
            omega
theorem hel1 (F : Nat) (hF : 100 < F) (n : Int) (l : List S_api_Segment) (hl : l.length ≤ 32) (hv : ∀ s ∈ l, 0 ≤ s.From ∧ s.From < s.To) : ∀ (k N i : Nat) (acc : List S_api_Segment), k = l.length - i → i ≤ l.length → k < N → acc.length ≤ i → (∀ s ∈ acc, InS n s) → ∃ r, glitch_held_1 F N l l.length i n acc = some r ∧ r.length ≤ 32 ∧ ∀ s ∈ r, InS n s
  | k, 0, i, acc, _, _, h, _, _ => by omega
  | 0, N + 1, i, acc, hk, hi, _, ha, hi2 => by
    rw [glitch_held_1, bif_neg' (by omega)]
    have e : sortP (fun a : S_api_Segment => a.From) acc = some (sortBy (fun a => a.From) acc) := by
      unfold sortP
      rw [if_pos (by omega)]
    rw [e, bnd_eq]
    have hlen := sortBy_len (fun a : S_api_Segment => a.From) acc
    exact hel3 F n (sortBy (fun a => a.From) acc) (by omega) (fun s hs => hi2 s ((sortBy_perm _ acc).mem_iff.1 hs)) (sortBy (fun a : S_api_Segment => a.From) acc).length F 0 [] rfl (by omega) (by omega) (by simp) (fun s hs => nomatch hs)
  | k + 1, N + 1, i, acc, hk, hi, hN, ha, hi2 => by
    obtain ⟨x, hx⟩ := get_lt (l := l) (i := i) (by omega)
    obtain ⟨x1, x2⟩ := hv x (List.mem_of_getElem? hx)
    rw [glitch_held_1, bif_pos' (by omega), idx_nat, hx, bnd_eq]
    unfold glitch_held_2
    rw [up (by omega)]
    cases e : decide (x.From < min x.To n) with
    | false => exact hel1 F hF n l hl hv k N (i + 1) acc (by omega) (by omega) (by omega) (by omega) hi2
    | true =>
      have e' := of_decide_eq_true e
      rw [cond_true, apd_ok (by simp; omega) (by omega), bnd_eq]
      refine hel1 F hF n l hl hv k N (i + 1) (acc ++ [⟨x.From, min x.To n⟩]) (by omega) (by omega) (by omega) (by simp; omega) (fun s hs => ?_)
      rcases List.mem_append.1 hs with h | h
      · exact hi2 s h
      · simp at h; subst h
        refine ⟨x1, e', ?_⟩
        show min x.To n ≤ n
        omega
theorem gisF (F : Nat) (a b c : Int) : glitch_isFrom F a b c = some (inR a b c) := by
  unfold glitch_isFrom inR glitch_isFrom_1
  by_cases h : a ≤ b <;> simp [h]
theorem one_veto (F : Nat) (hF : 1000 < F) (v : S_api_Veto) (hv : VOK F v) : glitch_areVetoes F [v] = some true := by
  obtain ⟨G, rfl⟩ : ∃ G, F = G + 2 := ⟨F - 2, by omega⟩
  unfold glitch_areVetoes
  rw [bif_neg' (by simp)]
  have e0 : w64 ((0 : Int) + 1) = 1 := by decide
  rw [glitch_areVetoes_1, bif_pos' (by simp)]
  show bnd (some v) _ = _
  rw [bnd_eq, name_eq (G + 2) (by omega), bnd_eq, hv.name]
  show glitch_areVetoes_2 (G + 2) (glitch_areVetoes_1 (G + 2) (G + 1)) [v] ([v] : List S_api_Veto).length 0 (mget eqB false [] v.Name) v.Name v.Segments [] = _
  have em : mget eqB false ([] : List ((List UInt8) × Bool)) v.Name = false := rfl
  rw [em]
  unfold glitch_areVetoes_2 glitch_areVetoes_3
  rw [cond_false, hv.segs, bnd_eq, Bool.not_true, cond_false, e0, glitch_areVetoes_1, bif_neg' (by simp)]
theorem Held_ex (F : Nat) (hF : 1000 < F) (v : S_api_Veto) (hv : VOK F v) (n : Int) (h1 : 1 ≤ n) (h2 : n ≤ 512) : ∃ r, glitch_Held F v n = some (r, 0) ∧ r.length ≤ 32 ∧ ∀ s ∈ r, InS n s := by
  obtain ⟨r, hr, hr2, hr3⟩ := hel1 F (by omega) n v.Segments hv.len hv.all v.Segments.length F 0 [] rfl (by omega) (by have := hv.len; omega) (by simp) (fun s hs => nomatch hs)
  refine ⟨r, ?_, hr2, hr3⟩
  have e : inR 1 n 1073741824 = true := inR_iff.2 ⟨h1, by omega⟩
  have hr' : glitch_held F v.Segments n = some r := hr
  unfold glitch_Held glitch_checkSpan glitch_isSpan
  rw [one_veto F hF v hv, bnd_eq, Bool.not_true, cond_false, gisF, e, bnd_eq, bnd_eq, Bool.not_true, cond_false, bnd_eq]
  show bnd (glitch_held F v.Segments n) _ = _
  rw [hr', bnd_eq]
theorem mul0 : ∀ n : Fin 513, bits_Mul 0 1 (n.val : Int) = some (0, (n.val : Int)) := by decide +kernel
theorem mul1 (F n : Nat) (h : n ≤ 512) : bits_Mul F 1 (n : Int) = some (0, (n : Int)) := mul0 ⟨n, by omega⟩
theorem rep4 (F n : Nat) (hn : n ≤ 512) : ∀ (N v : Nat) (l : List Bool), l.length = n → 1 ≤ v → v ≤ n → n - v < N → ∃ r, slices_Repeat_4 F N v l = some r ∧ r.length = n
  | 0, v, l, _, _, _, h => by omega
  | N + 1, v, l, hl, h1, h2, h3 => by
    by_cases h : v = n
    · rw [slices_Repeat_4, bif_neg' (by omega)]
      exact ⟨l, rfl, hl⟩
    · rw [slices_Repeat_4, bif_pos' (by omega), subP_ok (a := v) (b := l.length) rfl rfl (by omega) (by omega), bnd_eq, subP_ok (a := 0) (b := v) (lo := 0) (hi := (v : Int)) rfl rfl (by omega) (by omega), bnd_eq, parL_ok (by simp; omega), bnd_eq]
      have e : ∃ l', cpyP l (0 + v) (l.length - v) ((l.drop (0 + 0)).take (v - 0)) = some l' ∧ l'.length = n := by
        unfold cpyP
        have e1 : (decide (0 < l.length - v) && decide (0 + v + (l.length - v) ≤ l.length)) = true := by
          rw [decide_eq_true (by omega), decide_eq_true (by omega)]; rfl
        rw [e1, cond_true]
        refine ⟨_, rfl, ?_⟩
        simp
        omega
      obtain ⟨l', hl', hn'⟩ := e
      rw [hl', bnd_eq]
      have e2 : w64 ((v : Int) + ((min ((l.drop (0 + 0)).take (v - 0)).length (l.length - v) : Nat) : Int)) = ((v + min v (n - v) : Nat) : Int) := by
        have : ((l.drop (0 + 0)).take (v - 0)).length = v := by simp; omega
        rw [this, hl, w64_id (by omega) (by omega)]
        omega
      rw [e2]
      exact rep4 F n hn N (v + min v (n - v)) l' hn' (by omega) (by omega) (by omega)
theorem rep_ex (F : Nat) (hF : 1000 < F) (n : Nat) (h1 : 1 ≤ n) (h2 : n ≤ 512) : ∃ r, slices_Repeat F [true] n = some r ∧ r.length = n := by
  unfold slices_Repeat slices_Repeat_1
  rw [bif_neg' (by omega)]
  have e1 : IntKind.wrap .u64 (([true] : List Bool).length : Int) = 1 := by decide
  have e2 : IntKind.wrap .u64 (n : Int) = n := wrap_in .u64 (n : Int) (by show (0 : Int) ≤ _; omega) (by show (n : Int) ≤ 18446744073709551615; omega)
  rw [e1, e2, mul1 F n h2, bnd_eq, bif_neg' (by simp)]
  have e3 : decide ((9223372036854775807 : Int) < (n : Int)) = false := decide_eq_false (by omega)
  show ∃ r, slices_Repeat_2 F [true] (n : Int) (decide ((9223372036854775807 : Int) < (n : Int))) = some r ∧ _
  rw [e3]
  unfold slices_Repeat_2 slices_Repeat_3
  rw [cond_false, w64_id (by omega) (by omega), mk_ok (by omega) (by omega), bnd_eq]
  have e4 : ∃ l', cpyA (List.replicate n false) [true] = some l' ∧ l'.length = n := by
    unfold cpyA
    refine ⟨_, rfl, ?_⟩
    simp
    omega
  obtain ⟨l', hl', hn'⟩ := e4
  rw [hl', bnd_eq]
  have e5 : ((min ([true] : List Bool).length (List.replicate n false).length : Nat) : Int) = ((1 : Nat) : Int) := by
    simp; omega
  rw [e5]
  exact rep4 F n h2 F 1 l' hn' (by omega) h1 (by omega)
theorem clr_ok (l : List Bool) (s : S_api_Segment) (hs : InS l.length s) : ∃ p, subP l.length s.From s.To = some p ∧ ∃ l', clrP l (0 + p.1) p.2 false = some l' ∧ l'.length = l.length := by
  obtain ⟨h1, h2, h3⟩ := hs
  refine ⟨_, subP_ok (a := s.From.toNat) (b := s.To.toNat) (by omega) (by omega) (by omega) (by omega), ?_⟩
  unfold clrP
  have e1 : (decide (0 < s.To.toNat - s.From.toNat) && decide (0 + s.From.toNat + (s.To.toNat - s.From.toNat) ≤ l.length)) = true := by
    rw [decide_eq_true (by omega), decide_eq_true (by omega)]; rfl
  rw [e1, cond_true]
  refine ⟨_, rfl, ?_⟩
  simp
  omega
section
variable (c0 : List S_api_Duty) (c1 : List S_api_Segment) (c2 c3 : List S_api_Veto) (c4 c5 : List Int)
theorem qui4 (F : Nat) (hd : (List S_api_Veto) → Int → Int → (List S_api_Duty) → (List S_api_Segment) → (List S_api_Veto) → (List S_api_Veto) → (List Int) → (List Int) → (List Bool) → Option ((List Bool))) (vs : List S_api_Veto) (vn vi : Int) (n : Nat) (h : List S_api_Segment) (hh : h.length ≤ 32) (hb : ∀ s ∈ h, InS n s) : ∀ (k N i : Nat) (l : List Bool), k = h.length - i → i ≤ h.length → k < N → l.length = n → ∃ l', l'.length = n ∧ run_plan_quiet_4 F hd N h.length i vs vn vi c0 c1 c2 c3 c4 c5 l h = hd vs vn (w64 (vi + 1)) c0 c1 c2 c3 c4 c5 l'
  | k, 0, i, l, _, _, h, _ => by omega
  | 0, N + 1, i, l, hk, hi, _, hl => by
    rw [run_plan_quiet_4, bif_neg' (by omega)]
    exact ⟨l, hl, rfl⟩
  | k + 1, N + 1, i, l, hk, hi, hN, hl => by
    obtain ⟨x, hx⟩ := get_lt (l := h) (i := i) (by omega)
    obtain ⟨p, hp, l', hl', hn'⟩ := clr_ok l x (by rw [hl]; exact hb x (List.mem_of_getElem? hx))
    rw [run_plan_quiet_4, bif_pos' (by omega), idx_nat, hx, bnd_eq, hp, bnd_eq, hl', bnd_eq, up (by omega)]
    exact qui4 F hd vs vn vi n h hh hb k N (i + 1) l' (by omega) (by omega) (by omega) (by omega)
theorem qui3 (F : Nat) (hF : 1000 < F) (h1 : 1 ≤ c4.length) (h2 : c4.length ≤ 512) (vs : List S_api_Veto) (hvs : vs.length ≤ 12) (hv : ∀ v ∈ vs, VOK F v) : ∀ (k N i : Nat) (l : List Bool), k = vs.length - i → i ≤ vs.length → k < N → l.length = c4.length → ∃ r, run_plan_quiet_3 F N vs vs.length i c0 c1 c2 c3 c4 c5 l = some r ∧ r.length = c4.length
  | k, 0, i, l, _, _, h, _ => by omega
  | 0, N + 1, i, l, hk, hi, _, hl => by
    rw [run_plan_quiet_3, bif_neg' (by omega)]
    exact ⟨l, rfl, hl⟩
  | k + 1, N + 1, i, l, hk, hi, hN, hl => by
    obtain ⟨x, hx⟩ := get_lt (l := vs) (i := i) (by omega)
    obtain ⟨r, hr, hr2, hr3⟩ := Held_ex F hF x (hv x (List.mem_of_getElem? hx)) c4.length (by omega) (by omega)
    rw [run_plan_quiet_3, bif_pos' (by omega), idx_nat, hx, bnd_eq]
    unfold run_plan_span
    rw [bnd_eq]
    show ∃ r, bnd (glitch_Held F x (c4.length : Int)) _ = some r ∧ _
    rw [hr, bnd_eq]
    obtain ⟨l', hl', he⟩ := qui4 c0 c1 c2 c3 c4 c5 F (run_plan_quiet_3 F N) vs vs.length i c4.length r hr2 hr3 r.length F 0 l rfl (by omega) (by omega) hl
    obtain ⟨q, hq, hq2⟩ := qui3 F hF h1 h2 vs hvs hv k N (i + 1) l' (by omega) (by omega) (by omega) hl'
    refine ⟨q, ?_, hq2⟩
    rw [← hq, ← up (i := i) (by omega)]
    exact he
end
theorem qui1 (F : Nat) (hF : 1000 < F) (p : S_run_plan) (g : Good F p) (d : Int) (hd : d = 0 ∨ d = 1) : ∀ (k N i : Nat) (l : List Bool), k = p.work.length - i → i ≤ p.work.length → k < N → l.length = p.data.e0.length → ∃ r, run_plan_quiet_1 F N p.work p.work.length i d p.duties p.work p.vetoes.e0 p.vetoes.e1 p.data.e0 p.data.e1 l = some r ∧ r.length = p.data.e0.length
  | k, 0, i, l, _, _, h, _ => by omega
  | 0, N + 1, i, l, hk, hi, _, hl => by
    rw [run_plan_quiet_1, bif_neg' (by omega)]
    have g1 := g.one
    have g2 := g.top
    rcases hd with rfl | rfl
    · rw [show ((0 : Int) == 0) = true from rfl, cond_true]
      exact qui3 p.duties p.work p.vetoes.e0 p.vetoes.e1 p.data.e0 p.data.e1 F hF g1 g2 p.vetoes.e0 g.v0.1 g.v0.2 p.vetoes.e0.length F 0 l rfl (by omega) (by have := g.v0.1; omega) hl
    · rw [show ((1 : Int) == 0) = false from rfl, cond_false, show ((1 : Int) == 1) = true from rfl, cond_true]
      exact qui3 p.duties p.work p.vetoes.e0 p.vetoes.e1 p.data.e0 p.data.e1 F hF g1 g2 p.vetoes.e1 g.v1.1 g.v1.2 p.vetoes.e1.length F 0 l rfl (by omega) (by have := g.v1.1; omega) hl
  | k + 1, N + 1, i, l, hk, hi, hN, hl => by
    obtain ⟨x, hx⟩ := get_lt (l := p.work) (i := i) (by omega)
    obtain ⟨q, hp, l', hl', hn'⟩ := clr_ok l x (by rw [hl]; exact g.work.2 x (List.mem_of_getElem? hx))
    have gw := g.work.1
    rw [run_plan_quiet_1, bif_pos' (by omega), idx_nat, hx, bnd_eq, hp, bnd_eq, hl', bnd_eq, up (by omega)]
    exact qui1 F hF p g d hd k N (i + 1) l' (by omega) (by omega) (by omega) (by omega)
theorem quiet_ex (F : Nat) (hF : 1000 < F) (p : S_run_plan) (g : Good F p) (d : Int) (hd : d = 0 ∨ d = 1) : ∃ q, run_plan_quiet F p d = some q ∧ q.length = p.data.e0.length := by
  obtain ⟨l, hl, hn⟩ := rep_ex F hF p.data.e0.length g.one g.top
  obtain ⟨r, hr, hr2⟩ := qui1 F hF p g d hd p.work.length F 0 l rfl (by omega) (by have := g.work.1; omega) hn
  refine ⟨r, ?_, hr2⟩
  unfold run_plan_quiet run_plan_span
  rw [bnd_eq, hl, bnd_eq]
  exact hr
end Go.Ev.RunQuiet
