/- For which times a plan is quiet, in full; what vetoes pass. -/
import Derived.Test.YtochmbjngflpiaaGreatDoorRunVetoedMath5
namespace Go.Ev.RunVetoed
open Go Go.Ev Go.Proofs
set_option linter.unusedVariables false
theorem gisF (F : Nat) (a b c : Int) : glitch_isFrom F a b c = some (inR a b c) := by
 unfold glitch_isFrom inR glitch_isFrom_1
 by_cases h : a ≤ b <;> simp [h]
theorem one_veto (F : Nat) (hF : 1000 < F) (v : S_api_Veto) (hv : VOK F v) : glitch_areVetoes F [v] = some true := by
 obtain ⟨G, rfl⟩ : ∃ G, F = G + 2 := ⟨F - 2, by omega⟩
 unfold glitch_areVetoes
 rw [bif_neg' (by simp)]
 have e0 : w64 ((0 : Int) + 1) = 1 := by decide
 rw [glitch_areVetoes_1, bif_pos' (by simp)]
 show bnd (some v) _ = _
 rw [bnd_eq, name_eq (G + 2) (by omega), bnd_eq, hv.name]
 show glitch_areVetoes_2 (G + 2) (glitch_areVetoes_1 (G + 2) (G + 1)) [v] ([v] : List S_api_Veto).length 0 (mget eqB false [] v.Name) v.Name v.Segments [] = _
 have em : mget eqB false ([] : List ((List UInt8) × Bool)) v.Name = false := rfl
 rw [em]
 unfold glitch_areVetoes_2 glitch_areVetoes_3
 rw [cond_false, hv.segs, bnd_eq, Bool.not_true, cond_false, e0, glitch_areVetoes_1, bif_neg' (by simp)]
theorem span_ok (F : Nat) (l : List S_api_Veto) (hl : glitch_areVetoes F l = some true) (n : Int) (h1 : 1 ≤ n) (h2 : n ≤ 512) : glitch_checkSpan F l n = some 0 := by
 have e : inR 1 n 1073741824 = true := inR_iff.2 ⟨h1, by omega⟩
 unfold glitch_checkSpan glitch_isSpan
 rw [hl, bnd_eq, Bool.not_true, cond_false, gisF, e, bnd_eq, bnd_eq, Bool.not_true, cond_false]
theorem Held_eq (F : Nat) (hF : 1000 < F) (v : S_api_Veto) (hv : VOK F v) (n : Int) (h1 : 1 ≤ n) (h2 : n ≤ 512) : glitch_Held F v n = some (heldL n v.Segments, 0) := by
 have := hv.len
 unfold glitch_Held
 rw [span_ok F [v] (one_veto F hF v hv) n h1 h2, bnd_eq]
 show bnd (glitch_held F v.Segments n) _ = _
 rw [held_eq F (by omega) n v.Segments (by omega), bnd_eq]
theorem mul0 : ∀ n : Fin 513, bits_Mul 0 1 (n.val : Int) = some (0, (n.val : Int)) := by decide +kernel
theorem mul1 (F n : Nat) (h : n ≤ 512) : bits_Mul F 1 (n : Int) = some (0, (n : Int)) := mul0 ⟨n, by omega⟩
def QL (p : Int → Bool) (n : Nat) : List Bool := (List.range n).map fun i : Nat => p (i : Int)
theorem QL_len (p : Int → Bool) (n : Nat) : (QL p n).length = n := by simp [QL]
theorem QL_get (p : Int → Bool) (n i : Nat) (h : i < n) : (QL p n)[i]? = some (p (i : Int)) := by simp [QL, h]
theorem QL_ext (l : List Bool) (p : Int → Bool) (n : Nat) (hl : l.length = n) (h : ∀ i : Nat, i < n → l[i]? = some (p (i : Int))) : l = QL p n := by
 apply List.ext_getElem?
 intro i
 by_cases hi : i < n
 ·rw [h i hi, QL_get p n i hi]
 ·rw [List.getElem?_eq_none (by omega), List.getElem?_eq_none (by rw [QL_len]; omega)]
theorem QL_congr (p q : Int → Bool) (n : Nat) (h : ∀ i : Nat, i < n → p (i : Int) = q (i : Int)) : QL p n = QL q n :=
 QL_ext _ q n (QL_len p n) fun i hi => by rw [QL_get p n i hi, h i hi]
theorem rpf4 (F n : Nat) (hn : n ≤ 512) : ∀ (N v : Nat) (l : List Bool), l.length = n → 1 ≤ v → v ≤ n → n - v < N → (∀ i : Nat, i < v → l[i]? = some true) → slices_Repeat_4 F N v l = some (QL (fun _ => true) n)
 | 0, v, l, _, _, _, h, _ => by omega
 | N + 1, v, l, hl, h1, h2, h3, hp => by
  by_cases h : v = n
  ·rw [slices_Repeat_4, bif_neg' (by omega), QL_ext l (fun _ => true) n hl fun i hi => hp i (by omega)]
  ·rw [slices_Repeat_4, bif_pos' (by omega), subP_ok (a := v) (b := l.length) rfl rfl (by omega) (by omega), bnd_eq, subP_ok (a := 0) (b := v) (lo := 0) (hi := (v : Int)) rfl rfl (by omega) (by omega), bnd_eq, parL_ok (by simp; omega), bnd_eq]
   have etk : ((l.drop (0 + 0)).take (v - 0)).length = v := by simp; omega
   have e : ∃ l', cpyP l (0 + v) (l.length - v) ((l.drop (0 + 0)).take (v - 0)) = some l' ∧ l'.length = n ∧ ∀ i : Nat, i < v + min v (n - v) → l'[i]? = some true := by
    unfold cpyP
    have e1 : (decide (0 < l.length - v) && decide (0 + v + (l.length - v) ≤ l.length)) = true := by
     rw [decide_eq_true (by omega), decide_eq_true (by omega)]; rfl
    rw [e1, cond_true]
    refine ⟨_, rfl, by simp; omega, fun i hi => ?_⟩
    by_cases hiv : i < v
    ·rw [List.getElem?_append_left (by simp; omega), List.getElem?_take_of_lt (by omega)]
     exact hp i hiv
    ·rw [List.getElem?_append_right (by simp; omega), List.getElem?_append_left (by simp; omega), List.getElem?_take_of_lt (by simp; omega), List.getElem?_take_of_lt (by simp; omega)]
     simp only [Nat.add_zero, List.drop_zero]
     exact hp _ (by simp; omega)
   obtain ⟨l', hl', hn', hp'⟩ := e
   rw [hl', bnd_eq]
   have e2 : w64 ((v : Int) + ((min ((l.drop (0 + 0)).take (v - 0)).length (l.length - v) : Nat) : Int)) = ((v + min v (n - v) : Nat) : Int) := by
    rw [etk, hl, w64_id (by omega) (by omega)]
    omega
   rw [e2]
   exact rpf4 F n hn N (v + min v (n - v)) l' hn' (by omega) (by omega) (by omega) hp'
theorem rpf (F : Nat) (hF : 1000 < F) (n : Nat) (h1 : 1 ≤ n) (h2 : n ≤ 512) : slices_Repeat F [true] n = some (QL (fun _ => true) n) := by
 unfold slices_Repeat slices_Repeat_1
 rw [bif_neg' (by omega)]
 have e1 : IntKind.wrap .u64 (([true] : List Bool).length : Int) = 1 := by decide
 have e2 : IntKind.wrap .u64 (n : Int) = n := wrap_in .u64 (n : Int) (by show (0 : Int) ≤ _; omega) (by show (n : Int) ≤ 18446744073709551615; omega)
 rw [e1, e2, mul1 F n h2, bnd_eq, bif_neg' (by simp)]
 have e3 : decide ((9223372036854775807 : Int) < (n : Int)) = false := decide_eq_false (by omega)
 show slices_Repeat_2 F [true] (n : Int) (decide ((9223372036854775807 : Int) < (n : Int))) = _
 rw [e3]
 unfold slices_Repeat_2 slices_Repeat_3
 rw [cond_false, w64_id (by omega) (by omega), mk_ok (by omega) (by omega), bnd_eq]
 have e4 : ∃ l', cpyA (List.replicate n false) [true] = some l' ∧ l'.length = n ∧ ∀ i : Nat, i < 1 → l'[i]? = some true := by
  unfold cpyA
  refine ⟨_, rfl, by simp; omega, fun i hi => ?_⟩
  obtain rfl : i = 0 := by omega
  have : min ([true] : List Bool).length (List.replicate n false).length = 1 := by simp; omega
  rw [this]
  rfl
 obtain ⟨l', hl', hn', hp'⟩ := e4
 rw [hl', bnd_eq]
 have e5 : ((min ([true] : List Bool).length (List.replicate n false).length : Nat) : Int) = ((1 : Nat) : Int) := by
  simp; omega
 rw [e5]
 exact rpf4 F n h2 F 1 l' hn' (by omega) h1 (by omega) hp'
theorem clr_q (p : Int → Bool) (n : Nat) (s : S_api_Segment) (hs : InS n s) : ∃ a, subP n s.From s.To = some a ∧ clrP (QL p n) (0 + a.1) a.2 false = some (QL (fun t => p t && !covS s t) n) := by
 obtain ⟨h1, h2, h3⟩ := hs
 refine ⟨_, subP_ok (a := s.From.toNat) (b := s.To.toNat) (by omega) (by omega) (by omega) (by omega), ?_⟩
 unfold clrP
 have e1 : (decide (0 < s.To.toNat - s.From.toNat) && decide (0 + s.From.toNat + (s.To.toNat - s.From.toNat) ≤ (QL p n).length)) = true := by
  rw [decide_eq_true (by omega), decide_eq_true (by rw [QL_len]; omega)]; rfl
 rw [e1, cond_true]
 congr 1
 have hlq := QL_len p n
 refine QL_ext _ _ n (by simp [hlq]; omega) fun i hi => ?_
 have key : ∀ b : Bool, covS s (i : Int) = b → (p (i : Int) && !covS s (i : Int)) = (p (i : Int) && !b) := fun b hb => by rw [hb]
 by_cases c1 : i < s.From.toNat
 ·rw [List.getElem?_append_left (by simp [hlq]; omega), List.getElem?_take_of_lt (by omega), QL_get p n i hi]
  rw [key false (by unfold covS; rw [decide_eq_false (by omega)]; rfl)]
  simp
 ·by_cases c2 : i < s.To.toNat
  ·rw [List.getElem?_append_right (by simp [hlq]; omega), List.getElem?_append_left (by simp [hlq]; omega)]
   rw [key true (by unfold covS; rw [decide_eq_true (by omega), decide_eq_true (by omega)]; rfl)]
   rw [List.getElem?_replicate, if_pos (by simp [hlq]; omega)]
   simp
  ·rw [List.getElem?_append_right (by simp [hlq]; omega), List.getElem?_append_right (by simp [hlq]; omega), List.getElem?_drop]
   rw [key false (by unfold covS; rw [decide_eq_false (show ¬ (i : Int) < s.To by omega), Bool.and_false])]
   have e : 0 + s.From.toNat + (s.To.toNat - s.From.toNat) + (i - (List.take (0 + s.From.toNat) (QL p n)).length - (List.replicate (s.To.toNat - s.From.toNat) false).length) = i := by
    simp [hlq]; omega
   rw [e, QL_get p n i hi]
   simp
section
variable (c0 : List S_api_Duty) (c1 : List S_api_Segment) (c2 c3 : List S_api_Veto) (c4 c5 : List Int)
theorem quf4 (F : Nat) (hd : (List S_api_Veto) → Int → Int → (List S_api_Duty) → (List S_api_Segment) → (List S_api_Veto) → (List S_api_Veto) → (List Int) → (List Int) → (List Bool) → Option ((List Bool))) (vs : List S_api_Veto) (vn vi : Int) (n : Nat) (h : List S_api_Segment) (hh : h.length ≤ 400) (hb : ∀ s ∈ h, InS n s) : ∀ (k N i : Nat) (p : Int → Bool), k = h.length - i → i ≤ h.length → k < N → run_plan_quiet_4 F hd N h.length i vs vn vi c0 c1 c2 c3 c4 c5 (QL p n) h = hd vs vn (w64 (vi + 1)) c0 c1 c2 c3 c4 c5 (QL (fun t => p t && !covL (h.drop i) t) n)
 | k, 0, i, p, _, _, h => by omega
 | 0, N + 1, i, p, hk, hi, _ => by
  rw [run_plan_quiet_4, bif_neg' (by omega), List.drop_of_length_le (by omega : h.length ≤ i)]
  congr 1
  exact QL_congr _ _ n fun i _ => by simp [covL]
 | k + 1, N + 1, i, p, hk, hi, hN => by
  obtain ⟨x, hx⟩ := get_lt (l := h) (i := i) (by omega)
  obtain ⟨a, ha, hc⟩ := clr_q p n x (hb x (List.mem_of_getElem? hx))
  rw [run_plan_quiet_4, bif_pos' (by omega), idx_nat, hx, bnd_eq, QL_len, ha, bnd_eq, hc, bnd_eq, up (by omega), quf4 F hd vs vn vi n h hh hb k N (i + 1) _ (by omega) (by omega) (by omega), drop_get hx]
  congr 1
  refine QL_congr _ _ n fun j _ => ?_
  have e : covL (x :: h.drop (i + 1)) (j : Int) = (covS x j || covL (h.drop (i + 1)) j) := rfl
  rw [e]
  cases p (j : Int) <;> cases covS x (j : Int) <;> cases covL (h.drop (i + 1)) (j : Int) <;> rfl
def covV (vs : List S_api_Veto) (t : Int) : Bool := vs.any fun v => covL v.Segments t
theorem mg_len : ∀ (r : List S_api_Segment) (y : S_api_Segment), (mg y r).length ≤ r.length + 1
 | [], y => by rw [mg]; simp
 | x :: r, y => by
  rw [mg]
  split
  ·have := mg_len r ⟨y.From, max y.To x.To⟩
   simp; omega
  ·have := mg_len r x
   simp; omega
theorem held_len (n : Int) (l : List S_api_Segment) : (heldL n l).length ≤ l.length := by
 have h1 := cutS_len n l
 have h2 := sortBy_len (fun a : S_api_Segment => a.From) (cutS n l)
 unfold heldL
 cases e : sortBy (fun a : S_api_Segment => a.From) (cutS n l) with
 | nil => simp [mg0]
 | cons x r =>
  rw [e] at h2
  have := mg_len r x
  rw [mg0]
  simp at h2
  omega
theorem quf3 (F : Nat) (hF : 1000 < F) (h1 : 1 ≤ c4.length) (h2 : c4.length ≤ 512) (vs : List S_api_Veto) (hvs : vs.length ≤ 12) (hv : ∀ v ∈ vs, VOK F v) : ∀ (k N i : Nat) (p : Int → Bool), k = vs.length - i → i ≤ vs.length → k < N → run_plan_quiet_3 F N vs vs.length i c0 c1 c2 c3 c4 c5 (QL p c4.length) = some (QL (fun t => p t && !covV (vs.drop i) t) c4.length)
 | k, 0, i, p, _, _, h => by omega
 | 0, N + 1, i, p, hk, hi, _ => by
  rw [run_plan_quiet_3, bif_neg' (by omega), List.drop_of_length_le (by omega : vs.length ≤ i)]
  congr 1
  exact QL_congr _ _ _ fun i _ => by simp [covV]
 | k + 1, N + 1, i, p, hk, hi, hN => by
  obtain ⟨x, hx⟩ := get_lt (l := vs) (i := i) (by omega)
  have hxv := hv x (List.mem_of_getElem? hx)
  obtain ⟨g1, g2, _⟩ := held_all c4.length x.Segments fun s hs => (hxv.all s hs).1
  have gl := held_len (c4.length : Int) x.Segments
  have gx := hxv.len
  rw [run_plan_quiet_3, bif_pos' (by omega), idx_nat, hx, bnd_eq]
  unfold run_plan_span
  rw [bnd_eq]
  show bnd (glitch_Held F x (c4.length : Int)) _ = _
  rw [Held_eq F hF x hxv c4.length (by omega) (by omega), bnd_eq]
  have := quf4 c0 c1 c2 c3 c4 c5 F (run_plan_quiet_3 F N) vs vs.length i c4.length (heldL c4.length x.Segments) (by omega) g1 (heldL c4.length x.Segments).length F 0 p rfl (by omega) (by omega)
  refine Eq.trans this ?_
  rw [up (by omega), List.drop_zero, quf3 F hF h1 h2 vs hvs hv k N (i + 1) _ (by omega) (by omega) (by omega), drop_get hx]
  congr 1
  refine QL_congr _ _ _ fun j hj => ?_
  have e : covV (x :: vs.drop (i + 1)) (j : Int) = (covL x.Segments j || covV (vs.drop (i + 1)) j) := rfl
  rw [e, g2 j (by omega)]
  cases p (j : Int) <;> cases covL x.Segments (j : Int) <;> cases covV (vs.drop (i + 1)) (j : Int) <;> rfl
end
def vetoesOf (p : S_run_plan) (d : Int) : List S_api_Veto := if d = 0 then p.vetoes.e0 else p.vetoes.e1
theorem quiet_eq (F : Nat) (hF : 1000 < F) (p : S_run_plan) (g : Good F p) (hw : p.work = []) (d : Int) (hd : d = 0 ∨ d = 1) : run_plan_quiet F p d = some (QL (fun t => !covV (vetoesOf p d) t) p.data.e0.length) := by
 have g1 := g.one
 have g2 := g.top
 unfold run_plan_quiet run_plan_span
 rw [bnd_eq, rpf F hF p.data.e0.length g1 g2, bnd_eq, hw]
 obtain ⟨G, hG⟩ : ∃ G, F = G + 1 := ⟨F - 1, by omega⟩
 conv => lhs; arg 2; rw [hG]
 rw [run_plan_quiet_1, bif_neg' (by simp)]
 have fin : ∀ vs, QL (fun t => (fun _ => true) t && !covV (List.drop 0 vs) t) p.data.e0.length = QL (fun t => !covV vs t) p.data.e0.length := fun vs => QL_congr _ _ _ fun i _ => by simp
 rcases hd with rfl | rfl
 ·rw [show ((0 : Int) == 0) = true from rfl, cond_true]
  have := quf3 p.duties [] p.vetoes.e0 p.vetoes.e1 p.data.e0 p.data.e1 F hF g1 g2 p.vetoes.e0 g.v0.2.1 g.v0.2.2 p.vetoes.e0.length F 0 (fun _ => true) rfl (by omega) (by have := g.v0.2.1; omega)
  rw [fin] at this
  exact this
 ·rw [show ((1 : Int) == 0) = false from rfl, cond_false, show ((1 : Int) == 1) = true from rfl, cond_true]
  have := quf3 p.duties [] p.vetoes.e0 p.vetoes.e1 p.data.e0 p.data.e1 F hF g1 g2 p.vetoes.e1 g.v1.2.1 g.v1.2.2 p.vetoes.e1.length F 0 (fun _ => true) rfl (by omega) (by have := g.v1.2.1; omega)
  rw [fin] at this
  exact this
end Go.Ev.RunVetoed
