/- For which times a plan is quiet, in full; what vetoes pass. -/
import Derived.Test.YtajnglhkdglglaaGreatDoorRunWatchesMath5
namespace Go.Ev.RunWatches
open Go Go.Ev Go.Proofs
set_option linter.unusedVariables false
theorem gisF (F : Nat) (a b c : Int) : Xs F a b c = some (inR a b c) := by
 unfold Xs inR Gl
 by_cases h : a ≤ b <;> simp [h]
theorem one_veto (F : Nat) (hF : 1000 < F) (v : T2) (hv : VOK F v) : Qi F [v] = some true := by
 obtain ⟨G, rfl⟩ : ∃ G, F = G + 2 := ⟨F - 2, by omega⟩
 unfold Qi
 rw [Tq (by simp)]
 have e0 : w64 ((0 : Int) + 1) = 1 := by decide
 rw [Tw, Tp (by simp)]
 show bnd (some v) _ = _
 rw [Td, Vq (G + 2) (by omega), Td, hv.name]
 show J1 (G + 2) (Tw (G + 2) (G + 1)) [v] ([v] : List T2).length 0 (mget eqB false [] v.Name) v.Name v.Segments [] = _
 have em : mget eqB false ([] : List ((List UInt8) × Bool)) v.Name = false := rfl
 rw [em]
 unfold J1 Jp
 rw [cond_false, hv.segs, Td, Bool.not_true, cond_false, e0, Tw, Tq (by simp)]
theorem span_ok (F : Nat) (l : List T2) (hl : Qi F l = some true) (n : Int) (h1 : 1 ≤ n) (h2 : n ≤ 512) : Gc F l n = some 0 := by
 have e : inR 1 n 1073741824 = true := inR_iff.2 ⟨h1, by omega⟩
 unfold Gc Yl
 rw [hl, Td, Bool.not_true, cond_false, gisF, e, Td, Td, Bool.not_true, cond_false]
theorem Held_eq (F : Nat) (hF : 1000 < F) (v : T2) (hv : VOK F v) (n : Int) (h1 : 1 ≤ n) (h2 : n ≤ 512) : Y0 F v n = some (Zv n v.Segments, 0) := by
 have := hv.len
 unfold Y0
 rw [span_ok F [v] (one_veto F hF v hv) n h1 h2, Td]
 show bnd (Yw F v.Segments n) _ = _
 rw [held_eq F (by omega) n v.Segments (by omega), Td]
theorem mul0 : ∀ n : Fin 513, V7 0 1 (n.val : Int) = some (0, (n.val : Int)) := by decide +kernel
theorem mul1 (F n : Nat) (h : n ≤ 512) : V7 F 1 (n : Int) = some (0, (n : Int)) := mul0 ⟨n, by omega⟩
def QL (p : Int → Bool) (n : Nat) : List Bool := (List.range n).map fun i : Nat => p (i : Int)
theorem Zj (p : Int → Bool) (n : Nat) : (QL p n).length = n := by simp [QL]
theorem Vc (p : Int → Bool) (n i : Nat) (h : i < n) : (QL p n)[i]? = some (p (i : Int)) := by simp [QL, h]
theorem QL_ext (l : List Bool) (p : Int → Bool) (n : Nat) (hl : l.length = n) (h : ∀ i : Nat, i < n → l[i]? = some (p (i : Int))) : l = QL p n := by
 apply List.ext_getElem?
 intro i
 by_cases hi : i < n
 ·rw [h i hi, Vc p n i hi]
 ·rw [List.getElem?_eq_none (by omega), List.getElem?_eq_none (by rw [Zj]; omega)]
theorem Zo (p q : Int → Bool) (n : Nat) (h : ∀ i : Nat, i < n → p (i : Int) = q (i : Int)) : QL p n = QL q n :=
 QL_ext _ q n (Zj p n) fun i hi => by rw [Vc p n i hi, h i hi]
theorem rpf4 (F n : Nat) (hn : n ≤ 512) : ∀ (N v : Nat) (l : List Bool), l.length = n → 1 ≤ v → v ≤ n → n - v < N → (∀ i : Nat, i < v → l[i]? = some true) → K8 F N v l = some (QL (fun _ => true) n)
 | 0, v, l, _, _, _, h, _ => by omega
 | N + 1, v, l, hl, h1, h2, h3, hp => by
  by_cases h : v = n
  ·rw [K8, Tq (by omega), QL_ext l (fun _ => true) n hl fun i hi => hp i (by omega)]
  ·rw [K8, Tp (by omega), subP_ok (a := v) (b := l.length) rfl rfl (by omega) (by omega), Td, subP_ok (a := 0) (b := v) (lo := 0) (hi := (v : Int)) rfl rfl (by omega) (by omega), Td, parL_ok (by simp; omega), Td]
   have etk : ((l.drop (0 + 0)).take (v - 0)).length = v := by simp; omega
   have e : ∃ l', cpyP l (0 + v) (l.length - v) ((l.drop (0 + 0)).take (v - 0)) = some l' ∧ l'.length = n ∧ ∀ i : Nat, i < v + min v (n - v) → l'[i]? = some true := by
    unfold cpyP
    have e1 : (decide (0 < l.length - v) && decide (0 + v + (l.length - v) ≤ l.length)) = true := by
     rw [decide_eq_true (by omega), decide_eq_true (by omega)]; rfl
    rw [e1, cond_true]
    refine ⟨_, rfl, by simp; omega, fun i hi => ?_⟩
    by_cases hiv : i < v
    ·rw [List.getElem?_append_left (by simp; omega), List.getElem?_take_of_lt (by omega)]
     exact hp i hiv
    ·rw [List.getElem?_append_right (by simp; omega), List.getElem?_append_left (by simp; omega), List.getElem?_take_of_lt (by simp; omega), List.getElem?_take_of_lt (by simp; omega)]
     simp only [Nat.add_zero, List.drop_zero]
     exact hp _ (by simp; omega)
   obtain ⟨l', hl', hn', hp'⟩ := e
   rw [hl', Td]
   have e2 : w64 ((v : Int) + ((min ((l.drop (0 + 0)).take (v - 0)).length (l.length - v) : Nat) : Int)) = ((v + min v (n - v) : Nat) : Int) := by
    rw [etk, hl, Xu (by omega) (by omega)]
    omega
   rw [e2]
   exact rpf4 F n hn N (v + min v (n - v)) l' hn' (by omega) (by omega) (by omega) hp'
theorem rpf (F : Nat) (hF : 1000 < F) (n : Nat) (h1 : 1 ≤ n) (h2 : n ≤ 512) : Xh F [true] n = some (QL (fun _ => true) n) := by
 unfold Xh Xe
 rw [Tq (by omega)]
 have e1 : IntKind.wrap .u64 (([true] : List Bool).length : Int) = 1 := by decide
 have e2 : IntKind.wrap .u64 (n : Int) = n := Zg .u64 (n : Int) (by show (0 : Int) ≤ _; omega) (by show (n : Int) ≤ 18446744073709551615; omega)
 rw [e1, e2, mul1 F n h2, Td, Tq (by simp)]
 have e3 : decide ((9223372036854775807 : Int) < (n : Int)) = false := decide_eq_false (by omega)
 show G6 F [true] (n : Int) (decide ((9223372036854775807 : Int) < (n : Int))) = _
 rw [e3]
 unfold G6 Xq
 rw [cond_false, Xu (by omega) (by omega), mk_ok (by omega) (by omega), Td]
 have e4 : ∃ l', cpyA (List.replicate n false) [true] = some l' ∧ l'.length = n ∧ ∀ i : Nat, i < 1 → l'[i]? = some true := by
  unfold cpyA
  refine ⟨_, rfl, by simp; omega, fun i hi => ?_⟩
  obtain rfl : i = 0 := by omega
  have : min ([true] : List Bool).length (List.replicate n false).length = 1 := by simp; omega
  rw [this]
  rfl
 obtain ⟨l', hl', hn', hp'⟩ := e4
 rw [hl', Td]
 have e5 : ((min ([true] : List Bool).length (List.replicate n false).length : Nat) : Int) = ((1 : Nat) : Int) := by
  simp; omega
 rw [e5]
 exact rpf4 F n h2 F 1 l' hn' (by omega) h1 (by omega) hp'
theorem clr_q (p : Int → Bool) (n : Nat) (s : T0) (hs : InS n s) : ∃ a, subP n s.From s.To = some a ∧ clrP (QL p n) (0 + a.1) a.2 false = some (QL (fun t => p t && !covS s t) n) := by
 obtain ⟨h1, h2, h3⟩ := hs
 refine ⟨_, subP_ok (a := s.From.toNat) (b := s.To.toNat) (by omega) (by omega) (by omega) (by omega), ?_⟩
 unfold clrP
 have e1 : (decide (0 < s.To.toNat - s.From.toNat) && decide (0 + s.From.toNat + (s.To.toNat - s.From.toNat) ≤ (QL p n).length)) = true := by
  rw [decide_eq_true (by omega), decide_eq_true (by rw [Zj]; omega)]; rfl
 rw [e1, cond_true]
 congr 1
 have hlq := Zj p n
 refine QL_ext _ _ n (by simp [hlq]; omega) fun i hi => ?_
 have key : ∀ b : Bool, covS s (i : Int) = b → (p (i : Int) && !covS s (i : Int)) = (p (i : Int) && !b) := fun b hb => by rw [hb]
 by_cases c1 : i < s.From.toNat
 ·rw [List.getElem?_append_left (by simp [hlq]; omega), List.getElem?_take_of_lt (by omega), Vc p n i hi]
  rw [key false (by unfold covS; rw [decide_eq_false (by omega)]; rfl)]
  simp
 ·by_cases c2 : i < s.To.toNat
  ·rw [List.getElem?_append_right (by simp [hlq]; omega), List.getElem?_append_left (by simp [hlq]; omega)]
   rw [key true (by unfold covS; rw [decide_eq_true (by omega), decide_eq_true (by omega)]; rfl)]
   rw [List.getElem?_replicate, if_pos (by simp [hlq]; omega)]
   simp
  ·rw [List.getElem?_append_right (by simp [hlq]; omega), List.getElem?_append_right (by simp [hlq]; omega), List.getElem?_drop]
   rw [key false (by unfold covS; rw [decide_eq_false (show ¬ (i : Int) < s.To by omega), Bool.and_false])]
   have e : 0 + s.From.toNat + (s.To.toNat - s.From.toNat) + (i - (List.take (0 + s.From.toNat) (QL p n)).length - (List.replicate (s.To.toNat - s.From.toNat) false).length) = i := by
    simp [hlq]; omega
   rw [e, Vc p n i hi]
   simp
section
variable (c0 : List T1) (c1 : List T0) (c2 c3 : List T2) (c4 c5 : List Int)
theorem quf4 (F : Nat) (hd : (List T2) → Int → Int → (List T1) → (List T0) → (List T2) → (List T2) → (List Int) → (List Int) → (List Bool) → Option ((List Bool))) (vs : List T2) (vn vi : Int) (n : Nat) (h : List T0) (hh : h.length ≤ 400) (hb : ∀ s ∈ h, InS n s) : ∀ (k N i : Nat) (p : Int → Bool), k = h.length - i → i ≤ h.length → k < N → Ju F hd N h.length i vs vn vi c0 c1 c2 c3 c4 c5 (QL p n) h = hd vs vn (w64 (vi + 1)) c0 c1 c2 c3 c4 c5 (QL (fun t => p t && !covL (h.drop i) t) n)
 | k, 0, i, p, _, _, h => by omega
 | 0, N + 1, i, p, hk, hi, _ => by
  rw [Ju, Tq (by omega), List.drop_of_length_le (by omega : h.length ≤ i)]
  congr 1
  exact Zo _ _ n fun i _ => by simp [covL]
 | k + 1, N + 1, i, p, hk, hi, hN => by
  obtain ⟨x, hx⟩ := K6 (l := h) (i := i) (by omega)
  obtain ⟨a, ha, hc⟩ := clr_q p n x (hb x (List.mem_of_getElem? hx))
  rw [Ju, Tp (by omega), Qg, hx, Td, Zj, ha, Td, hc, Td, up (by omega), quf4 F hd vs vn vi n h hh hb k N (i + 1) _ (by omega) (by omega) (by omega), Qw hx]
  congr 1
  refine Zo _ _ n fun j _ => ?_
  have e : covL (x :: h.drop (i + 1)) (j : Int) = (covS x j || covL (h.drop (i + 1)) j) := rfl
  rw [e]
  cases p (j : Int) <;> cases covS x (j : Int) <;> cases covL (h.drop (i + 1)) (j : Int) <;> rfl
def covV (vs : List T2) (t : Int) : Bool := vs.any fun v => covL v.Segments t
theorem mg_len : ∀ (r : List T0) (y : T0), (mg y r).length ≤ r.length + 1
 | [], y => by rw [mg]; simp
 | x :: r, y => by
  rw [mg]
  split
  ·have := mg_len r ⟨y.From, max y.To x.To⟩
   simp; omega
  ·have := mg_len r x
   simp; omega
theorem held_len (n : Int) (l : List T0) : (Zv n l).length ≤ l.length := by
 have h1 := cutS_len n l
 have h2 := Yt (fun a : T0 => a.From) (Vs n l)
 unfold Zv
 cases e : Ga (fun a : T0 => a.From) (Vs n l) with
 | nil => simp [mg0]
 | cons x r =>
  rw [e] at h2
  have := mg_len r x
  rw [mg0]
  simp at h2
  omega
theorem quf3 (F : Nat) (hF : 1000 < F) (h1 : 1 ≤ c4.length) (h2 : c4.length ≤ 512) (vs : List T2) (hvs : vs.length ≤ 12) (hv : ∀ v ∈ vs, VOK F v) : ∀ (k N i : Nat) (p : Int → Bool), k = vs.length - i → i ≤ vs.length → k < N → Qu F N vs vs.length i c0 c1 c2 c3 c4 c5 (QL p c4.length) = some (QL (fun t => p t && !covV (vs.drop i) t) c4.length)
 | k, 0, i, p, _, _, h => by omega
 | 0, N + 1, i, p, hk, hi, _ => by
  rw [Qu, Tq (by omega), List.drop_of_length_le (by omega : vs.length ≤ i)]
  congr 1
  exact Zo _ _ _ fun i _ => by simp [covV]
 | k + 1, N + 1, i, p, hk, hi, hN => by
  obtain ⟨x, hx⟩ := K6 (l := vs) (i := i) (by omega)
  have hxv := hv x (List.mem_of_getElem? hx)
  obtain ⟨g1, g2, _⟩ := held_all c4.length x.Segments fun s hs => (hxv.all s hs).1
  have gl := held_len (c4.length : Int) x.Segments
  have gx := hxv.len
  rw [Qu, Tp (by omega), Qg, hx, Td]
  unfold Jb
  rw [Td]
  show bnd (Y0 F x (c4.length : Int)) _ = _
  rw [Held_eq F hF x hxv c4.length (by omega) (by omega), Td]
  have := quf4 c0 c1 c2 c3 c4 c5 F (Qu F N) vs vs.length i c4.length (Zv c4.length x.Segments) (by omega) g1 (Zv c4.length x.Segments).length F 0 p rfl (by omega) (by omega)
  refine Eq.trans this ?_
  rw [up (by omega), List.drop_zero, quf3 F hF h1 h2 vs hvs hv k N (i + 1) _ (by omega) (by omega) (by omega), Qw hx]
  congr 1
  refine Zo _ _ _ fun j hj => ?_
  have e : covV (x :: vs.drop (i + 1)) (j : Int) = (covL x.Segments j || covV (vs.drop (i + 1)) j) := rfl
  rw [e, g2 j (by omega)]
  cases p (j : Int) <;> cases covL x.Segments (j : Int) <;> cases covV (vs.drop (i + 1)) (j : Int) <;> rfl
end
def Ql (p : Tz) (d : Int) : List T2 := if d = 0 then p.vetoes.e0 else p.vetoes.e1
end Go.Ev.RunWatches
namespace Go.Ev.RunWatches
open Go Go.Ev Go.Proofs
set_option linter.unusedVariables false
theorem quf1 (F : Nat) (hF : 1000 < F) (p : Tz) (g : Good F p) (d : Int) (hd : d = 0 ∨ d = 1) : ∀ (k N i : Nat) (f : Int → Bool), k = p.work.length - i → i ≤ p.work.length → k < N → Jt F N p.work p.work.length i d p.duties p.work p.vetoes.e0 p.vetoes.e1 p.data.e0 p.data.e1 (QL f p.data.e0.length) = some (QL (fun t => (f t && !covL (p.work.drop i) t) && !covV (Ql p d) t) p.data.e0.length)
 | k, 0, i, f, _, _, h => by omega
 | 0, N + 1, i, f, hk, hi, _ => by
  have g1 := g.one
  have g2 := g.top
  rw [Jt, Tq (by omega), List.drop_of_length_le (by omega : p.work.length ≤ i)]
  have fin : ∀ vs, QL (fun t => f t && !covV (List.drop 0 vs) t) p.data.e0.length = QL (fun t => (f t && !covL [] t) && !covV vs t) p.data.e0.length := fun vs => Zo _ _ _ fun i _ => by simp [covL]
  rcases hd with rfl | rfl
  ·rw [show ((0 : Int) == 0) = true from rfl, cond_true]
   have := quf3 p.duties p.work p.vetoes.e0 p.vetoes.e1 p.data.e0 p.data.e1 F hF g1 g2 p.vetoes.e0 g.v0.2.1 g.v0.2.2 p.vetoes.e0.length F 0 f rfl (by omega) (by have := g.v0.2.1; omega)
   rw [fin] at this
   exact this
  ·rw [show ((1 : Int) == 0) = false from rfl, cond_false, show ((1 : Int) == 1) = true from rfl, cond_true]
   have := quf3 p.duties p.work p.vetoes.e0 p.vetoes.e1 p.data.e0 p.data.e1 F hF g1 g2 p.vetoes.e1 g.v1.2.1 g.v1.2.2 p.vetoes.e1.length F 0 f rfl (by omega) (by have := g.v1.2.1; omega)
   rw [fin] at this
   exact this
 | k + 1, N + 1, i, f, hk, hi, hN => by
  obtain ⟨x, hx⟩ := K6 (l := p.work) (i := i) (by omega)
  obtain ⟨a, ha, hc⟩ := clr_q f p.data.e0.length x (g.work.2 x (List.mem_of_getElem? hx))
  have gw := g.work.1
  rw [Jt, Tp (by omega), Qg, hx, Td, Zj, ha, Td, hc, Td, up (by omega), quf1 F hF p g d hd k N (i + 1) _ (by omega) (by omega) (by omega), Qw hx]
  congr 1
  refine Zo _ _ _ fun j _ => ?_
  have e : covL (x :: p.work.drop (i + 1)) (j : Int) = (covS x j || covL (p.work.drop (i + 1)) j) := rfl
  rw [e]
  cases f (j : Int) <;> cases covS x (j : Int) <;> cases covL (p.work.drop (i + 1)) (j : Int) <;> cases covV (Ql p d) (j : Int) <;> rfl
def quP (work : List T0) (vs : List T2) (t : Int) : Bool := !covL work t && !covV vs t
theorem Zq (F : Nat) (hF : 1000 < F) (p : Tz) (g : Good F p) (d : Int) (hd : d = 0 ∨ d = 1) : K7 F p d = some (QL (quP p.work (Ql p d)) p.data.e0.length) := by
 have g1 := g.one
 have g2 := g.top
 have := quf1 F hF p g d hd p.work.length F 0 (fun _ => true) rfl (by omega) (by have := g.work.1; omega)
 unfold K7 Jb
 rw [Td, rpf F hF p.data.e0.length g1 g2, Td]
 exact this
theorem rhol1 (F : Nat) (l : List T0) (hl : l.length ≤ 1000) (t : Int) : ∀ (k N i : Nat), k = l.length - i → i ≤ l.length → k < N → Jm F N l t i = some (covL (l.drop i) t)
 | k, 0, i, _, _, h => by omega
 | 0, N + 1, i, hk, hi, _ => by
  rw [Jm, Tq (by omega), List.drop_of_length_le (by omega : l.length ≤ i)]
  rfl
 | k + 1, N + 1, i, hk, hi, hN => by
  obtain ⟨x, hx⟩ := K6 (l := l) (i := i) (by omega)
  have e : covL (x :: l.drop (i + 1)) t = ((decide (x.From ≤ t) && decide (t < x.To)) || covL (l.drop (i + 1)) t) := rfl
  rw [Jm, Tp (by omega), Qg, hx, Td, Td, Qw hx, e]
  unfold Xr
  rw [up (by omega), rhol1 F l hl t k N (i + 1) (by omega) (by omega) (by omega)]
  cases decide (x.From ≤ t) <;> cases decide (t < x.To) <;> rfl
theorem rhol (F : Nat) (hF : 1000 < F) (l : List T0) (hl : l.length ≤ 1000) (t : Int) : X5 F l t = some (covL l t) := by
 have := rhol1 F l hl t l.length F 0 rfl (by omega) (by omega)
 rw [List.drop_zero] at this
 exact this
section
variable (c0 : List T1) (c1 : List T0) (c2 c3 : List T2) (c4 c5 : List Int)
theorem rqu1 (F : Nat) (hF : 1000 < F) (d : Int) (hd : d = 0 ∨ d = 1) (t : Int) (hw : c1.length ≤ 1000) (vs : List T2) (hvs : vs = if d = 0 then c2 else c3) (hl : vs.length ≤ 12) (hv : ∀ v ∈ vs, v.Segments.length ≤ 32) : ∀ (k N i : Nat), k = vs.length - i → i ≤ vs.length → k < N → Jl F N d t i c0 c1 c2 c3 c4 c5 = some (!covL c1 t && !covV (vs.drop i) t)
 | k, 0, i, _, _, h => by omega
 | 0, N + 1, i, hk, hi, _ => by
  rw [Jl, List.drop_of_length_le (by omega : vs.length ≤ i)]
  have fin : ∀ b, (some (!b) : Option Bool) = some (!b && !covV [] t) := fun b => by cases b <;> rfl
  rcases hd with rfl | rfl
  ·have hv' : vs = c2 := hvs
   subst hv'
   rw [show ((0 : Int) == 0) = true from rfl, cond_true]
   unfold Xg
   rw [Tq (by omega), rhol F hF c1 hw t, Td]
   exact fin _
  ·have hv' : vs = c3 := hvs
   subst hv'
   rw [show ((1 : Int) == 0) = false from rfl, cond_false, show ((1 : Int) == 1) = true from rfl, cond_true]
   unfold Xi
   rw [Tq (by omega), rhol F hF c1 hw t, Td]
   exact fin _
 | k + 1, N + 1, i, hk, hi, hN => by
  obtain ⟨x, hx⟩ := K6 (l := vs) (i := i) (by omega)
  have hxl := hv x (List.mem_of_getElem? hx)
  have ih := rqu1 F hF d hd t hw vs hvs hl hv k N (i + 1) (by omega) (by omega) (by omega)
  have e : covV (x :: vs.drop (i + 1)) t = (covL x.Segments t || covV (vs.drop (i + 1)) t) := rfl
  rw [Jl, Qw hx, e]
  rcases hd with rfl | rfl
  ·have hv' : vs = c2 := hvs
   subst hv'
   rw [show ((0 : Int) == 0) = true from rfl, cond_true]
   unfold Xg Xf
   rw [Tp (by omega), show ((0 : Int) == 0) = true from rfl, cond_true, Qg, hx, Td, rhol F hF x.Segments (by omega) t, Td, up (by omega), ih]
   cases covL c1 t <;> cases covL x.Segments t <;> rfl
  ·have hv' : vs = c3 := hvs
   subst hv'
   rw [show ((1 : Int) == 0) = false from rfl, cond_false, show ((1 : Int) == 1) = true from rfl, cond_true]
   unfold Xi Xk
   rw [Tp (by omega), show ((1 : Int) == 0) = false from rfl, cond_false, show ((1 : Int) == 1) = true from rfl, cond_true, Qg, hx, Td, rhol F hF x.Segments (by omega) t, Td, up (by omega), ih]
   cases covL c1 t <;> cases covL x.Segments t <;> rfl
end
theorem rqu (F : Nat) (hF : 1000 < F) (a : Th) (g : Good F (Ji a)) (d : Int) (hd : d = 0 ∨ d = 1) (t : Int) : K5 F a d t = some (quP a.Work (Ql (Ji a) d) t) := by
 have hw : a.Work.length ≤ 16 := g.work.1
 have hv : (Ql (Ji a) d).length ≤ 12 ∧ ∀ v ∈ Ql (Ji a) d, v.Segments.length ≤ 32 := by
  rcases hd with rfl | rfl
  ·exact ⟨g.v0.2.1, fun v h => (g.v0.2.2 v h).len⟩
  ·exact ⟨g.v1.2.1, fun v h => (g.v1.2.2 v h).len⟩
 have := rqu1 a.Duties a.Work a.Vetoes.e0 a.Vetoes.e1 a.Data.e0 a.Data.e1 F hF d hd t (by omega) (Ql (Ji a) d) rfl hv.1 hv.2 (Ql (Ji a) d).length F 0 rfl (by omega) (by omega)
 rw [List.drop_zero] at this
 exact this
theorem QL_snoc (p : Int → Bool) (n : Nat) : QL p (n + 1) = QL p n ++ [p (n : Int)] := by
 unfold QL
 rw [List.range_succ, List.map_append]
 rfl
theorem rQu1 (F : Nat) (hF : 1000 < F) (a : Th) (g : Good F (Ji a)) (d : Int) (hd : d = 0 ∨ d = 1) : ∀ (k N i : Nat), k = a.Data.e0.length - i → i ≤ a.Data.e0.length → k < N → Kx F N d i a.Duties a.Work a.Vetoes.e0 a.Vetoes.e1 a.Data.e0 a.Data.e1 (QL (quP a.Work (Ql (Ji a) d)) i) = some (QL (quP a.Work (Ql (Ji a) d)) a.Data.e0.length, 0)
 | k, 0, i, _, _, h => by omega
 | 0, N + 1, i, hk, hi, _ => by
  obtain rfl : i = a.Data.e0.length := by omega
  rw [Kx, Tq (by omega)]
 | k + 1, N + 1, i, hk, hi, hN => by
  have g2 : a.Data.e0.length ≤ 512 := g.top
  have hl := Zj (quP a.Work (Ql (Ji a) d)) i
  have ih := rQu1 F hF a g d hd k N (i + 1) (by omega) (by omega) (by omega)
  rw [QL_snoc] at ih
  rw [Kx, Tp (by omega)]
  show bnd (K5 F a d i) _ = _
  rw [rqu F hF a g d hd i, Td, Vv (by simp [hl]; omega) (by omega), Td, up (by omega)]
  exact ih
theorem sameB1 (F : Nat) (l : List Bool) (hl : l.length ≤ 1000) : ∀ (k N i : Nat), k = l.length - i → i ≤ l.length → k < N → Jj F N l l i = some true
 | k, 0, i, _, _, h => by omega
 | 0, N + 1, i, hk, hi, _ => by rw [Jj, Tq (by omega)]
 | k + 1, N + 1, i, hk, hi, hN => by
  obtain ⟨x, hx⟩ := K6 (l := l) (i := i) (by omega)
  rw [Jj, Tp (by omega), Qg, hx, Td, Td, beq_self_eq_true, Bool.not_true, cond_false, up (by omega)]
  exact sameB1 F l hl k N (i + 1) (by omega) (by omega) (by omega)
theorem sameB (F : Nat) (hF : 1000 < F) (l : List Bool) (hl : l.length ≤ 1000) : Gn F l l = some true := by
 unfold Gn
 rw [beq_self_eq_true, Bool.not_true, cond_false]
 exact sameB1 F l hl l.length F 0 rfl (by omega) (by omega)
end Go.Ev.RunWatches
