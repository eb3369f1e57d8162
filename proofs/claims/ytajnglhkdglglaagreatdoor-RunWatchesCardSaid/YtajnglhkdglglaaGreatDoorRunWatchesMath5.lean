/- Plans that are valid, and what they keep; vetoes with them. -/
import Derived.Test.YtajnglhkdglglaaGreatDoorRunWatchesMath3
namespace Go.Ev.RunWatches
open Go Go.Ev Go.Proofs
set_option linter.unusedVariables false
theorem val1 (F : Nat) (l : List Int) (hl : l.length ≤ 512) : ∀ (k N i : Nat), k = l.length - i → i ≤ l.length → k < N → ∃ r, J4 F N l l.length i = some r
 | k, 0, i, _, _, h => by omega
 | 0, N + 1, i, hk, hi, _ => by
  rw [J4, Tq (by omega)]
  exact ⟨_, rfl⟩
 | k + 1, N + 1, i, hk, hi, hN => by
  obtain ⟨x, hx⟩ := K6 (l := l) (i := i) (by omega)
  obtain ⟨r, hr⟩ := val1 F l hl k N (i + 1) (by omega) (by omega) (by omega)
  rw [J4, Tp (by omega), Qg, hx, Td]
  unfold Ge
  rw [Xl, Td, Td, up (by omega), hr]
  cases inR (-4096) x 4096 <;> exact ⟨_, rfl⟩
theorem val_ex (F : Nat) (hF : 1000 < F) (l : List Int) (hl : l.length ≤ 512) : ∃ r, Gp F l = some r :=
 val1 F l hl l.length F 0 rfl (by omega) (by omega)
theorem smp_ex (F : Nat) (hF : 1000 < F) (d : Qn) : ∃ r, G5 F d = some r ∧ (r = true → 1 ≤ d.e0.length ∧ d.e0.length ≤ 512 ∧ d.e1.length = d.e0.length) := by
 unfold G5
 rw [Xl, Td]
 cases h : inR 1 (d.e0.length : Int) 512 with
 | false => exact ⟨false, rfl, fun h => by simp at h⟩
 | true =>
  rw [inR_iff] at h
  unfold Ks
  by_cases h2 : d.e1.length = d.e0.length
  ·have e : ((d.e1.length : Int) == (d.e0.length : Int)) = true := by simp [h2]
   rw [e, cond_true, cond_true]
   obtain ⟨r, hr⟩ := val_ex F hF d.e0 (by omega)
   obtain ⟨s, hs⟩ := val_ex F hF d.e1 (by omega)
   rw [hr, Td]
   unfold Ko Kq
   rw [hs, Td]
   cases r
   ·exact ⟨_, rfl, fun _ => by omega⟩
   ·exact ⟨_, rfl, fun _ => by omega⟩
  ·have e : ((d.e1.length : Int) == (d.e0.length : Int)) = false := by simp; omega
   rw [e, cond_true, cond_false]
   exact ⟨false, rfl, fun h => by simp at h⟩
def V2 (n : Int) : Int → List T1 → Prop
 | a, [] => a = n
 | a, d :: r => d.From = a ∧ a < d.To ∧ V2 n d.To r
theorem dut1 (F : Nat) (hF : 1000 < F) (n : Int) (l : List T1) (hl : l.length ≤ 64) : ∀ (k N i : Nat) (c : T1), k = l.length - i → i ≤ l.length → k < N → 0 ≤ c.To → c.To ≤ 128 * i → ∃ r, Q5 F N n l l.length i c = some r ∧ (r = true → V2 n c.To (l.drop i))
 | k, 0, i, c, _, _, h, _, _ => by omega
 | 0, N + 1, i, c, hk, hi, _, _, _ => by
  rw [Q5, Tq (by omega), List.drop_of_length_le (by omega : l.length ≤ i)]
  exact ⟨_, rfl, fun h => by simpa [V2] using h⟩
 | k + 1, N + 1, i, c, hk, hi, hN, h0, h1 => by
  obtain ⟨x, hx⟩ := K6 (l := l) (i := i) (by omega)
  rw [Q5, Tp (by omega), Qg, hx, Td, Vq F (by omega), Td, Qw hx]
  have key : ∀ b, ∃ r, Kl F (Q5 F N) n l l.length i b c x = some r ∧ (r = true → V2 n c.To (x :: l.drop (i + 1))) := by
   intro b
   have bad : ∀ b : Bool, ∃ r, G9 F (Q5 F N) n l l.length i true c x = some r ∧ (r = true → V2 n c.To (x :: l.drop (i + 1))) :=
    fun b => ⟨false, rfl, fun h => by simp at h⟩
   unfold Kl G7
   cases b with
   | true => exact bad true
   | false =>
    by_cases hf : x.From = c.To
    ·have e : (!(x.From == c.To)) = false := by simp [hf]
     rw [e, cond_false, cond_false, Xl, Td]
     cases hr : inR (w64 (x.From + 1)) x.To (w64 (x.From + 128)) with
     | false => exact bad true
     | true =>
      rw [Xu (by omega) (by omega), Xu (by omega) (by omega), inR_iff] at hr
      obtain ⟨r, a, d⟩ := dut1 F hF n l hl k N (i + 1) x (by omega) (by omega) (by omega) (by omega) (by omega)
      refine ⟨r, ?_, fun h => ⟨hf, by omega, d h⟩⟩
      show Q5 F N n l l.length (w64 ((i : Int) + 1)) x = some r
      rw [up (by omega), a]
    ·have e : (!(x.From == c.To)) = true := by simp [hf]
     rw [e, cond_false, cond_true]
     exact bad true
  cases Z3 x.Who with
  | false => exact key true
  | true => exact key _
theorem dut_ex (F : Nat) (hF : 1000 < F) (n : Int) (l : List T1) : ∃ r, Gb F l n = some r ∧ (r = true → V2 n 0 l ∧ l.length ≤ 64) := by
 unfold Gb
 by_cases h : l.length ≤ 64
 ·rw [Tq (by omega)]
  obtain ⟨r, hr, a⟩ := dut1 F hF n l h l.length F 0 (T1.mk [] 0 0) rfl (by omega) (by omega) (by exact Int.le_refl 0) (by exact Int.le_refl 0)
  exact ⟨r, hr, fun e => ⟨a e, h⟩⟩
 ·rw [Tp (by omega)]
  exact ⟨false, rfl, fun h => by simp at h⟩
theorem W3 (n : Int) : ∀ (l : List T1) (a : Int), V2 n a l → a ≤ n ∧ ∀ d ∈ l, d.To ≤ n
 | [], a, h => ⟨by have : a = n := h; omega, fun d hd => nomatch hd⟩
 | x :: r, a, h => by
  obtain ⟨h1, h2, h3⟩ := h
  obtain ⟨h4, h5⟩ := W3 n r x.To h3
  exact ⟨by omega, fun d hd => (List.mem_cons.1 hd).elim (fun e => by subst e; exact h4) (h5 d)⟩
theorem wrk4 (F : Nat) (l : List T1) (hl : l.length ≤ 64) (hd : List T1 → Int → List T0 → Int → Int → Option Bool) (ws : List T0) (wn wi : Int) (c : T0) {q : Bool} (hhd : hd l c.To ws wn (w64 (wi + 1)) = some q) : ∀ (k N i : Nat), k = l.length - i → i ≤ l.length → k < N → ∃ r, Qx F hd N l l.length i l ws wn wi false c = some r ∧ (r = true → q = true ∧ ∃ d ∈ l, c.To ≤ d.To)
 | k, 0, i, _, _, h => by omega
 | 0, N + 1, i, hk, hi, _ => by
  rw [Qx, Tq (by omega)]
  unfold Js
  exact ⟨false, rfl, fun h => by simp at h⟩
 | k + 1, N + 1, i, hk, hi, hN => by
  obtain ⟨x, hx⟩ := K6 (l := l) (i := i) (by omega)
  obtain ⟨r, hr, a⟩ := wrk4 F l hl hd ws wn wi c hhd k N (i + 1) (by omega) (by omega) (by omega)
  rw [Qx, Tp (by omega), Qg, hx, Td]
  have e : (!(decide ((0 : Int) ≤ (i : Int)))) = false := by simp
  unfold X8 Js
  rw [up (by omega), hr, hhd, e]
  cases e1 : decide (x.From ≤ c.From) with
  | false => exact ⟨r, rfl, a⟩
  | true =>
   cases e2 : decide (c.To ≤ x.To) with
   | false => exact ⟨r, rfl, a⟩
   | true => exact ⟨q, rfl, fun h => ⟨h, x, List.mem_of_getElem? hx, of_decide_eq_true e2⟩⟩
theorem wrk1 (F : Nat) (hF : 1000 < F) (ds : List T1) (hds : ds.length ≤ 64) (l : List T0) (hl : l.length ≤ 16) : ∀ (k N i : Nat) (last : Int), k = l.length - i → i ≤ l.length → k < N → 0 ≤ last → ∃ r, Qe F N ds last l l.length i = some r ∧ (r = true → ∀ s ∈ l.drop i, 0 ≤ s.From ∧ s.From < s.To ∧ ∃ d ∈ ds, s.To ≤ d.To)
 | k, 0, i, last, _, _, h, _ => by omega
 | 0, N + 1, i, last, hk, hi, _, _ => by
  rw [Qe, Tq (by omega), List.drop_of_length_le (by omega : l.length ≤ i)]
  exact ⟨_, rfl, fun _ s hs => nomatch hs⟩
 | k + 1, N + 1, i, last, hk, hi, hN, h0 => by
  obtain ⟨x, hx⟩ := K6 (l := l) (i := i) (by omega)
  have bad : ∃ r, Xa F (Qe F N) ds l l.length i true x = some r ∧ (r = true → ∀ s ∈ x :: l.drop (i + 1), 0 ≤ s.From ∧ s.From < s.To ∧ ∃ d ∈ ds, s.To ≤ d.To) := ⟨false, rfl, fun h => by simp at h⟩
  rw [Qe, Tp (by omega), Qg, hx, Td, Qw hx]
  cases e1 : decide (x.From < last) with
  | true => exact bad
  | false =>
   rw [cond_false]
   cases e2 : decide (x.To ≤ x.From) with
   | true => exact bad
   | false =>
    have h1 := of_decide_eq_false e1
    have h2 := of_decide_eq_false e2
    obtain ⟨r, hr, b⟩ := wrk1 F hF ds hds l hl k N (i + 1) x.To (by omega) (by omega) (by omega) (by omega)
    have hr' : Qe F N ds x.To l l.length (w64 ((i : Int) + 1)) = some r := by rw [up (by omega), hr]
    obtain ⟨q, hq, a⟩ := wrk4 F ds hds (Qe F N) l l.length i x hr' ds.length F 0 rfl (by omega) (by omega)
    refine ⟨q, hq, fun h s hs => ?_⟩
    obtain ⟨g1, g2⟩ := a h
    rcases List.mem_cons.1 hs with rfl | hs
    ·exact ⟨by omega, by omega, g2⟩
    ·exact b g1 s hs
theorem wrk_ex (F : Nat) (hF : 1000 < F) (ds : List T1) (hds : ds.length ≤ 64) (l : List T0) : ∃ r, Y2 F l ds = some r ∧ (r = true → l.length ≤ 16 ∧ ∀ s ∈ l, 0 ≤ s.From ∧ s.From < s.To ∧ ∃ d ∈ ds, s.To ≤ d.To) := by
 unfold Y2
 by_cases h : l.length ≤ 16
 ·rw [Tq (by omega)]
  obtain ⟨r, hr, a⟩ := wrk1 F hF ds hds l h l.length F 0 0 rfl (by omega) (by omega) (Int.le_refl _)
  exact ⟨r, hr, fun e => ⟨h, a e⟩⟩
 ·rw [Tp (by omega)]
  exact ⟨false, rfl, fun h => by simp at h⟩
theorem seg1 (F : Nat) (l : List T0) (hl : l.length ≤ 32) (f : Bool) : ∀ (k N i : Nat), k = l.length - i → i ≤ l.length → k < N → ∃ r, Q8 F N l l.length i f = some r ∧ (r = true → ∀ s ∈ l.drop i, 0 ≤ s.From ∧ s.From < s.To)
  | k, 0, i, _, _, h => by omega
  | 0, N + 1, i, hk, hi, _ => by
    rw [Q8, Tq (by omega), List.drop_of_length_le (by omega : l.length ≤ i)]
    unfold Qh
    cases f
    · exact ⟨_, rfl, fun _ s hs => nomatch hs⟩
    · exact ⟨_, rfl, fun _ s hs => nomatch hs⟩
  | k + 1, N + 1, i, hk, hi, hN => by
    obtain ⟨x, hx⟩ := K6 (l := l) (i := i) (by omega)
    obtain ⟨r, hr, a⟩ := seg1 F l hl f k N (i + 1) (by omega) (by omega) (by omega)
    rw [Q8, Tp (by omega), Qg, hx, Td, Qw hx]
    unfold Kd Ja J9 Qh
    rw [up (by omega), hr]
    have e : (!(decide ((0 : Int) ≤ (i : Int)))) = false := by simp
    rw [e]
    cases e1 : decide (0 ≤ x.From) <;> cases e2 : decide (x.From < x.To) <;> cases e3 : decide (x.To ≤ 1073741824) <;> first
      | (refine ⟨r, rfl, fun h s hs => ?_⟩
         rcases List.mem_cons.1 hs with rfl | hs
         · exact ⟨of_decide_eq_true e1, of_decide_eq_true e2⟩
         · exact a h s hs)
      | (cases f <;> exact ⟨false, rfl, fun h => by simp at h⟩)
theorem seg_ex (F : Nat) (hF : 40 < F) (l : List T0) : ∃ r, Jd F l = some r ∧ (r = true → l.length ≤ 32 ∧ ∀ s ∈ l, 0 ≤ s.From ∧ s.From < s.To) := by
 unfold Jd
 by_cases h : l.length ≤ 32
 ·rw [Tp (by omega)]
  obtain ⟨r, hr, a⟩ := seg1 F l h (decide ((l.length : Int) ≤ 32)) l.length F 0 rfl (by omega) (by omega)
  exact ⟨r, hr, fun e => ⟨h, a e⟩⟩
 ·rw [Tq (by omega)]
  exact ⟨false, rfl, fun h => by simp at h⟩
structure VOK (F : Nat) (v : T2) : Prop where
 name : Z3 v.Name = true
 segs : Jd F v.Segments = some true
 len : v.Segments.length ≤ 32
 all : ∀ s ∈ v.Segments, 0 ≤ s.From ∧ s.From < s.To
theorem vet1 (F : Nat) (hF : 40 < F) (l : List T2) (hl : l.length ≤ 12) : ∀ (k N i : Nat) (m : List ((List UInt8) × Bool)), k = l.length - i → i ≤ l.length → k < N → ∃ r, Tw F N l l.length i m = some r ∧ (r = true → ∀ v ∈ l.drop i, VOK F v)
 | k, 0, i, m, _, _, h => by omega
 | 0, N + 1, i, m, hk, hi, _ => by
  rw [Tw, Tq (by omega), List.drop_of_length_le (by omega : l.length ≤ i)]
  exact ⟨true, rfl, fun _ v hv => nomatch hv⟩
 | k + 1, N + 1, i, m, hk, hi, hN => by
  obtain ⟨x, hx⟩ := K6 (l := l) (i := i) (by omega)
  obtain ⟨s, hs, a⟩ := seg_ex F hF x.Segments
  obtain ⟨r, hr, c⟩ := vet1 F hF l hl k N (i + 1) (mput eqB m x.Name true) (by omega) (by omega) (by omega)
  have key : ∀ b, (b = false → Z3 x.Name = true) → ∃ q, J1 F (Tw F N) l l.length i b x.Name x.Segments m = some q ∧ (q = true → ∀ v ∈ x :: l.drop (i + 1), VOK F v) := by
   intro b hb
   unfold J1 Jp
   rw [hs, Td, up (by omega), hr]
   cases b with
   | true => exact ⟨false, rfl, fun h => by simp at h⟩
   | false =>
    cases s with
    | false => exact ⟨false, rfl, fun h => by simp at h⟩
    | true =>
     refine ⟨r, rfl, fun h v hv => ?_⟩
     rcases List.mem_cons.1 hv with rfl | hv
     ·exact ⟨hb rfl, hs, (a rfl).1, (a rfl).2⟩
     ·exact c h v hv
  rw [Tw, Tp (by omega), Qg, hx, Td, Vq F (by omega), Td, Qw hx]
  cases en : Z3 x.Name with
  | false => exact key true (fun h => by simp at h)
  | true => exact key _ (fun _ => en)
theorem vet_ex (F : Nat) (hF : 40 < F) (l : List T2) : ∃ r, Qi F l = some r ∧ (r = true → l.length ≤ 12 ∧ ∀ v ∈ l, VOK F v) := by
 unfold Qi
 by_cases h : l.length ≤ 12
 ·rw [Tq (by omega)]
  obtain ⟨r, hr, a⟩ := vet1 F hF l h l.length F 0 [] rfl (by omega) (by omega)
  exact ⟨r, hr, fun e => ⟨h, a e⟩⟩
 ·rw [Tp (by omega)]
  exact ⟨false, rfl, fun h => by simp at h⟩
theorem cvt_ex (F : Nat) (hF : 40 < F) (l : List T2) : ∃ r, Jn F l = some r ∧ (r = 0 → Qi F l = some true ∧ l.length ≤ 12 ∧ ∀ v ∈ l, VOK F v) := by
 obtain ⟨r, hr, a⟩ := vet_ex F hF l
 unfold Jn
 rw [hr, Td]
 cases r with
 | false => exact ⟨63, rfl, fun h => by simp at h⟩
 | true => exact ⟨0, rfl, fun _ => ⟨rfl, a rfl⟩⟩
structure Good (F : Nat) (p : Tz) : Prop where
 one : 1 ≤ p.data.e0.length
 top : p.data.e0.length ≤ 512
 same : p.data.e1.length = p.data.e0.length
 chain : V2 p.data.e0.length 0 p.duties
 many : p.duties.length ≤ 64
 work : p.work.length ≤ 16 ∧ ∀ s ∈ p.work, 0 ≤ s.From ∧ s.From < s.To ∧ s.To ≤ p.data.e0.length
 v0 : Qi F p.vetoes.e0 = some true ∧ p.vetoes.e0.length ≤ 12 ∧ ∀ v ∈ p.vetoes.e0, VOK F v
 v1 : Qi F p.vetoes.e1 = some true ∧ p.vetoes.e1.length ≤ 12 ∧ ∀ v ∈ p.vetoes.e1, VOK F v
theorem chk_ex (F : Nat) (hF : 1000 < F) (p : Tz) : ∃ r, J7 F p = some r ∧ (r = 0 → Good F p) := by
 obtain ⟨a, ha, g⟩ := smp_ex F hF p.data
 unfold J7
 rw [ha, Td]
 cases a with
 | false => exact ⟨110, rfl, fun h => by simp at h⟩
 | true =>
  obtain ⟨h1, h2, h3⟩ := g rfl
  obtain ⟨b, hb, j⟩ := dut_ex F hF p.data.e0.length p.duties
  unfold Jb
  simp only [Bool.not_true, cond_false, Td]
  rw [hb, Td]
  cases b with
  | false => exact ⟨111, rfl, fun h => by simp at h⟩
  | true =>
   obtain ⟨h4, h5⟩ := j rfl
   obtain ⟨c, hc, f⟩ := wrk_ex F hF p.duties h5 p.work
   rw [hc]
   simp only [Bool.not_true, cond_false, Td]
   cases c with
   | false => exact ⟨112, rfl, fun h => by simp at h⟩
   | true =>
    obtain ⟨d, hd, m⟩ := cvt_ex F (by omega) p.vetoes.e0
    obtain ⟨e, he, n⟩ := cvt_ex F (by omega) p.vetoes.e1
    obtain ⟨G, rfl⟩ : ∃ G, F = G + 3 := ⟨F - 3, by omega⟩
    have z1 : ((1 : Int) == 0) = false := rfl
    have z2 : w64 ((0 : Int) + 1) = 1 := by decide
    have z3 : w64 ((1 : Int) + 1) = 2 := by decide
    show ∃ r, Q7 (G + 3) (G + 3) p.vetoes.e0 p.vetoes.e1 0 = some r ∧ _
    rw [Q7, Tp (by decide), show ((0 : Int) == 0) = true from rfl, cond_true]
    unfold Jv
    rw [hd, Td]
    by_cases d0 : d = 0
    ·subst d0
     rw [show (!((0 : Int) == 0)) = false from rfl, cond_false, z2, Q7, Tp (by decide), z1, cond_false, show ((1 : Int) == 1) = true from rfl, cond_true]
     unfold Jv
     rw [he, Td]
     by_cases e0 : e = 0
     ·subst e0
      rw [show (!((0 : Int) == 0)) = false from rfl, cond_false, z3, Q7, Tq (by decide)]
      exact ⟨0, rfl, fun _ => ⟨h1, h2, h3, h4, h5, ⟨(f rfl).1, fun s hs => by
       obtain ⟨g1, g2, dd, g3, g4⟩ := (f rfl).2 s hs
       exact ⟨g1, g2, Int.le_trans g4 ((W3 _ _ _ h4).2 dd g3)⟩⟩, m rfl, n rfl⟩⟩
     ·rw [show (!(e == 0)) = true by simp [e0], cond_true]
      exact ⟨e, rfl, fun h => absurd h e0⟩
    ·rw [show (!(d == 0)) = true by simp [d0], cond_true]
     exact ⟨d, rfl, fun h => absurd h d0⟩
def Ji (p : Th) : Tz := Tz.mk p.Duties p.Work p.Vetoes p.Data
end Go.Ev.RunWatches
namespace Go.Ev.RunWatches
open Go Go.Ev Go.Proofs
set_option linter.unusedVariables false
def covS (s : T0) (t : Int) : Bool := decide (s.From ≤ t) && decide (t < s.To)
def covL (l : List T0) (t : Int) : Bool := l.any fun s => covS s t
def InS (n : Int) (s : T0) : Prop := 0 ≤ s.From ∧ s.From < s.To ∧ s.To ≤ n
def mg : T0 → List T0 → List T0
 | y, [] => [y]
 | y, x :: r => if x.From ≤ y.To then mg ⟨y.From, max y.To x.To⟩ r else y :: mg x r
def mg0 : List T0 → List T0
 | [] => []
 | x :: r => mg x r
theorem hef3 (F : Nat) (l : List T0) (hl : l.length ≤ 400) : ∀ (k N i : Nat) (pre : List T0) (y : T0), k = l.length - i → i ≤ l.length → k < N → pre.length + 1 ≤ i → J0 F N l.length i (pre ++ [y]) l = some (pre ++ mg y (l.drop i))
 | k, 0, i, pre, y, _, _, h, _ => by omega
 | 0, N + 1, i, pre, y, hk, hi, _, hp => by
  rw [J0, Tq (by omega), List.drop_of_length_le (by omega : l.length ≤ i), mg]
 | k + 1, N + 1, i, pre, y, hk, hi, hN, hp => by
  obtain ⟨x, hx⟩ := K6 (l := l) (i := i) (by omega)
  have hlen : (pre ++ [y]).length = pre.length + 1 := by simp
  have e : w64 (((pre ++ [y]).length : Int) - 1) = (pre.length : Int) := by
   rw [hlen, Xu (by omega) (by omega)]
   omega
  have hy : (pre ++ [y])[pre.length]? = some y := by simp
  rw [J0, Tp (by omega), Qg, hx, Td, e, Tp (by omega), Qg, hy, Td, Qw hx, mg]
  unfold Gr Gq
  rw [up (by omega)]
  by_cases h : x.From ≤ y.To
  ·rw [decide_eq_true h, cond_true, if_pos h, Qg, hy, Td, inn_at (by omega), Td, hy, Td, upd_at (by omega), Td]
   have es : (pre ++ [y]).set pre.length (T0.mk y.From (max y.To x.To)) = pre ++ [T0.mk y.From (max y.To x.To)] := by
    rw [List.set_append_right _ _ (Nat.le_refl _)]
    simp
   rw [es]
   exact hef3 F l hl k N (i + 1) pre _ (by omega) (by omega) (by omega) (by omega)
  ·rw [decide_eq_false h, cond_false, if_neg h, Vv (by simp; omega) (by omega), Td, hef3 F l hl k N (i + 1) (pre ++ [y]) x (by omega) (by omega) (by omega) (by simp; omega)]
   simp
theorem hef0 (F : Nat) (hF : 500 < F) (l : List T0) (hl : l.length ≤ 400) : J0 F F l.length 0 [] l = some (mg0 l) := by
 obtain ⟨G, hG⟩ : ∃ G, F = G + 1 := ⟨F - 1, by omega⟩
 cases l with
 | nil =>
  conv => lhs; arg 2; rw [hG]
  rw [J0, Tq (by simp), mg0]
 | cons x r =>
  have h1 := hef3 F (x :: r) hl r.length G 1 [] x (by simp) (by simp) (by simp at hl; omega) (by simp)
  conv => lhs; arg 2; rw [hG]
  rw [J0, Tp (by simp <;> omega)]
  show bnd (some x) _ = _
  have e : w64 ((([] : List T0).length : Int) - 1) = -1 := by decide
  rw [Td, e, Tq (by decide)]
  unfold Gr Gq
  rw [cond_false, Vv (by simp) (by omega), Td]
  have e2 : w64 ((0 : Int) + 1) = ((1 : Nat) : Int) := by decide
  rw [e2]
  exact h1
def Vs (n : Int) : List T0 → List T0
 | [] => []
 | s :: r => if s.From < min s.To n then ⟨s.From, min s.To n⟩ :: Vs n r else Vs n r
theorem cutS_len (n : Int) : ∀ l, (Vs n l).length ≤ l.length
 | [] => Nat.le_refl _
 | s :: r => by
  have := cutS_len n r
  rw [Vs]
  split
  ·simp; exact this
  ·simp; omega
theorem hef1 (F : Nat) (hF : 500 < F) (n : Int) (l : List T0) (hl : l.length ≤ 400) : ∀ (k N i : Nat) (acc : List T0), k = l.length - i → i ≤ l.length → k < N → acc.length ≤ i → Jo F N l l.length i n acc = some (mg0 (Ga (fun a => a.From) (acc ++ Vs n (l.drop i))))
 | k, 0, i, acc, _, _, h, _ => by omega
 | 0, N + 1, i, acc, hk, hi, _, ha => by
  rw [Jo, Tq (by omega), List.drop_of_length_le (by omega : l.length ≤ i), Vs, List.append_nil]
  have e : sortP (fun a : T0 => a.From) acc = some (Ga (fun a => a.From) acc) := by
   unfold sortP
   rw [if_pos (by omega)]
  have hlen := Yt (fun a : T0 => a.From) acc
  rw [e, Td]
  exact hef0 F hF _ (by omega)
 | k + 1, N + 1, i, acc, hk, hi, hN, ha => by
  obtain ⟨x, hx⟩ := K6 (l := l) (i := i) (by omega)
  rw [Jo, Tp (by omega), Qg, hx, Td, Qw hx, Vs]
  unfold Xp
  rw [up (by omega)]
  by_cases h : x.From < min x.To n
  ·rw [Tp h, if_pos h, Vv (by simp; omega) (by omega), Td, hef1 F hF n l hl k N (i + 1) _ (by omega) (by omega) (by omega) (by simp; omega), List.append_assoc]
   rfl
  ·rw [Tq h, if_neg h]
   exact hef1 F hF n l hl k N (i + 1) acc (by omega) (by omega) (by omega) (by omega)
def Zv (n : Int) (l : List T0) : List T0 := mg0 (Ga (fun a => a.From) (Vs n l))
theorem held_eq (F : Nat) (hF : 500 < F) (n : Int) (l : List T0) (hl : l.length ≤ 400) : Yw F l n = some (Zv n l) := by
 have := hef1 F hF n l hl l.length F 0 [] rfl (by omega) (by omega) (by simp)
 rw [List.drop_zero, List.nil_append] at this
 exact this
-- what it covers
theorem cutS_cov (n t : Int) (ht : t < n) : ∀ l, covL (Vs n l) t = covL l t
 | [] => rfl
 | s :: r => by
  have ih := cutS_cov n t ht r
  have e : covL (s :: r) t = (covS s t || covL r t) := rfl
  rw [Vs, e]
  split
  ·have e2 : covL (T0.mk s.From (min s.To n) :: Vs n r) t = (covS (T0.mk s.From (min s.To n)) t || covL (Vs n r) t) := rfl
   rw [e2, ih]
   congr 1
   unfold covS
   rw [Bool.eq_iff_iff]
   simp
   omega
  ·rename_i h
   have : covS s t = false := by
    unfold covS
    rw [Bool.eq_false_iff]
    simp
    omega
   rw [this, ih, Bool.false_or]
theorem cutS_in (n : Int) : ∀ l, (∀ s ∈ l, 0 ≤ s.From) → ∀ s ∈ Vs n l, InS n s
 | [], _, s, hs => nomatch hs
 | x :: r, h, s, hs => by
  rw [Vs] at hs
  split at hs
  ·rename_i hx
   rcases List.mem_cons.1 hs with rfl | hs
   ·refine ⟨h x List.mem_cons_self, hx, ?_⟩
    show min x.To n ≤ n
    omega
   ·exact cutS_in n r (fun s hs => h s (List.mem_cons_of_mem _ hs)) s hs
  ·exact cutS_in n r (fun s hs => h s (List.mem_cons_of_mem _ hs)) s hs
theorem mg_cov (t : Int) : ∀ (r : List T0) (y : T0), (∀ x ∈ r, y.From ≤ x.From) → r.Pairwise (fun a b => a.From ≤ b.From) → covL (mg y r) t = (covS y t || covL r t)
 | [], y, _, _ => by rw [mg]; rfl
 | x :: r, y, h, hp => by
  have hx := h x List.mem_cons_self
  obtain ⟨p1, p2⟩ := List.pairwise_cons.1 hp
  have e : covL (x :: r) t = (covS x t || covL r t) := rfl
  rw [mg, e]
  split
  ·rename_i hle
   rw [mg_cov t r ⟨y.From, max y.To x.To⟩ (fun z hz => h z (List.mem_cons_of_mem _ hz)) p2, ← Bool.or_assoc]
   congr 1
   unfold covS
   rw [Bool.eq_iff_iff]
   simp
   omega
  ·have e2 : covL (y :: mg x r) t = (covS y t || covL (mg x r) t) := rfl
   rw [e2, mg_cov t r x p1 p2]
theorem mg_in (n : Int) : ∀ (r : List T0) (y : T0), InS n y → (∀ x ∈ r, InS n x) → ∀ s ∈ mg y r, InS n s
 | [], y, hy, _, s, hs => by
  rw [mg] at hs
  simp at hs
  subst hs; exact hy
 | x :: r, y, hy, h, s, hs => by
  have hx := h x List.mem_cons_self
  have hr : ∀ z ∈ r, InS n z := fun z hz => h z (List.mem_cons_of_mem _ hz)
  rw [mg] at hs
  split at hs
  ·refine mg_in n r _ ?_ hr s hs
   obtain ⟨a1, a2, a3⟩ := hy
   obtain ⟨b1, b2, b3⟩ := hx
   refine ⟨a1, ?_, ?_⟩
   ·show y.From < max y.To x.To
    omega
   ·show max y.To x.To ≤ n
    omega
  ·rcases List.mem_cons.1 hs with rfl | hs
   ·exact hy
   ·exact mg_in n r x hx hr s hs
def SepF : Int → List T0 → Prop
 | _, [] => True
 | a, s :: r => a < s.From ∧ SepF s.To r
theorem mg_sep : ∀ (r : List T0) (y : T0) (a : Int), a < y.From → SepF a (mg y r)
 | [], y, a, h => by
  rw [mg]
  exact ⟨h, trivial⟩
 | x :: r, y, a, h => by
  rw [mg]
  split
  ·exact mg_sep r _ a h
  ·exact ⟨h, mg_sep r x y.To (by omega)⟩
theorem sep_low (n : Int) : ∀ (l : List T0) (a : Int), SepF a l → (∀ s ∈ l, InS n s) → ∀ s ∈ l, a < s.From
 | [], _, _, _, s, hs => nomatch hs
 | x :: r, a, h, hi, s, hs => by
  obtain ⟨h1, h2⟩ := h
  rcases List.mem_cons.1 hs with rfl | hs
  ·exact h1
  ·have := sep_low n r x.To h2 (fun z hz => hi z (List.mem_cons_of_mem _ hz)) s hs
   have := (hi x List.mem_cons_self).2.1
   omega
def cnT (p : Int → Bool) : Nat → Nat
 | 0 => 0
 | n + 1 => cnT p n + (p (n : Int)).toNat
theorem cnT_iv (a b : Int) (h0 : 0 ≤ a) (h1 : a ≤ b) : ∀ n : Nat, (cnT (fun t => decide (a ≤ t) && decide (t < b)) n : Int) = max (min b n - a) 0
 | 0 => by
  rw [cnT]
  omega
 | n + 1 => by
  have ih := cnT_iv a b h0 h1 n
  rw [cnT]
  by_cases g1 : a ≤ (n : Int) <;> by_cases g2 : (n : Int) < b <;> simp [g1, g2] <;> omega
theorem cnT_or (p q : Int → Bool) : ∀ n : Nat, (∀ t : Nat, t < n → ¬ (p t = true ∧ q t = true)) → cnT (fun t => p t || q t) n = cnT p n + cnT q n
 | 0, _ => rfl
 | n + 1, h => by
  have ih := cnT_or p q n (fun t ht => h t (by omega))
  have hn := h n (by omega)
  rw [cnT, cnT, cnT, ih]
  cases e1 : p n <;> cases e2 : q n <;> simp [e1, e2] at hn ⊢ <;> omega
def totS (l : List T0) : Int := (l.map fun s => s.To - s.From).sum
theorem sep_tot (n : Nat) : ∀ (l : List T0) (a : Int), SepF a l → (∀ s ∈ l, InS n s) → (cnT (covL l) n : Int) = totS l
 | [], a, _, _ => by
  have : ∀ n, cnT (covL []) n = 0 := fun n => by
   induction n with
   | zero => rfl
   | succ n ih => rw [cnT, ih]; rfl
  rw [this]
  rfl
 | x :: r, a, h, hi => by
  obtain ⟨h1, h2⟩ := h
  have hr : ∀ s ∈ r, InS n s := fun z hz => hi z (List.mem_cons_of_mem _ hz)
  obtain ⟨a1, a2, a3⟩ := hi x List.mem_cons_self
  have ih := sep_tot n r x.To h2 hr
  have e : covL (x :: r) = fun t => covS x t || covL r t := rfl
  have ev : (cnT (covS x) n : Int) = x.To - x.From := by
   have := cnT_iv x.From x.To a1 (by omega) n
   have e2 : covS x = fun t => decide (x.From ≤ t) && decide (t < x.To) := rfl
   rw [e2, this]
   omega
  rw [e, cnT_or (covS x) (covL r) n (fun t ht hb => by
   obtain ⟨b1, b2⟩ := hb
   unfold covS at b1
   simp at b1
   obtain ⟨s, hs, hc⟩ := List.any_eq_true.1 b2
   unfold covS at hc
   simp at hc
   have := sep_low n r x.To h2 hr s hs
   omega)]
  unfold totS at ih ⊢
  simp only [List.map_cons, List.sum_cons]
  omega
theorem any_perm {l l' : List T0} (h : l.Perm l') (t : Int) : covL l t = covL l' t := by
 unfold covL
 rw [Bool.eq_iff_iff, List.any_eq_true, List.any_eq_true]
 exact ⟨fun ⟨s, h1, h2⟩ => ⟨s, h.mem_iff.1 h1, h2⟩, fun ⟨s, h1, h2⟩ => ⟨s, h.mem_iff.2 h1, h2⟩⟩
theorem held_all (n : Nat) (l : List T0) (hl : ∀ s ∈ l, 0 ≤ s.From) : (∀ s ∈ Zv n l, InS n s) ∧ (∀ t : Int, t < n → covL (Zv n l) t = covL l t) ∧ (cnT (covL l) n : Int) = totS (Zv n l) := by
 have hp := sortBy_perm (fun a : T0 => a.From) (Vs n l)
 have hin : ∀ s ∈ Ga (fun a : T0 => a.From) (Vs n l), InS n s := fun s hs => cutS_in n l hl s (hp.mem_iff.1 hs)
 have hpw : (Ga (fun a : T0 => a.From) (Vs n l)).Pairwise (fun a b => a.From ≤ b.From) := by
  rw [List.pairwise_iff_getElem]
  intro i j hi hj hij
  exact W6 (fun a : T0 => a.From) (Vs n l) i j _ _ hij (List.getElem?_eq_getElem hi) (List.getElem?_eq_getElem hj)
 have hcov : ∀ t : Int, t < n → covL (Zv n l) t = covL l t := fun t ht => by
  rw [← cutS_cov n t ht l, ← any_perm hp t]
  unfold Zv
  cases e : Ga (fun a : T0 => a.From) (Vs n l) with
  | nil => rfl
  | cons x r =>
   rw [e] at hpw
   obtain ⟨p1, p2⟩ := List.pairwise_cons.1 hpw
   rw [mg0, mg_cov t r x p1 p2]
   rfl
 have hsep : (∀ s ∈ Zv n l, InS n s) ∧ SepF (-1) (Zv n l) := by
  unfold Zv
  cases e : Ga (fun a : T0 => a.From) (Vs n l) with
  | nil => exact ⟨fun s hs => (nomatch hs), trivial⟩
  | cons x r =>
   rw [e] at hin
   have hx := hin x List.mem_cons_self
   rw [mg0]
   exact ⟨mg_in n r x hx (fun z hz => hin z (List.mem_cons_of_mem _ hz)), mg_sep r x (-1) (by have := hx.1; omega)⟩
 refine ⟨hsep.1, hcov, ?_⟩
 rw [← sep_tot n (Zv n l) (-1) hsep.2 hsep.1]
 have : ∀ m : Nat, m ≤ n → cnT (covL l) m = cnT (covL (Zv n l)) m := fun m hm => by
  induction m with
  | zero => rfl
  | succ m ih => rw [cnT, cnT, ih (by omega), hcov m (by omega)]
 rw [this n (Nat.le_refl _)]
end Go.Ev.RunWatches
