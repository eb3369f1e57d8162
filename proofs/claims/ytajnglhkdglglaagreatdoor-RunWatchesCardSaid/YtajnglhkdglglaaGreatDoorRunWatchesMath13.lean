/- A plan's work, as both sides check it. -/
import Derived.Test.YtajnglhkdglglaaGreatDoorRunWatchesMath10
namespace Go.Ev.RunWatches
open Go Go.Ev Go.Proofs
set_option linter.unusedVariables false
def fidx (t : Int) : List T1 → Nat
 | [] => 0
 | d :: r => bif decide (d.To ≤ t) then fidx t r + 1 else 0
theorem rdy1 (F : Nat) (t : Int) (l : List T1) (hl : l.length ≤ 64) : ∀ (k N i : Nat), k = l.length - i → i ≤ l.length → k < N → (∃ d ∈ l.drop i, t < d.To) → Gm F N l t i = some ((i + fidx t (l.drop i) : Nat) : Int)
 | k, 0, i, _, _, h, _ => by omega
 | 0, N + 1, i, hk, hi, _, he => by
  rw [List.drop_of_length_le (by omega : l.length ≤ i)] at he
  obtain ⟨d, hd, _⟩ := he
  exact nomatch hd
 | k + 1, N + 1, i, hk, hi, hN, he => by
  obtain ⟨x, hx⟩ := K6 (l := l) (i := i) (by omega)
  rw [Qw hx] at he
  have e : fidx t (x :: l.drop (i + 1)) = bif decide (x.To ≤ t) then fidx t (l.drop (i + 1)) + 1 else 0 := rfl
  rw [Gm, Qg, hx, Td, Qw hx, e]
  by_cases h : x.To ≤ t
  ·rw [Tp h, Tp h, up (by omega), rdy1 F t l hl k N (i + 1) (by omega) (by omega) (by omega)]
   ·congr 2
    omega
   ·obtain ⟨d, hd, h2⟩ := he
    rcases List.mem_cons.1 hd with rfl | hd
    ·omega
    ·exact ⟨d, hd, h2⟩
  ·rw [Tq h, Tq h]
   rfl
theorem rdy (F : Nat) (hF : 1000 < F) (t : Int) (l : List T1) (hl : l.length ≤ 64) (he : ∃ d ∈ l, t < d.To) : Yo F l t = some ((fidx t l : Nat) : Int) := by
 have := rdy1 F t l hl l.length F 0 rfl (by omega) (by omega) (by rw [List.drop_zero]; exact he)
 rw [List.drop_zero, Nat.zero_add] at this
 exact this
theorem Vw (n : Int) : ∀ (l : List T1) (a : Int), V2 n a l → ∀ d ∈ l, a ≤ d.From
 | [], a, h => fun d hd => nomatch hd
 | x :: r, a, h => by
  obtain ⟨h1, h2, h3⟩ := h
  intro d hd
  rcases List.mem_cons.1 hd with rfl | hd
  ·omega
  ·have := Vw n r _ h3 d hd
   omega
theorem Ve (n t : Int) (ht : t < n) : ∀ (l : List T1) (a : Int), V2 n a l → a ≤ t → ∃ d ∈ l, t < d.To
 | [], a, h, h0 => by
  have e : a = n := h
  omega
 | x :: r, a, h, h0 => by
  obtain ⟨h1, h2, h3⟩ := h
  by_cases h4 : t < x.To
  ·exact ⟨x, List.mem_cons_self, h4⟩
  ·obtain ⟨d, hd, h5⟩ := Ve n t ht r _ h3 (by omega)
   exact ⟨d, List.mem_cons_of_mem _ hd, h5⟩
def inD (s : T0) (d : T1) : Bool := decide (d.From ≤ s.From) && decide (s.To ≤ d.To)
theorem one_duty (n : Int) (s : T0) (hs : s.From < s.To) : ∀ (l : List T1) (a : Int), V2 n a l → a ≤ s.From → l.any (inD s) = (decide (s.To ≤ n) && (fidx s.From l == fidx (s.To - 1) l))
 | [], a, h, h0 => by
  have e : a = n := h
  rw [decide_eq_false (by omega : ¬ s.To ≤ n)]
  rfl
 | x :: r, a, h, h0 => by
  have hc := (W3 n _ _ h).2 x List.mem_cons_self
  obtain ⟨h1, h2, h3⟩ := h
  have e : ∀ t, fidx t (x :: r) = bif decide (x.To ≤ t) then fidx t r + 1 else 0 := fun t => rfl
  rw [List.any_cons, e, e]
  by_cases h4 : s.From < x.To
  ·rw [Tq (by omega : ¬ x.To ≤ s.From)]
   by_cases h5 : s.To ≤ x.To
   ·rw [Tq (by omega : ¬ x.To ≤ s.To - 1), decide_eq_true (by omega : s.To ≤ n)]
    have e1 : inD s x = true := by
     unfold inD
     rw [decide_eq_true (by omega : x.From ≤ s.From), decide_eq_true h5]
     rfl
    rw [e1]
    rfl
   ·rw [Tp (by omega : x.To ≤ s.To - 1)]
    have e1 : inD s x = false := by
     unfold inD
     rw [decide_eq_false h5, Bool.and_false]
    have e2 : r.any (inD s) = false := by
     rw [List.any_eq_false]
     intro d hd
     have := Vw n r _ h3 d hd
     unfold inD
     rw [decide_eq_false (by omega : ¬ d.From ≤ s.From)]
     simp
    rw [e1, e2]
    have e3 : (0 == fidx (s.To - 1) r + 1) = false := by simp
    rw [e3, Bool.and_false]
    rfl
  ·rw [Tp (by omega : x.To ≤ s.From), Tp (by omega : x.To ≤ s.To - 1)]
   have e1 : inD s x = false := by
    unfold inD
    rw [decide_eq_false (by omega : ¬ s.To ≤ x.To), Bool.and_false]
   have e2 : (fidx s.From r + 1 == fidx (s.To - 1) r + 1) = (fidx s.From r == fidx (s.To - 1) r) := by
    rw [Bool.eq_iff_iff]
    simp
   rw [e1, e2, Bool.false_or]
   exact one_duty n s hs r _ h3 (by omega)
def wrkB (ds : List T1) : Int → List T0 → Bool
 | _, [] => true
 | a, s :: r => (!decide (s.From < a) && !decide (s.To ≤ s.From)) && (ds.any (inD s) && wrkB ds s.To r)
theorem wrk4v (F : Nat) (l : List T1) (hl : l.length ≤ 64) (hd : List T1 → Int → List T0 → Int → Int → Option Bool) (ws : List T0) (wn wi : Int) (c : T0) : ∀ (k N i : Nat), k = l.length - i → i ≤ l.length → k < N → Qx F hd N l l.length i l ws wn wi false c = bif (l.drop i).any (inD c) then hd l c.To ws wn (w64 (wi + 1)) else some false
 | k, 0, i, _, _, h => by omega
 | 0, N + 1, i, hk, hi, _ => by
  rw [Qx, Tq (by omega), List.drop_of_length_le (by omega : l.length ≤ i)]
  unfold Js
  rfl
 | k + 1, N + 1, i, hk, hi, hN => by
  obtain ⟨x, hx⟩ := K6 (l := l) (i := i) (by omega)
  have ih := wrk4v F l hl hd ws wn wi c k N (i + 1) (by omega) (by omega) (by omega)
  rw [Qx, Tp (by omega), Qg, hx, Td, Qw hx, List.any_cons]
  have e : (!(decide ((0 : Int) ≤ (i : Int)))) = false := by simp
  unfold X8 Js
  rw [up (by omega), ih, e]
  unfold inD
  cases e1 : decide (x.From ≤ c.From) <;> cases e2 : decide (c.To ≤ x.To) <;> rfl
theorem wrk1v (F : Nat) (hF : 1000 < F) (ds : List T1) (hds : ds.length ≤ 64) (l : List T0) (hl : l.length ≤ 16) : ∀ (k N i : Nat) (last : Int), k = l.length - i → i ≤ l.length → k < N → Qe F N ds last l l.length i = some (wrkB ds last (l.drop i))
 | k, 0, i, last, _, _, h => by omega
 | 0, N + 1, i, last, hk, hi, _ => by
  rw [Qe, Tq (by omega), List.drop_of_length_le (by omega : l.length ≤ i)]
  rfl
 | k + 1, N + 1, i, last, hk, hi, hN => by
  obtain ⟨x, hx⟩ := K6 (l := l) (i := i) (by omega)
  have ih := wrk1v F hF ds hds l hl k N (i + 1) x.To (by omega) (by omega) (by omega)
  have h4 := wrk4v F ds hds (Qe F N) l l.length i x ds.length F 0 rfl (by omega) (by omega)
  rw [up (by omega), ih, List.drop_zero] at h4
  have a : Qx F (Qe F N) F ds (ds.length : Int) (0 : Int) ds l l.length i false x = _ := h4
  have e : wrkB ds last (x :: l.drop (i + 1)) = ((!decide (x.From < last) && !decide (x.To ≤ x.From)) && (ds.any (inD x) && wrkB ds x.To (l.drop (i + 1)))) := rfl
  rw [Qe, Tp (by omega), Qg, hx, Td, Qw hx, e]
  unfold Xa Js
  cases decide (x.From < last) with
  | true => rfl
  | false =>
   cases decide (x.To ≤ x.From) with
   | true => rfl
   | false =>
    show Qx F (Qe F N) F ds (ds.length : Int) (0 : Int) ds l l.length i false x = _
    rw [a]
    cases ds.any (inD x) <;> rfl
theorem wrk_v (F : Nat) (hF : 1000 < F) (ds : List T1) (hds : ds.length ≤ 64) (l : List T0) : Y2 F l ds = some (wrkB ds 0 l && decide ((l.length : Int) ≤ 16)) := by
 unfold Y2
 by_cases h : l.length ≤ 16
 ·rw [Tq (by omega), decide_eq_true (by omega : (l.length : Int) ≤ 16), Bool.and_true]
  exact wrk1v F hF ds hds l h l.length F 0 0 rfl (by omega) (by omega)
 ·rw [Tp (by omega), decide_eq_false (by omega : ¬ (l.length : Int) ≤ 16), Bool.and_false]
def Prv (l : List T0) (i : Nat) (a : Int) : Prop := i = 0 ∧ a = 0 ∨ 0 < i ∧ ∃ p, l[i - 1]? = some p ∧ p.To = a
section
variable (c0 : List T1) (c1 : List T0) (c2 c3 : List T2) (c4 c5 : List Int)
theorem rwrk1 (F : Nat) (hF : 1000 < F) (hc : V2 c4.length 0 c0) (h0 : c0.length ≤ 64) (hl : c1.length ≤ 9223372036854775807) (h4 : c4.length ≤ 512) : ∀ (k N i : Nat) (a : Int), k = c1.length - i → i ≤ c1.length → k < N → 0 ≤ a → Prv c1 i a → Qk F N i c0 c1 c2 c3 c4 c5 = some (wrkB c0 a (c1.drop i) && decide ((c1.length : Int) ≤ 16))
 | k, 0, i, a, _, _, h, _, _ => by omega
 | 0, N + 1, i, a, hk, hi, _, _, _ => by
  rw [Qk, Tq (by omega), List.drop_of_length_le (by omega : c1.length ≤ i)]
  rfl
 | k + 1, N + 1, i, a, hk, hi, hN, ha, hw => by
  obtain ⟨x, hx⟩ := K6 (l := c1) (i := i) (by omega)
  have e : wrkB c0 a (x :: c1.drop (i + 1)) = ((!decide (x.From < a) && !decide (x.To ≤ x.From)) && (c0.any (inD x) && wrkB c0 x.To (c1.drop (i + 1)))) := rfl
  rw [Qk, Tp (by omega), Qg, hx, Td, Qw hx, e]
  have bad : Kg F (Qk F N) i true c0 c1 c2 c3 c4 c5 x = some false := rfl
  rw [bad]
  by_cases h1 : x.From < 0
  ·rw [Tp h1, decide_eq_true (by omega : x.From < a)]
   rfl
  ·rw [Tq h1]
   by_cases h2 : x.To ≤ x.From
   ·rw [Tp h2, decide_eq_true h2, Bool.not_true, Bool.and_false]
    rfl
   ·rw [Tq h2, decide_eq_false h2]
    have ho := one_duty c4.length x (by omega) c0 0 hc (by omega)
    by_cases h3 : (c4.length : Int) < x.To
    ·rw [Tp h3, ho, decide_eq_false (by omega : ¬ x.To ≤ (c4.length : Int)), Bool.false_and, Bool.false_and, Bool.and_false]
     rfl
    ·rw [Tq h3]
     have ih := rwrk1 F hF hc h0 hl h4 k N (i + 1) x.To (by omega) (by omega) (by omega) (by omega) (.inr ⟨Nat.succ_pos i, x, hx, rfl⟩)
     have main : Kg F (Qk F N) i (decide (x.From < a)) c0 c1 c2 c3 c4 c5 x = some (((!decide (x.From < a) && !false) && (c0.any (inD x) && wrkB c0 x.To (c1.drop (i + 1)))) && decide ((c1.length : Int) ≤ 16)) := by
      unfold Kg
      cases decide (x.From < a) with
      | true => rfl
      | false =>
       rw [cond_false, rdy F hF _ c0 h0 (Ve c4.length x.From (by omega) c0 0 hc (by omega)), Td, Xu (n := x.To - 1) (by omega) (by omega), rdy F hF _ c0 h0 (Ve c4.length (x.To - 1) (by omega) c0 0 hc (by omega)), Td, up (by omega), ih, ho, decide_eq_true (by omega : x.To ≤ (c4.length : Int)), Bool.true_and]
       have e5 : (((fidx x.From c0 : Nat) : Int) == ((fidx (x.To - 1) c0 : Nat) : Int)) = (fidx x.From c0 == fidx (x.To - 1) c0) := by
        rw [Bool.eq_iff_iff, beq_iff_eq, beq_iff_eq]
        constructor <;> intro h <;> omega
       rw [e5]
       cases fidx x.From c0 == fidx (x.To - 1) c0 <;> rfl
     rcases hw with ⟨h5, h6⟩ | ⟨h5, p, hp, h6⟩
     ·rw [Tq (by omega)]
      have e6 : decide (x.From < a) = false := decide_eq_false (by omega)
      rw [e6] at main
      rw [e6]
      exact main
     ·have e4 : w64 ((i : Int) - 1) = ((i - 1 : Nat) : Int) := by rw [Xu (by omega) (by omega)]; omega
      rw [Tp (by omega), e4, Qg, hp, Td, h6]
      exact main
end
theorem rwrk (F : Nat) (a : Th) (hc : V2 a.Data.e0.length 0 a.Duties) (h0 : a.Duties.length ≤ 64) (hl : a.Work.length ≤ 9223372036854775807) (h4 : a.Data.e0.length ≤ 512) (hF : 1000 + a.Work.length < F) : Zp F a = some (wrkB a.Duties 0 a.Work && decide ((a.Work.length : Int) ≤ 16)) :=
 rwrk1 a.Duties a.Work a.Vetoes.e0 a.Vetoes.e1 a.Data.e0 a.Data.e1 F (by omega) hc h0 hl h4 a.Work.length F 0 0 rfl (by omega) (by omega) (Int.le_refl _) (.inl ⟨rfl, rfl⟩)
end Go.Ev.RunWatches
namespace Go.Ev.RunWatches
open Go Go.Ev Go.Proofs
set_option linter.unusedVariables false
def sgB (s : T0) : Bool := decide (0 ≤ s.From) && (decide (s.From < s.To) && decide (s.To ≤ 1073741824))
def sgsB (l : List T0) : Bool := l.all sgB
theorem seg1v (F : Nat) (l : List T0) (hl : l.length ≤ 32) : ∀ (k N i : Nat), k = l.length - i → i ≤ l.length → k < N → Q8 F N l l.length i true = some (sgsB (l.drop i))
 | k, 0, i, _, _, h => by omega
 | 0, N + 1, i, hk, hi, _ => by
  rw [Q8, Tq (by omega), List.drop_of_length_le (by omega : l.length ≤ i)]
  rfl
 | k + 1, N + 1, i, hk, hi, hN => by
  obtain ⟨x, hx⟩ := K6 (l := l) (i := i) (by omega)
  have ih := seg1v F l hl k N (i + 1) (by omega) (by omega) (by omega)
  have e0 : sgsB (x :: l.drop (i + 1)) = (sgB x && sgsB (l.drop (i + 1))) := rfl
  rw [Q8, Tp (by omega), Qg, hx, Td, Qw hx, e0]
  unfold Kd Ja J9 Qh sgB
  rw [up (by omega), ih]
  have e : (!(decide ((0 : Int) ≤ (i : Int)))) = false := by simp
  rw [e]
  cases e1 : decide (0 ≤ x.From) <;> cases e2 : decide (x.From < x.To) <;> cases e3 : decide (x.To ≤ 1073741824) <;> rfl
theorem seg_v (F : Nat) (hF : 40 < F) (l : List T0) : Jd F l = some (decide ((l.length : Int) ≤ 32) && sgsB l) := by
 unfold Jd
 by_cases h : l.length ≤ 32
 ·have e : decide ((l.length : Int) ≤ 32) = true := decide_eq_true (by omega)
  rw [e, cond_true, Bool.true_and]
  exact seg1v F l h l.length F 0 rfl (by omega) (by omega)
 ·have e : decide ((l.length : Int) ≤ 32) = false := decide_eq_false (by omega)
  rw [e, cond_false, Bool.false_and]
  rfl
theorem rseg1 (F : Nat) (nm : List UInt8) (l : List T0) (hl : l.length ≤ 32) : ∀ (k N i : Nat), k = l.length - i → i ≤ l.length → k < N → Kb F N i nm l = some (sgsB (l.drop i))
 | k, 0, i, _, _, h => by omega
 | 0, N + 1, i, hk, hi, _ => by
  rw [Kb, Tq (by omega), List.drop_of_length_le (by omega : l.length ≤ i)]
  rfl
 | k + 1, N + 1, i, hk, hi, hN => by
  obtain ⟨x, hx⟩ := K6 (l := l) (i := i) (by omega)
  have ih := rseg1 F nm l hl k N (i + 1) (by omega) (by omega) (by omega)
  have e0 : sgsB (x :: l.drop (i + 1)) = (sgB x && sgsB (l.drop (i + 1))) := rfl
  rw [Kb, Tp (by omega), Qg, hx, Td, Qw hx, e0]
  unfold Yi Yh sgB
  rw [up (by omega), ih, Zy x.From 0, Zy x.From x.To, Zy 1073741824 x.To]
  cases decide (0 ≤ x.From) <;> cases decide (x.To ≤ x.From) <;> cases decide (x.To ≤ 1073741824) <;> rfl
def vtB (v : T2) : Bool := Z3 v.Name && (decide ((v.Segments.length : Int) ≤ 32) && sgsB v.Segments)
theorem rvt (F : Nat) (hF : 40 < F) (v : T2) : Z6 F v = some (vtB v) := by
 unfold Z6 vtB Yc
 rw [W4 F (by omega), Td]
 cases Z3 v.Name with
 | false => rfl
 | true =>
  rw [Zy 32]
  by_cases h : v.Segments.length ≤ 32
  ·have e : decide ((v.Segments.length : Int) ≤ 32) = true := decide_eq_true (by omega)
   rw [e]
   exact rseg1 F v.Name v.Segments h v.Segments.length F 0 rfl (by omega) (by omega)
  ·have e : decide ((v.Segments.length : Int) ≤ 32) = false := decide_eq_false (by omega)
   rw [e]
   rfl
def vtsB : (List UInt8 → Bool) → List T2 → Bool
 | _, [] => true
 | f, v :: r => (vtB v && !f v.Name) && vtsB (fun x => bif eqB x v.Name then true else f x) r
theorem vet1v (F : Nat) (hF : 40 < F) (l : List T2) (hl : l.length ≤ 12) : ∀ (k N i : Nat) (m : List ((List UInt8) × Bool)) (f : List UInt8 → Bool), k = l.length - i → i ≤ l.length → k < N → (∀ x, mget eqB false m x = f x) → Tw F N l l.length i m = some (vtsB f (l.drop i))
 | k, 0, i, m, f, _, _, h, _ => by omega
 | 0, N + 1, i, m, f, hk, hi, _, _ => by
  rw [Tw, Tq (by omega), List.drop_of_length_le (by omega : l.length ≤ i)]
  rfl
 | k + 1, N + 1, i, m, f, hk, hi, hN, hm => by
  obtain ⟨x, hx⟩ := K6 (l := l) (i := i) (by omega)
  have ih := vet1v F hF l hl k N (i + 1) (mput eqB m x.Name true) (fun y => bif eqB y x.Name then true else f y) (by omega) (by omega) (by omega) (fun y => by
   rw [mget_put (fun a b => beq_iff_eq), hm])
  have e0 : vtsB f (x :: l.drop (i + 1)) = ((vtB x && !f x.Name) && vtsB (fun y => bif eqB y x.Name then true else f y) (l.drop (i + 1))) := rfl
  rw [Tw, Tp (by omega), Qg, hx, Td, Vq F (by omega), Td, Qw hx, e0, hm]
  unfold J1 Jp vtB
  rw [seg_v F hF, Td, up (by omega), ih]
  cases Z3 x.Name <;> cases f x.Name <;> cases (decide ((x.Segments.length : Int) ≤ 32) && sgsB x.Segments) <;> rfl
def vtsA (l : List T2) : Int := bif vtsB (fun _ => false) l && decide ((l.length : Int) ≤ 12) then 0 else 63
theorem cvt_v (F : Nat) (hF : 40 < F) (l : List T2) : Jn F l = some (vtsA l) := by
 unfold Jn Qi vtsA
 by_cases h : l.length ≤ 12
 ·have := vet1v F hF l h l.length F 0 [] (fun _ => false) rfl (by omega) (by omega) (fun x => rfl)
  rw [List.drop_zero] at this
  have h' : Tw F F l (l.length : Int) (0 : Int) [] = _ := this
  rw [Tq (by omega), h', Td, decide_eq_true (by omega : (l.length : Int) ≤ 12), Bool.and_true]
  cases vtsB (fun _ => false) l <;> rfl
 ·rw [Tp (by omega), decide_eq_false (by omega : ¬ (l.length : Int) ≤ 12), Bool.and_false]
  rfl
def metB (l : List T2) (x : List UInt8) : Bool := l.any fun u => u.Name == x
theorem rcv2 (F : Nat) (hd : List T2 → Int → Option Int) (l : List T2) (hl : l.length ≤ 12) (i : Nat) (x : T2) (hx : l[i]? = some x) : ∀ (k N j : Nat), k = i - j → j ≤ i → k < N → Qs F hd N l i j = bif metB ((l.take i).drop j) x.Name then some 63 else hd l (w64 ((i : Int) + 1))
 | k, 0, j, _, _, h => by omega
 | 0, N + 1, j, hk, hj, _ => by
  have hi : i < l.length := (List.getElem?_eq_some_iff.1 hx).1
  rw [Qs, Tq (by omega), List.drop_of_length_le (by rw [List.length_take]; omega)]
  rfl
 | k + 1, N + 1, j, hk, hj, hN => by
  have hi : i < l.length := (List.getElem?_eq_some_iff.1 hx).1
  obtain ⟨y, hy⟩ := K6 (l := l) (i := j) (by omega)
  have hy' : (l.take i)[j]? = some y := by rw [List.getElem?_take_of_lt (by omega)]; exact hy
  have ih := rcv2 F hd l hl i x hx k N (j + 1) (by omega) (by omega) (by omega)
  have e : metB (y :: (l.take i).drop (j + 1)) x.Name = (y.Name == x.Name || metB ((l.take i).drop (j + 1)) x.Name) := rfl
  rw [Qs, Tp (by omega), Qg, hy, Td, Qg, hx, Td, up (by omega : j < 9223372036854775807), ih, Qw hy', e]
  cases y.Name == x.Name <;> rfl
theorem rcv1 (F : Nat) (hF : 40 < F) (l : List T2) (hl : l.length ≤ 12) : ∀ (k N i : Nat) (f : List UInt8 → Bool), k = l.length - i → i ≤ l.length → k < N → (∀ x, f x = metB (l.take i) x) → Qc F N l i = some (bif vtsB f (l.drop i) then 0 else 63)
 | k, 0, i, f, _, _, h, _ => by omega
 | 0, N + 1, i, f, hk, hi, _, _ => by
  rw [Qc, Tq (by omega), List.drop_of_length_le (by omega : l.length ≤ i)]
  rfl
 | k + 1, N + 1, i, f, hk, hi, hN, hf => by
  obtain ⟨x, hx⟩ := K6 (l := l) (i := i) (by omega)
  have ih := rcv1 F hF l hl k N (i + 1) (fun y => bif eqB y x.Name then true else f y) (by omega) (by omega) (by omega) (fun y => by
   have e : l.take (i + 1) = l.take i ++ [x] := by
    rw [List.take_add_one, hx]
    rfl
   have e2 : (x.Name == y) = (y == x.Name) := BEq.comm
   show (bif y == x.Name then true else f y) = _
   rw [e, hf]
   unfold metB
   rw [List.any_append, List.any_cons, List.any_nil, Bool.or_false, e2]
   cases y == x.Name <;> cases (l.take i).any (fun u => u.Name == y) <;> rfl)
  have h2 := rcv2 F (Qc F N) l hl i x hx i F 0 rfl (by omega) (by omega)
  rw [List.drop_zero, ← hf, up (by omega), ih] at h2
  have a : Qs F (Qc F N) F l (i : Int) (0 : Int) = _ := h2
  have e0 : vtsB f (x :: l.drop (i + 1)) = ((vtB x && !f x.Name) && vtsB (fun y => bif eqB y x.Name then true else f y) (l.drop (i + 1))) := rfl
  rw [Qc, Tp (by omega), Qg, hx, Td, rvt F hF, Td, a, Qw hx, e0]
  cases vtB x <;> cases f x.Name <;> rfl
theorem rcv (F : Nat) (hF : 40 < F) (l : List T2) : Kh F l = some (vtsA l) := by
 unfold Kh vtsA
 by_cases h : l.length ≤ 12
 ·rw [Tq (by omega), decide_eq_true (by omega : (l.length : Int) ≤ 12), Bool.and_true]
  exact rcv1 F hF l h l.length F 0 (fun _ => false) rfl (by omega) (by omega) (fun x => rfl)
 ·rw [Tp (by omega), decide_eq_false (by omega : ¬ (l.length : Int) ≤ 12), Bool.and_false]
  rfl
theorem Check_same (F : Nat) (a : Th) (hD : a.Duties.length ≤ 9223372036854775807) (hW : a.Work.length ≤ 9223372036854775807) (hF : 1000 + a.Duties.length + a.Work.length < F) : Kf F a = J7 F (Ji a) := by
 unfold Kf J7 Jb
 rw [rsmp F (by omega), Td, show (Ji a).data = a.Data from rfl, smp_v F (by omega), Td]
 cases hs : smpB a.Data with
 | false => rfl
 | true =>
  have hn : a.Data.e0.length ≤ 512 := by
   unfold smpB at hs
   rw [Bool.and_eq_true, inR_iff] at hs
   omega
  rw [Bool.not_true, cond_false, cond_false, Td, show (Ji a).duties = a.Duties from rfl, show (Ji a).work = a.Work from rfl, rdut F _ a.Duties hD (by omega), Td, dut_v F (by omega), Td]
  cases hd : (dutB (a.Data.e0.length : Int) [] 0 a.Duties && decide ((a.Duties.length : Int) ≤ 64)) with
  | false => rfl
  | true =>
   rw [Bool.and_eq_true] at hd
   have hc := Vx _ _ _ _ hd.1
   have b := of_decide_eq_true hd.2
   rw [Bool.not_true, cond_false, cond_false, rwrk F a hc (by omega) hW hn (by omega), Td, wrk_v F (by omega) a.Duties (by omega) a.Work, Td]
   cases (wrkB a.Duties 0 a.Work && decide ((a.Work.length : Int) ≤ 16)) with
   | false => rfl
   | true =>
    obtain ⟨G, rfl⟩ : ∃ G, F = G + 3 := ⟨F - 3, by omega⟩
    have z1 : ((1 : Int) == 0) = false := rfl
    have z2 : w64 ((0 : Int) + 1) = 1 := by decide
    have z3 : w64 ((1 : Int) + 1) = 2 := by decide
    rw [Bool.not_true, cond_false, cond_false, rcv (G + 3) (by omega), Td, rcv (G + 3) (by omega), Td, show (Ji a).vetoes = a.Vetoes from rfl]
    rw [Q7, Tp (by decide), show ((0 : Int) == 0) = true from rfl, cond_true]
    unfold Jv
    rw [cvt_v (G + 3) (by omega), Td, z2]
    by_cases d0 : vtsA a.Vetoes.e0 = 0
    ·rw [d0, show (!((0 : Int) == 0)) = false from rfl, cond_false, cond_false, Q7, Tp (by decide), z1, cond_false, show ((1 : Int) == 1) = true from rfl, cond_true]
     unfold Jv
     rw [cvt_v (G + 3) (by omega), Td, z3, Q7, Tq (by decide)]
     by_cases e0 : vtsA a.Vetoes.e1 = 0
     ·rw [e0]
      rfl
     ·rw [show (!(vtsA a.Vetoes.e1 == 0)) = true by simp [e0], cond_true]
    ·rw [show (!(vtsA a.Vetoes.e0 == 0)) = true by simp [d0], cond_true, cond_true]
end Go.Ev.RunWatches
namespace Go.Ev.RunWatches
open Go Go.Ev Go.Proofs
set_option linter.unusedVariables false
theorem wfx1 (F : Nat) (t : Int) (e0 l : List T1) (hl : l.length ≤ 64) : ∀ (k N i : Nat), k = l.length - i → i ≤ l.length → k < N → (∃ d ∈ l.drop i, t < d.To) → Qf F e0 t N l l.length i = some ((i + fidx t (l.drop i) : Nat) : Int)
 | k, 0, i, _, _, h, _ => by omega
 | 0, N + 1, i, hk, hi, _, he => by
  rw [List.drop_of_length_le (by omega : l.length ≤ i)] at he
  obtain ⟨d, hd, _⟩ := he
  exact nomatch hd
 | k + 1, N + 1, i, hk, hi, hN, he => by
  obtain ⟨x, hx⟩ := K6 (l := l) (i := i) (by omega)
  rw [Qw hx] at he
  have e : fidx t (x :: l.drop (i + 1)) = bif decide (x.To ≤ t) then fidx t (l.drop (i + 1)) + 1 else 0 := rfl
  rw [Qf, Tp (by omega), Qg, hx, Td, Qw hx, e]
  by_cases h : x.To ≤ t
  ·rw [Tq (by omega : ¬ t < x.To), Tp h, up (by omega), wfx1 F t e0 l hl k N (i + 1) (by omega) (by omega) (by omega)]
   ·congr 2
    omega
   ·obtain ⟨d, hd, h2⟩ := he
    rcases List.mem_cons.1 hd with rfl | hd
    ·omega
    ·exact ⟨d, hd, h2⟩
  ·rw [Tp (by omega : t < x.To), Tq h]
   rfl
theorem fidx_lt (t : Int) : ∀ l : List T1, (∃ d ∈ l, t < d.To) → fidx t l < l.length
 | [], ⟨d, hd, _⟩ => nomatch hd
 | x :: r, he => by
  have e : fidx t (x :: r) = bif decide (x.To ≤ t) then fidx t r + 1 else 0 := rfl
  rw [e, List.length_cons]
  by_cases h : x.To ≤ t
  ·rw [Tp h]
   have := fidx_lt t r (by
    obtain ⟨d, hd, h2⟩ := he
    rcases List.mem_cons.1 hd with rfl | hd
    ·omega
    ·exact ⟨d, hd, h2⟩)
   omega
  ·rw [Tq h]
   omega
theorem Watcher_same (F : Nat) (a : Th) (hF : 1000 < F) (r : Int) (hc : J7 F (Ji a) = some r) (hr : Kf F a = some r) (hg : r = 0 → Good F (Ji a)) (t : Int) : ∃ w, Yv F a t = some w ∧ Xm F a t = some w := by
 unfold Yv Xm
 rw [show Tz.mk a.Duties a.Work a.Vetoes a.Data = Ji a from rfl, hc, hr, Td, Td]
 by_cases h0 : r = 0
 ·subst h0
  have g := hg rfl
  have t1 : a.Data.e0.length ≤ 512 := g.top
  have t2 : 1 ≤ a.Data.e0.length := g.one
  have m1 : a.Duties.length ≤ 64 := g.many
  unfold Jb
  rw [show (!((0 : Int) == 0)) = false from rfl, cond_false, cond_false, Td, Xl, Td, rIn, Td, show (Ji a).data = a.Data from rfl]
  rw [Xu (n := (a.Data.e0.length : Int) - 1) (by omega) (by omega)]
  cases h : inR 0 t ((a.Data.e0.length : Int) - 1) with
  | false => exact ⟨_, rfl, rfl⟩
  | true =>
   rw [inR_iff] at h
   have hex := Ve a.Data.e0.length t (by omega) a.Duties 0 g.chain h.1
   obtain ⟨d, hd⟩ := K6 (fidx_lt t a.Duties hex)
   have e := wfx1 F t a.Duties a.Duties m1 a.Duties.length F 0 rfl (by omega) (by omega) (by rw [List.drop_zero]; exact hex)
   rw [List.drop_zero, Nat.zero_add] at e
   have e' : Qf F a.Duties t F a.Duties (a.Duties.length : Int) (0 : Int) = _ := e
   refine ⟨(d.Who, 0), ?_, ?_⟩
   ·rw [Bool.not_true, cond_false]
    unfold X3 Km
    rw [show (Ji a).duties = a.Duties from rfl, e', Td, Qg, hd, Td, Td]
   ·rw [Bool.not_true, cond_false, rdy F hF t a.Duties m1 hex, Td, Qg, hd, Td]
 ·rw [show (!(r == 0)) = true by simp [h0], cond_true, cond_true]
  exact ⟨_, rfl, rfl⟩
def W9 (p : Int → Bool) : Int → Nat → Bool
 | _, 0 => true
 | s, k + 1 => p s && W9 p (s + 1) k
theorem Vi (p : Int → Bool) : ∀ (k : Nat) (s : Int), W9 p s k = true ↔ ∀ t, s ≤ t → t < s + k → p t = true
 | 0, s => ⟨fun _ t h1 h2 => by omega, fun _ => rfl⟩
 | k + 1, s => by
  have e : W9 p s (k + 1) = (p s && W9 p (s + 1) k) := rfl
  rw [e, Bool.and_eq_true, Vi p k (s + 1)]
  constructor
  ·rintro ⟨h1, h2⟩ t h3 h4
   by_cases h5 : t = s
   ·subst h5
    exact h1
   ·exact h2 t (by omega) (by omega)
  ·intro h
   exact ⟨h s (by omega) (by omega), fun t h3 h4 => h t (by omega) (by omega)⟩
def stL (p : Int → Bool) (len : Nat) : Nat → List Int
 | 0 => []
 | m + 1 => stL p len m ++ bif W9 p m len then [(m : Int)] else []
theorem Wa (p : Int → Bool) (len : Nat) : ∀ m, (stL p len m).length ≤ m
 | 0 => Nat.le_refl _
 | m + 1 => by
  have := Wa p len m
  have e : stL p len (m + 1) = stL p len m ++ bif W9 p m len then [(m : Int)] else [] := rfl
  rw [e, List.length_append]
  cases W9 p m len <;> simp <;> omega
theorem prd1 (F : Nat) (p : Int → Bool) (n len : Nat) (hn : n ≤ 512) (h1 : 1 ≤ len) (h2 : len ≤ 512) : ∀ (k N i : Nat) (f : Int), k = n - i → i ≤ n → k < N → 0 ≤ f → f ≤ i → (∀ t, f ≤ t → t < i → p t = true) → (f = 0 ∨ p (f - 1) = false) → Qj F N len f n i (stL p len (i + 1 - len)) (QL p n) = some (stL p len (n + 1 - len))
 | k, 0, i, f, _, _, h, _, _, _, _ => by omega
 | 0, N + 1, i, f, hk, hi, _, _, _, _, _ => by
  obtain rfl : i = n := by omega
  rw [Qj, Tq (by omega)]
 | k + 1, N + 1, i, f, hk, hi, hN, f0, f1, hf, hg => by
  have hx := Vc p n i (by omega)
  rw [Qj, Tp (by omega), Qg, hx, Td, up (by omega)]
  unfold Kr
  rw [up (by omega)]
  cases hp : p (i : Int) with
  | false =>
   have ih := prd1 F p n len hn h1 h2 k N (i + 1) ((i + 1 : Nat) : Int) (by omega) (by omega) (by omega) (by omega) (by omega) (fun t h3 h4 => by omega) (.inr (by rw [show ((i + 1 : Nat) : Int) - 1 = (i : Int) by omega]; exact hp))
   have e : stL p len (i + 1 + 1 - len) = stL p len (i + 1 - len) := by
    by_cases h3 : len ≤ i + 1
    ·rw [show i + 1 + 1 - len = (i + 1 - len) + 1 by omega]
     have e2 : W9 p ((i + 1 - len : Nat) : Int) len = false := by
      rw [Bool.eq_false_iff]
      intro h4
      have := (Vi p len _).1 h4 i (by omega) (by omega)
      rw [hp] at this
      exact absurd this (by decide)
     show stL p len (i + 1 - len) ++ (bif W9 p ((i + 1 - len : Nat) : Int) len then [((i + 1 - len : Nat) : Int)] else []) = _
     rw [e2, cond_false, List.append_nil]
    ·rw [show i + 1 + 1 - len = 0 by omega, show i + 1 - len = 0 by omega]
   rw [e] at ih
   rw [Bool.not_false, cond_true]
   exact ih
  | true =>
   have hf' : ∀ t, f ≤ t → t < ((i + 1 : Nat) : Int) → p t = true := fun t h3 h4 => by
    by_cases h5 : t = i
    ·subst h5
     exact hp
    ·exact hf t h3 (by omega)
   have ih := prd1 F p n len hn h1 h2 k N (i + 1) f (by omega) (by omega) (by omega) f0 (by omega) hf' hg
   rw [Bool.not_true, cond_false, Xu (n := ((i + 1 : Nat) : Int) - (len : Int)) (by omega) (by omega)]
   by_cases h3 : f ≤ ((i + 1 : Nat) : Int) - (len : Int)
   ·have e1 : ((i + 1 : Nat) : Int) - (len : Int) = ((i + 1 - len : Nat) : Int) := by omega
    have e2 : W9 p ((i + 1 - len : Nat) : Int) len = true := (Vi p len _).2 fun t h4 h5 => hf' t (by omega) (by omega)
    have e : stL p len (i + 1 + 1 - len) = stL p len (i + 1 - len) ++ [((i + 1 - len : Nat) : Int)] := by
     rw [show i + 1 + 1 - len = (i + 1 - len) + 1 by omega]
     show stL p len (i + 1 - len) ++ (bif W9 p ((i + 1 - len : Nat) : Int) len then [((i + 1 - len : Nat) : Int)] else []) = _
     rw [e2, cond_true]
    have hl := Wa p len (i + 1 - len)
    rw [e] at ih
    rw [Tp h3, e1, Vv (by simp; omega) (by omega), Td]
    exact ih
   ·have e : stL p len (i + 1 + 1 - len) = stL p len (i + 1 - len) := by
     by_cases h4 : len ≤ i + 1
     ·rw [show i + 1 + 1 - len = (i + 1 - len) + 1 by omega]
      have e2 : W9 p ((i + 1 - len : Nat) : Int) len = false := by
       rw [Bool.eq_false_iff]
       intro h5
       rcases hg with hg | hg
       ·omega
       ·have := (Vi p len _).1 h5 (f - 1) (by omega) (by omega)
        rw [hg] at this
        exact absurd this (by decide)
      show stL p len (i + 1 - len) ++ (bif W9 p ((i + 1 - len : Nat) : Int) len then [((i + 1 - len : Nat) : Int)] else []) = _
      rw [e2, cond_false, List.append_nil]
     ·rw [show i + 1 + 1 - len = 0 by omega, show i + 1 - len = 0 by omega]
    rw [e] at ih
    rw [Tq h3]
    exact ih
end Go.Ev.RunWatches
