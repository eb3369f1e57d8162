/- Maps: what is put is found. -/
import Derived.Test.YtajnglhkdglglaaGreatDoorRunWatchesMath7
namespace Go.Ev.RunWatches
open Go Go.Ev Go.Proofs
set_option linter.unusedVariables false
section
variable {K V : Type} {eq : K → K → Bool}
def lkM (eq : K → K → Bool) (k : K) : List (K × V) → Option V
 | [] => none
 | x :: l => bif eq k x.1 then some x.2 else lkM eq k l
theorem mfind_lk (k : K) : ∀ (l : List (K × V)) (i : Nat), (mfind eq k l i).map (·.2) = lkM eq k l
 | [], i => rfl
 | x :: l, i => by
  unfold mfind lkM
  cases eq k x.1 with
  | true => rfl
  | false => exact mfind_lk k l (i + 1)
theorem mget_lk (z : V) (l : List (K × V)) (k : K) : mget eq z l k = (lkM eq k l).getD z := by
 rw [← mfind_lk k l 0]
 unfold mget
 cases mfind eq k l 0 <;> rfl
def ptM (eq : K → K → Bool) (k : K) (v : V) : List (K × V) → List (K × V)
 | [] => [(k, v)]
 | x :: l => bif eq k x.1 then (k, v) :: l else x :: ptM eq k v l
theorem mput_pt (k : K) (v : V) : ∀ (l : List (K × V)) (i : Nat), (match mfind eq k l i with | some x => l.set (x.1 - i) (k, v) | none => l ++ [(k, v)]) = ptM eq k v l ∧ ∀ x, mfind eq k l i = some x → i ≤ x.1
 | [], i => ⟨rfl, fun x h => by simp [mfind] at h⟩
 | y :: l, i => by
  unfold mfind ptM
  cases h : eq k y.1 with
  | true =>
   refine ⟨?_, fun x hx => ?_⟩
   ·simp
   ·simp at hx
    rw [← hx]
    exact Nat.le_refl _
  | false =>
   obtain ⟨h1, h2⟩ := mput_pt k v l (i + 1)
   simp only [cond_false]
   cases hf : mfind eq k l (i + 1) with
   | none =>
    rw [hf] at h1
    refine ⟨?_, fun x hx => by simp at hx⟩
    simp only at h1 ⊢
    rw [← h1]
    rfl
   | some x =>
    have h3 := h2 x hf
    rw [hf] at h1
    refine ⟨?_, fun x' hx => ?_⟩
    ·simp only at h1 ⊢
     rw [← h1, show x.1 - i = (x.1 - (i + 1)) + 1 by omega]
     rfl
    ·simp only [Option.some.injEq] at hx
     subst hx
     omega
theorem mput_eq (l : List (K × V)) (k : K) (v : V) : mput eq l k v = ptM eq k v l := by
 rw [← (mput_pt k v l 0).1]
 unfold mput
 cases mfind eq k l 0 <;> rfl
theorem lk_pt (hE : ∀ a b, eq a b = true ↔ a = b) (k : K) (v : V) (x : K) : ∀ l : List (K × V), lkM eq x (ptM eq k v l) = bif eq x k then some v else lkM eq x l
 | [] => by
  unfold ptM lkM lkM
  rfl
 | y :: l => by
  unfold ptM
  cases h : eq k y.1 with
  | true =>
   have e := (hE _ _).1 h
   rw [cond_true]
   unfold lkM
   rw [← e]
   cases eq x k <;> rfl
  | false =>
   rw [cond_false]
   show (bif eq x y.1 then some y.2 else lkM eq x (ptM eq k v l)) = _
   rw [lk_pt hE k v x l]
   show _ = bif eq x k then some v else (bif eq x y.1 then some y.2 else lkM eq x l)
   cases h1 : eq x y.1 with
   | false => rfl
   | true =>
    cases h2 : eq x k with
    | false => rfl
    | true =>
     have e1 := (hE _ _).1 h1
     have e2 := (hE _ _).1 h2
     subst e2
     subst e1
     rw [(hE _ _).2 rfl] at h
     simp at h
theorem mget_put (hE : ∀ a b, eq a b = true ↔ a = b) (z : V) (l : List (K × V)) (k : K) (v : V) (x : K) : mget eq z (mput eq l k v) x = bif eq x k then v else mget eq z l x := by
 rw [mget_lk, mget_lk, mput_eq, lk_pt hE]
 cases eq x k <;> rfl
end
end Go.Ev.RunWatches
namespace Go.Ev.RunWatches
open Go Go.Ev Go.Proofs
set_option linter.unusedVariables false
def letB (c : Int) : Bool := decide (97 ≤ c) && decide (c ≤ 122)
def othB (c : Int) : Bool := decide (48 ≤ c) && decide (c ≤ 57) || c == 95
theorem sAt_get {s : List UInt8} {i : Nat} {c : Int} (h : (X1 s)[i]? = some c) : sAt s (i : Int) = some c := by
 unfold X1 at h
 rw [List.getElem?_map] at h
 obtain ⟨b, hb, rfl⟩ := Option.map_eq_some_iff.1 h
 show (s[i]?).map _ = _
 rw [hb]
 rfl
theorem Zy (a b : Int) : decide (a < b) = !decide (b ≤ a) := by
 by_cases h : b ≤ a
 ·rw [decide_eq_false (by omega), decide_eq_true h]; rfl
 ·rw [decide_eq_true (by omega), decide_eq_false h]; rfl
theorem rn5 (F : Nat) (hd : List UInt8 → Int → Option Bool) (s : List UInt8) (i c : Int) : (bif decide (c < 97) then G3 F hd s i c true else G3 F hd s i c (decide (122 < c))) = bif letB c || othB c then hd s (w64 (i + 1)) else some false := by
 unfold G3 Gt Y5 X0 Gz letB othB
 rw [Zy c 97, Zy 122 c, Zy c 48, Zy 57 c]
 cases decide (97 ≤ c) <;> cases decide (c ≤ 122) <;> cases decide (48 ≤ c) <;> cases decide (c ≤ 57) <;> cases c == 95 <;> rfl
theorem rn4 (F : Nat) (s : List UInt8) (hs : s.length ≤ 1000) : ∀ (k N i : Nat), k = s.length - i → i ≤ s.length → k < N → J6 F N s i = some (((X1 s).drop i).all fun c => letB c || othB c)
 | k, 0, i, _, _, h => by omega
 | 0, N + 1, i, hk, hi, _ => by
  rw [J6, Tq (by omega), List.drop_of_length_le (by rw [Yq]; omega)]
  rfl
 | k + 1, N + 1, i, hk, hi, hN => by
  obtain ⟨c, hc⟩ := K6 (l := X1 s) (i := i) (by rw [Yq]; omega)
  rw [J6, Tp (by omega), sAt_get hc, Td, rn5, up (by omega), rn4 F s hs k N (i + 1) (by omega) (by omega) (by omega), Qw hc, List.all_cons]
  cases (letB c || othB c) <;> rfl
theorem charB_eq (i c : Int) : charB i c = (letB c || (othB c && decide (0 < i))) := rfl
theorem chars_pos : ∀ (l : List Int) (i : Int), 0 < i → V1 l i = l.all fun c => letB c || othB c
 | [], i, _ => rfl
 | c :: r, i, h => by
  show (charB i c && V1 r (i + 1)) = _
  rw [chars_pos r (i + 1) (by omega), charB_eq, decide_eq_true h, Bool.and_true, List.all_cons]
theorem W4 (F : Nat) (hF : 20 < F) (s : List UInt8) : Xb F s = some (Z3 s) := by
 unfold Xb Z3 Gv Gu Gs
 by_cases h0 : s.length = 0
 ·have e : s = [] := List.length_eq_zero_iff.1 h0
  subst e
  rfl
 ·rw [Tq (by omega), decide_eq_true (show 1 ≤ s.length by omega), Bool.true_and]
  by_cases h1 : s.length ≤ 16
  ·obtain ⟨c, hc⟩ := K6 (l := X1 s) (i := 0) (by rw [Yq]; omega)
   have b : sAt s (0 : Int) = some c := sAt_get (i := 0) hc
   have hb : X1 s = c :: (X1 s).drop 1 := by
    have := Qw hc
    rwa [List.drop_zero] at this
   have h4 := rn4 F s (by omega) s.length F 0 rfl (by omega) (by omega)
   rw [List.drop_zero] at h4
   have a : J6 F F s (0 : Int) = _ := h4
   have e : V1 (X1 s) 0 = (letB c && (X1 s).all fun c => letB c || othB c) := by
    rw [hb]
    show (charB 0 c && V1 _ (0 + 1)) = _
    rw [chars_pos _ (0 + 1) (by omega), charB_eq, decide_eq_false (by omega), Bool.and_false, Bool.or_false, List.all_cons]
    cases letB c <;> simp
   rw [decide_eq_false (by omega), decide_eq_true h1, Bool.true_and, e, b, Td, Td, a, Zy c 97, Zy 122 c]
   unfold letB
   cases decide (97 ≤ c) <;> cases decide (c ≤ 122) <;> rfl
  ·rw [decide_eq_true (by omega), decide_eq_false h1]
   rfl
end Go.Ev.RunWatches
namespace Go.Ev.RunWatches
open Go Go.Ev Go.Proofs
set_option linter.unusedVariables false
theorem rIn (F : Nat) (a b c : Int) : X2 F a b c = some (inR b a c) := by
 unfold X2 inR Z4
 by_cases h : b ≤ a <;> simp [h]
def valB (l : List Int) : Bool := l.all fun x => inR (-4096) x 4096
def smpB (d : Qn) : Bool := inR 1 (d.e0.length : Int) 512 && (((d.e1.length : Int) == (d.e0.length : Int)) && (valB d.e0 && valB d.e1))
theorem val1v (F : Nat) (l : List Int) (hl : l.length ≤ 512) : ∀ (k N i : Nat), k = l.length - i → i ≤ l.length → k < N → J4 F N l l.length i = some (valB (l.drop i))
 | k, 0, i, _, _, h => by omega
 | 0, N + 1, i, hk, hi, _ => by
  rw [J4, Tq (by omega), List.drop_of_length_le (by omega : l.length ≤ i)]
  rfl
 | k + 1, N + 1, i, hk, hi, hN => by
  obtain ⟨x, hx⟩ := K6 (l := l) (i := i) (by omega)
  have e : valB (x :: l.drop (i + 1)) = (inR (-4096) x 4096 && valB (l.drop (i + 1))) := rfl
  have e2 : (!(decide ((0 : Int) ≤ (i : Int)))) = false := by simp
  rw [J4, Tp (by omega), Qg, hx, Td]
  unfold Ge
  rw [Xl, Td, Td, up (by omega), val1v F l hl k N (i + 1) (by omega) (by omega) (by omega), Qw hx, e, e2]
  cases inR (-4096) x 4096 <;> rfl
theorem val_v (F : Nat) (hF : 1000 < F) (l : List Int) (hl : l.length ≤ 512) : Gp F l = some (valB l) :=
 val1v F l hl l.length F 0 rfl (by omega) (by omega)
theorem smp_v (F : Nat) (hF : 1000 < F) (d : Qn) : G5 F d = some (smpB d) := by
 unfold G5 smpB
 rw [Xl, Td]
 cases h : inR 1 (d.e0.length : Int) 512 with
 | false => rfl
 | true =>
  rw [inR_iff] at h
  unfold Ks
  cases h2 : ((d.e1.length : Int) == (d.e0.length : Int)) with
  | false => rfl
  | true =>
   have h3 : (d.e1.length : Int) = (d.e0.length : Int) := by simpa using h2
   rw [cond_true, cond_true, val_v F hF d.e0 (by omega), Td]
   unfold Ko Kq
   rw [val_v F hF d.e1 (by omega), Td]
   cases valB d.e0 <;> rfl
theorem rs3 (F : Nat) (a : Int → Int → (List T1) → (List T0) → (List T2) → (List T2) → (List Int) → (List Int) → Option (Bool)) (c0 : List T1) (c1 : List T0) (c2 c3 : List T2) (c4 c5 l : List Int) (d : Int) (hd : d = 0 ∧ l = c4 ∨ d = 1 ∧ l = c5) (n : Nat) (hl : l.length = n) (hn : n ≤ 512) : ∀ (k N i : Nat), k = n - i → i ≤ n → k < N → J2 F a N n d i c0 c1 c2 c3 c4 c5 = bif valB (l.drop i) then a n (w64 (d + 1)) c0 c1 c2 c3 c4 c5 else some false
 | k, 0, i, _, _, h => by omega
 | 0, N + 1, i, hk, hi, _ => by
  rw [J2, Tq (by omega), List.drop_of_length_le (by omega : l.length ≤ i)]
  rfl
 | k + 1, N + 1, i, hk, hi, hN => by
  obtain ⟨x, hx⟩ := K6 (l := l) (i := i) (by omega)
  have ih := rs3 F a c0 c1 c2 c3 c4 c5 l d hd n hl hn k N (i + 1) (by omega) (by omega) (by omega)
  have e : valB (x :: l.drop (i + 1)) = (inR (-4096) x 4096 && valB (l.drop (i + 1))) := rfl
  rw [J2, Tp (by omega), Qw hx, e]
  rcases hd with ⟨hd, hc⟩ | ⟨hd, hc⟩
  ·subst hd
   rw [show ((0 : Int) == 0) = true from rfl, cond_true]
   have hx' : c4[i]? = some x := by rw [← hc]; exact hx
   unfold Xv
   rw [Qg, hx', Td, rIn, Td, up (by omega), ih]
   cases inR (-4096) x 4096 <;> rfl
  ·subst hd
   rw [show ((1 : Int) == 0) = false from rfl, cond_false, show ((1 : Int) == 1) = true from rfl, cond_true]
   have hx' : c5[i]? = some x := by rw [← hc]; exact hx
   unfold Xj
   rw [Qg, hx', Td, rIn, Td, up (by omega), ih]
   cases inR (-4096) x 4096 <;> rfl
theorem rs2 (F : Nat) (hF : 1000 < F) (c0 : List T1) (c1 : List T0) (c2 c3 : List T2) (c4 c5 : List Int) (n : Nat) (h4 : c4.length = n) (h5 : c5.length = n) (hn : n ≤ 512) (N : Nat) : Qv F (N + 3) n 0 c0 c1 c2 c3 c4 c5 = some (valB c4 && valB c5) := by
 rw [Qv, Tp (by decide)]
 refine Eq.trans (rs3 F (Qv F (N + 2)) c0 c1 c2 c3 c4 c5 c4 0 (.inl ⟨rfl, rfl⟩) n h4 hn n F 0 rfl (by omega) (by omega)) ?_
 rw [show w64 ((0 : Int) + 1) = 1 by decide, Qv, Tp (by decide)]
 have := rs3 F (Qv F (N + 1)) c0 c1 c2 c3 c4 c5 c5 1 (.inr ⟨rfl, rfl⟩) n h5 hn n F 0 rfl (by omega) (by omega)
 rw [show ((0 : Nat) : Int) = 0 from rfl] at this
 rw [this, show w64 ((1 : Int) + 1) = 2 by decide, Qv, Tq (by decide), List.drop_zero, List.drop_zero]
 cases valB c4 <;> cases valB c5 <;> rfl
theorem rsmp (F : Nat) (hF : 1000 < F) (a : Th) : Xt F a = some (smpB a.Data) := by
 unfold Xt smpB Gj
 cases h2 : ((a.Data.e0.length : Int) == (a.Data.e1.length : Int)) with
 | false =>
  have e : ((a.Data.e1.length : Int) == (a.Data.e0.length : Int)) = false := by rw [← h2]; exact BEq.comm
  rw [e]
  cases inR 1 (a.Data.e0.length : Int) 512 <;> rfl
 | true =>
  have e : ((a.Data.e1.length : Int) == (a.Data.e0.length : Int)) = true := by rw [← h2]; exact BEq.comm
  have h3 : (a.Data.e0.length : Int) = (a.Data.e1.length : Int) := by simpa using h2
  rw [e, rIn, Td]
  cases h : inR 1 (a.Data.e0.length : Int) 512 with
  | false => rfl
  | true =>
   rw [inR_iff] at h
   have := rs2 F hF a.Duties a.Work a.Vetoes.e0 a.Vetoes.e1 a.Data.e0 a.Data.e1 a.Data.e0.length rfl (by omega) (by omega) (F - 3)
   rw [show F - 3 + 3 = F by omega] at this
   exact this
def dutB (n : Int) : List UInt8 → Int → List T1 → Bool
 | _, a, [] => a == n
 | w, a, d :: r => (Z3 d.Who && !(d.Who == w)) && ((d.From == a && inR (a + 1) d.To (a + 128)) && dutB n d.Who d.To r)
theorem dut1v (F : Nat) (hF : 1000 < F) (n : Int) (l : List T1) (hl : l.length ≤ 64) : ∀ (k N i : Nat) (c : T1), k = l.length - i → i ≤ l.length → k < N → 0 ≤ c.To → c.To ≤ 128 * i → Q5 F N n l l.length i c = some (dutB n c.Who c.To (l.drop i))
 | k, 0, i, c, _, _, h, _, _ => by omega
 | 0, N + 1, i, c, hk, hi, _, _, _ => by
  rw [Q5, Tq (by omega), List.drop_of_length_le (by omega : l.length ≤ i)]
  rfl
 | k + 1, N + 1, i, c, hk, hi, hN, h0, h1 => by
  obtain ⟨x, hx⟩ := K6 (l := l) (i := i) (by omega)
  have e : dutB n c.Who c.To (x :: l.drop (i + 1)) = ((Z3 x.Who && !(x.Who == c.Who)) && ((x.From == c.To && inR (c.To + 1) x.To (c.To + 128)) && dutB n x.Who x.To (l.drop (i + 1)))) := rfl
  rw [Q5, Tp (by omega), Qg, hx, Td, Vq F (by omega), Td, Qw hx, e]
  unfold Kl G7 G9
  by_cases hf : x.From = c.To
  ·have e1 : (x.From == c.To) = true := by simp [hf]
   rw [e1, hf, Xu (n := c.To + 1) (by omega) (by omega), Xu (n := c.To + 128) (by omega) (by omega), Xl, Td]
   cases hr : inR (c.To + 1) x.To (c.To + 128) with
   | false => cases Z3 x.Who <;> cases x.Who == c.Who <;> rfl
   | true =>
    rw [inR_iff] at hr
    rw [up (by omega), dut1v F hF n l hl k N (i + 1) x (by omega) (by omega) (by omega) (by omega) (by omega)]
    cases Z3 x.Who <;> cases x.Who == c.Who <;> rfl
  ·have e1 : (x.From == c.To) = false := by simp [hf]
   rw [e1]
   cases Z3 x.Who <;> cases x.Who == c.Who <;> rfl
theorem dut_v (F : Nat) (hF : 1000 < F) (n : Int) (l : List T1) : Gb F l n = some (dutB n [] 0 l && decide ((l.length : Int) ≤ 64)) := by
 unfold Gb
 by_cases h : l.length ≤ 64
 ·rw [Tq (by omega), decide_eq_true (by omega : (l.length : Int) ≤ 64), Bool.and_true]
  exact dut1v F hF n l h l.length F 0 (T1.mk [] 0 0) rfl (by omega) (by omega) (by exact Int.le_refl 0) (by exact Int.le_refl 0)
 ·rw [Tp (by omega), decide_eq_false (by omega : ¬ (l.length : Int) ≤ 64), Bool.and_false]
theorem rdut1 (F : Nat) (hF : 1000 < F) (n : Int) (l : List T1) (hl : l.length ≤ 140737488355328) : ∀ (k N i : Nat) (w : List UInt8) (a : Int), k = l.length - i → i ≤ l.length → k < N → 0 ≤ a → a ≤ 128 * i → (i = 0 ∧ w = [] ∨ 0 < i ∧ ∃ p, l[i - 1]? = some p ∧ p.Who = w) → Ty F N l n a i = some (dutB n w a (l.drop i) && decide ((l.length : Int) ≤ 64))
 | k, 0, i, w, a, _, _, h, _, _, _ => by omega
 | 0, N + 1, i, w, a, hk, hi, _, _, _, _ => by
  rw [Ty, Tq (by omega), List.drop_of_length_le (by omega : l.length ≤ i)]
  unfold Gg
  have e : dutB n w a [] = (a == n) := rfl
  rw [e]
  cases a == n <;> rfl
 | k + 1, N + 1, i, w, a, hk, hi, hN, h0, h1, hw => by
  obtain ⟨x, hx⟩ := K6 (l := l) (i := i) (by omega)
  have e : dutB n w a (x :: l.drop (i + 1)) = ((Z3 x.Who && !(x.Who == w)) && ((x.From == a && inR (a + 1) x.To (a + 128)) && dutB n x.Who x.To (l.drop (i + 1)))) := rfl
  rw [Ty, Tp (by omega), Qg, hx, Td, Qw hx, e]
  unfold J5
  cases hf : x.From == a with
  | false => cases Z3 x.Who <;> cases x.Who == w <;> rfl
  | true =>
   rw [Xu (by omega : -9223372036854775808 ≤ a + 1) (by omega), Xu (by omega : -9223372036854775808 ≤ a + 128) (by omega), rIn, Td]
   cases hr : inR (a + 1) x.To (a + 128) with
   | false => cases Z3 x.Who <;> cases x.Who == w <;> rfl
   | true =>
    rw [inR_iff] at hr
    have ih := rdut1 F hF n l hl k N (i + 1) x.Who x.To (by omega) (by omega) (by omega) (by omega) (by omega) (.inr ⟨by omega, x, hx, rfl⟩)
    rw [W4 F (by omega), Td, up (by omega), ih]
    cases hn : Z3 x.Who with
    | false => cases x.Who == w <;> rfl
    | true =>
     rcases hw with ⟨h2, h3⟩ | ⟨h2, p, hp, h3⟩
     ·have e3 : (x.Who == w) = false := by
       rw [h3]
       cases h4 : x.Who with
       | nil => rw [h4] at hn; exact absurd hn (by decide)
       | cons _ _ => rfl
      rw [Tq (by omega), e3]
      rfl
     ·have e3 : (p.Who == x.Who) = (x.Who == w) := by rw [h3]; exact BEq.comm
      have e4 : w64 ((i : Int) - 1) = ((i - 1 : Nat) : Int) := by rw [Xu (by omega) (by omega)]; omega
      rw [Tp (by omega), e4, Qg, hp, Td, e3]
      cases x.Who == w <;> rfl
theorem rdutL (F : Nat) (hF : 1000 < F) (n : Int) (l : List T1) (b : 64 < l.length) (hl : l.length ≤ 9223372036854775807) : ∀ (k N i : Nat) (a : Int), k = l.length - i → i ≤ l.length → k < N → Ty F N l n a i = some false
 | k, 0, i, a, _, _, h => by omega
 | 0, N + 1, i, a, hk, hi, _ => by
  rw [Ty, Tq (by omega)]
  unfold Gg
  rw [decide_eq_false (by omega : ¬ (l.length : Int) ≤ 64)]
  cases a == n <;> rfl
 | k + 1, N + 1, i, a, hk, hi, hN => by
  obtain ⟨x, hx⟩ := K6 (l := l) (i := i) (by omega)
  have key : ∀ v, J5 F (Ty F N) l n i v x = some false := by
   intro v
   unfold J5
   rw [up (by omega), rdutL F hF n l b hl k N (i + 1) x.To (by omega) (by omega) (by omega)]
   cases v <;> rfl
  have inner : (bif decide ((0 : Int) < (i : Int)) then bnd (idx l (w64 ((i : Int) - 1))) (fun c => J5 F (Ty F N) l n i (c.Who == x.Who) x) else J5 F (Ty F N) l n i false x) = some false := by
   by_cases h0 : i = 0
   ·rw [Tq (by omega), key]
   ·obtain ⟨p, hp⟩ := K6 (l := l) (i := i - 1) (by omega)
    have e4 : w64 ((i : Int) - 1) = ((i - 1 : Nat) : Int) := by rw [Xu (by omega) (by omega)]; omega
    rw [Tp (by omega), e4, Qg, hp, Td, key]
  rw [Ty, Tp (by omega), Qg, hx, Td, key true, rIn, Td, W4 F (by omega), Td, inner]
  cases x.From == a <;> cases inR (w64 (a + 1)) x.To (w64 (a + 128)) <;> cases Z3 x.Who <;> rfl
theorem rdut (F : Nat) (n : Int) (l : List T1) (hl : l.length ≤ 9223372036854775807) (hF : 1000 + l.length < F) : Z1 F l n = some (dutB n [] 0 l && decide ((l.length : Int) ≤ 64)) := by
 by_cases h : l.length ≤ 64
 ·exact rdut1 F (by omega) n l (by omega) l.length F 0 [] 0 rfl (by omega) (by omega) (Int.le_refl _) (Int.le_refl _) (.inl ⟨rfl, rfl⟩)
 ·rw [decide_eq_false (by omega : ¬ (l.length : Int) ≤ 64), Bool.and_false]
  exact rdutL F (by omega) n l (by omega) hl l.length F 0 0 rfl (by omega) (by omega)
theorem Vx (n : Int) : ∀ (l : List T1) (w : List UInt8) (a : Int), dutB n w a l = true → V2 n a l
 | [], w, a, h => by
  have e : a = n := by simpa [dutB] using h
  exact e
 | x :: r, w, a, h => by
  simp only [dutB, Bool.and_eq_true, beq_iff_eq] at h
  obtain ⟨_, ⟨h1, h2⟩, h3⟩ := h
  rw [inR_iff] at h2
  exact ⟨h1, by omega, Vx n r _ _ h3⟩
end Go.Ev.RunWatches
