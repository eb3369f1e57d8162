/- Helpers for plain functions. -/
import Derived.Test.YtajnglhkdglglaaGreatDoorRunWatchesPlain3
namespace Go.Ev.RunWatches
open Go Go.Ev
set_option linter.unusedVariables false
theorem Xu {n : Int} (h1 : -9223372036854775808 ≤ n) (h2 : n ≤ 9223372036854775807) : w64 n = n := Zg .i64 n h1 h2
theorem up {i : Nat} (h : i < 9223372036854775807) : w64 ((i : Int) + 1) = ((i + 1 : Nat) : Int) := by rw [Xu (by omega) (by omega)]; simp
theorem Qg {α : Type} (l : List α) (i : Nat) : idx l (i : Int) = l[i]? := rfl
theorem Td {α β : Type} (a : α) (f : α → Option β) : bnd (some a) f = f a := rfl
theorem Tp {p : Prop} [Decidable p] (h : p) {α : Type} (x y : α) : (bif decide p then x else y) = x := by simp [h]
theorem Tq {p : Prop} [Decidable p] (h : ¬ p) {α : Type} (x y : α) : (bif decide p then x else y) = y := by simp [h]
theorem upd_at {α : Type} {l : List α} {i : Nat} (h : i < l.length) (a : α) : upd l (i : Int) a = some (l.set i a) := by
 show (bif Nat.blt i l.length then some (l.set i a) else none) = _
 rw [show Nat.blt i l.length = true from Nat.ble_eq_true_of_le h]
 rfl
theorem inn_at {α : Type} {l : List α} {i : Nat} (h : i < l.length) : inn l (i : Int) = some i := by
 show (bif Nat.blt i l.length then some i else none) = _
 rw [show Nat.blt i l.length = true from Nat.ble_eq_true_of_le h]
 rfl
theorem Vv {α : Type} {l l' : List α} {z : Nat} (h : l.length + l'.length ≤ 1000000) (hz : z ≤ 64) : apd z l l' = some (l ++ l') := by
 unfold apd
 have : 2 * (l.length + l'.length) * z ≤ 2 * 1000000 * 64 := Nat.mul_le_mul (by omega) hz
 rw [show Nat.ble (l.length + l'.length) 4611686018427387904 = true from Nat.ble_eq_true_of_le (by omega), show Nat.ble (2 * (l.length + l'.length) * z) 281474976710656 = true from Nat.ble_eq_true_of_le (by omega)]
 rfl
theorem mk_ok {α : Type} {z : α} {n : Nat} {by' : Nat} (h : n ≤ 1000000) (hb : by' ≤ 64) : mk (n : Int) by' z = some (List.replicate n z) := by
 show (bif Nat.ble n 4611686018427387904 && Nat.ble (n * by') 281474976710656 then some (List.replicate n z) else none) = _
 have : n * by' ≤ 1000000 * 64 := Nat.mul_le_mul h hb
 rw [show Nat.ble n 4611686018427387904 = true from Nat.ble_eq_true_of_le (by omega), show Nat.ble (n * by') 281474976710656 = true from Nat.ble_eq_true_of_le (by omega)]
 rfl
theorem Qw {α : Type} {l : List α} {i : Nat} {a : α} (h : l[i]? = some a) : l.drop i = a :: l.drop (i + 1) := by
 obtain ⟨hi, rfl⟩ := List.getElem?_eq_some_iff.1 h
 exact List.drop_eq_getElem_cons hi
theorem K6 {α : Type} {l : List α} {i : Nat} (h : i < l.length) : ∃ a, l[i]? = some a := ⟨l[i], List.getElem?_eq_getElem h⟩
def inR (a b c : Int) : Bool := decide (a ≤ b) && decide (b ≤ c)
theorem inR_iff {a b c : Int} : inR a b c = true ↔ a ≤ b ∧ b ≤ c := by simp [inR]
end Go.Ev.RunWatches
namespace Go.Ev.RunWatches
set_option linter.unusedVariables false
open Go Go.Ev
theorem subP_ok {len a b : Nat} {lo hi : Int} (hlo : lo = a) (hhi : hi = b) (h1 : a ≤ b) (h2 : b ≤ len) : subP len lo hi = some (a, b - a) := by
 subst hlo; subst hhi
 show (bif decide (a ≤ b) && decide (b ≤ len) then some (a, b - a) else none) = _
 simp [h1, h2]
theorem parL_ok {α : Type} {l : List α} {off len : Nat} (h : off + len ≤ l.length) : parL l off len = some ((l.drop off).take len) := by
 unfold parL
 simp [h]
end Go.Ev.RunWatches
namespace Go.Ev.RunWatches
set_option linter.unusedVariables false
open Go Go.Ev Go.Proofs
theorem Xl (F : Nat) (a b c : Int) : Gh F a b c = some (inR a b c) := by
 unfold Gh inR Yd
 by_cases h : a ≤ b <;> simp [h]
end Go.Ev.RunWatches
namespace Go.Ev.RunWatches
open Go Go.Ev Go.Proofs
set_option linter.unusedVariables false
def charB (i c : Int) : Bool := (decide (97 ≤ c) && decide (c ≤ 122)) || ((decide (48 ≤ c) && decide (c ≤ 57) || c == 95) && decide (0 < i))
def V1 : List Int → Int → Bool
 | [], _ => true
 | c :: r, i => charB i c && V1 r (i + 1)
def Z3 (s : List UInt8) : Bool := decide (1 ≤ s.length) && (decide (s.length ≤ 16) && V1 (X1 s) 0)
theorem nm3 (F : Nat) (hd : List Int → Int → Int → Option Bool) (c : Int) (l : List Int) (n i : Int) (lt : Bool) : Xc F hd i c l n i lt = bif lt || ((decide (48 ≤ c) && decide (c ≤ 57) || c == 95) && decide (0 < i)) then hd l n (w64 (i + 1)) else some false := by
 unfold Xc Ye Yf Yg Z0 X9
 cases lt <;> cases decide (48 ≤ c) <;> cases decide (c ≤ 57) <;> cases c == 95 <;> cases decide (0 < i) <;> rfl
theorem nm2 (F : Nat) (l : List Int) (hl : l.length ≤ 1000) : ∀ (k N i : Nat), k = l.length - i → i ≤ l.length → k < N → Ka F N l l.length i = some (V1 (l.drop i) i)
 | k, 0, i, _, _, h => by omega
 | 0, N + 1, i, hk, hi, _ => by
  rw [Ka, Tq (by omega), List.drop_of_length_le (by omega)]
  rfl
 | k + 1, N + 1, i, hk, hi, hN => by
  obtain ⟨c, hc⟩ := K6 (l := l) (i := i) (by omega)
  rw [Ka, Tp (by omega), Qg, hc, Td, nm3, nm3, up (by omega), nm2 F l hl k N (i + 1) (by omega) (by omega) (by omega), Qw hc]
  show _ = some (charB i c && V1 (l.drop (i + 1)) ((i : Int) + 1))
  unfold charB
  rw [show ((i + 1 : Nat) : Int) = (i : Int) + 1 by omega]
  generalize V1 (l.drop (i + 1)) ((i : Int) + 1) = r
  cases decide (97 ≤ c) <;> cases decide (c ≤ 122) <;> cases ((decide (48 ≤ c) && decide (c ≤ 57) || c == 95) && decide (0 < (i : Int))) <;> rfl
theorem Vq (F : Nat) (hF : 20 < F) (s : List UInt8) : Yr F s = some (Z3 s) := by
 unfold Yr Z3 Y9
 by_cases h0 : s.length = 0
 ·have e : s = [] := List.length_eq_zero_iff.1 h0
  subst e
  rfl
 ·have e0 : ((s.length : Int) == (0 : Int)) = false := by rw [beq_eq_false_iff_ne]; omega
  rw [e0, cond_false, decide_eq_true (show 1 ≤ s.length by omega), Bool.true_and]
  by_cases h1 : s.length ≤ 16
  ·rw [Tq (by omega), decide_eq_true h1, Bool.true_and]
   have hb : byt s = some (X1 s) := by
    unfold byt
    rw [Nat.ble_eq_true_of_le (by omega)]
    rfl
   have := nm2 F (X1 s) (by rw [Yq]; omega) (X1 s).length F 0 rfl (by omega) (by rw [Yq]; omega)
   rw [hb, Td]
   exact this
  ·rw [Tp (by omega), decide_eq_false h1]
   rfl
end Go.Ev.RunWatches
