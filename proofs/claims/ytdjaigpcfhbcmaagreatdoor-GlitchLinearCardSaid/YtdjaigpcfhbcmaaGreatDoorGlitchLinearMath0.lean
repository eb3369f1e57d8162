/- Plain words: numbers that don't overflow, elements and parts of lists. -/
import Derived.Test.YtdjaigpcfhbcmaaGreatDoorGlitchLinearPlain
namespace Go.Ev
set_option linter.unusedVariables false
open Go
theorem w64_id {n : Int} (h1 : -9223372036854775808 ≤ n) (h2 : n ≤ 9223372036854775807) : w64 n = n := wrap_in .i64 n h1 h2
theorem w64_nat {n : Nat} (h2 : n ≤ 9223372036854775807) : w64 (n : Int) = (n : Int) := w64_id (by omega) (by omega)
theorem idx_nat {α : Type} (l : List α) (i : Nat) : idx l (i : Int) = l[i]? := rfl
theorem idx_at {α : Type} {l : List α} {i : Nat} {a : α} (h : l[i]? = some a) {j : Int} (hj : j = i) : idx l j = some a := by subst hj; exact h
theorem bnd_eq {α β : Type} (a : α) (f : α → Option β) : bnd (some a) f = f a := rfl
theorem bif_pos' {p : Prop} [Decidable p] (h : p) {α : Type} (x y : α) : (bif decide p then x else y) = x := by simp [h]
theorem bif_neg' {p : Prop} [Decidable p] (h : ¬ p) {α : Type} (x y : α) : (bif decide p then x else y) = y := by simp [h]
theorem sub0 {α : Type} (l : List α) (b : Nat) (h0 : 0 < b) (h1 : b ≤ l.length) {j : Int} (hj : j = b) : sub l 0 j = some (l.take b) := by
  subst hj
  show (bif decide (0 ≤ b) && decide (b ≤ l.length) then some ((l.take b).drop 0) else none) = _
  simp [h1]
theorem subc0 {α : Type} (l : List α) (b : Nat) (h1 : b ≤ l.length) {j : Int} (hj : j = b) : sub l 0 j = some (l.take b) := by
  subst hj
  show (bif decide (0 ≤ b) && decide (b ≤ l.length) then some ((l.take b).drop 0) else none) = _
  simp [h1]
theorem subcL {α : Type} (l : List α) (a : Nat) (h1 : a ≤ l.length) {j : Int} (hj : j = a) : sub l j l.length = some (l.drop a) := by
  subst hj
  show (bif decide (a ≤ l.length) && decide (l.length ≤ l.length) then some ((l.take l.length).drop a) else none) = _
  simp [h1]
theorem inn_at {α : Type} {l : List α} {i : Nat} (h : i < l.length) {j : Int} (hj : j = i) : inn l j = some i := by
  subst hj
  show (bif Nat.blt i l.length then some i else none) = _
  rw [show Nat.blt i l.length = true from Nat.ble_eq_true_of_le h]
  rfl
theorem upd_at {α : Type} {l : List α} {i : Nat} (h : i < l.length) (a : α) : upd l (i : Int) a = some (l.set i a) := by
  show (bif Nat.blt i l.length then some (l.set i a) else none) = _
  rw [show Nat.blt i l.length = true from Nat.ble_eq_true_of_le h]
  rfl
theorem apd_eq {α : Type} {bytes : Nat} {l l' : List α} (h1 : l.length + l'.length ≤ 1073741824) (h2 : 2 * (l.length + l'.length) * bytes ≤ 281474976710656) : apd bytes l l' = some (l ++ l') := by
  unfold apd
  rw [show Nat.ble (l.length + l'.length) 1073741824 = true from Nat.ble_eq_true_of_le h1, show Nat.ble (2 * (l.length + l'.length) * bytes) 281474976710656 = true from Nat.ble_eq_true_of_le h2]
  rfl
theorem drop_get {α : Type} {l : List α} {i : Nat} {a : α} (h : l[i]? = some a) : l.drop i = a :: l.drop (i + 1) := by
  obtain ⟨hi, rfl⟩ := List.getElem?_eq_some_iff.1 h
  exact List.drop_eq_getElem_cons hi
theorem get_lt {α : Type} {l : List α} {i : Nat} (h : i < l.length) : ∃ a, l[i]? = some a := ⟨l[i], List.getElem?_eq_getElem h⟩
theorem t2 (n : Int) : 2 * Int.tdiv n 2 + Int.tmod n 2 = n ∧ (0 ≤ n → 0 ≤ Int.tmod n 2 ∧ Int.tmod n 2 < 2) ∧ (n ≤ 0 → -2 < Int.tmod n 2 ∧ Int.tmod n 2 ≤ 0) := by
  cases n with
  | ofNat m =>
    have e1 : Int.tdiv (Int.ofNat m) 2 = ((m / 2 : Nat) : Int) := rfl
    have e2 : Int.tmod (Int.ofNat m) 2 = ((m % 2 : Nat) : Int) := rfl
    rw [e1, e2]
    have : Int.ofNat m = (m : Int) := rfl
    omega
  | negSucc m =>
    have e1 : Int.tdiv (Int.negSucc m) 2 = -(((m + 1) / 2 : Nat) : Int) := rfl
    have e2 : Int.tmod (Int.negSucc m) 2 = -(((m + 1) % 2 : Nat) : Int) := rfl
    rw [e1, e2]
    have : Int.negSucc m = -((m : Int) + 1) := by omega
    omega
theorem tdiv_nat (m n : Nat) : Int.tdiv (m : Int) (n : Int) = ((m / n : Nat) : Int) := rfl
theorem pow2_inj {k n : Nat} (h : (2 : Nat) ^ k = 2 ^ n) : k = n := by
  rcases Nat.lt_trichotomy k n with h1 | h1 | h1
  · have := Nat.pow_lt_pow_right (a := 2) (by omega) h1
    omega
  · exact h1
  · have := Nat.pow_lt_pow_right (a := 2) (by omega) h1
    omega
theorem two_pow_pos' (k : Nat) : (1 : Int) ≤ 2 ^ k := by
  have h : ((2 ^ k : Nat) : Int) = (2 : Int) ^ k := by simp
  have := Nat.one_le_two_pow (n := k)
  omega
end Go.Ev
