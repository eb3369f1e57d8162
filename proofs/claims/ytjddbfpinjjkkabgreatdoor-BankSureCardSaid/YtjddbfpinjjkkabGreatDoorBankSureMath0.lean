/- Helpers for plain functions. -/
import Derived.Test.YtjddbfpinjjkkabGreatDoorBankSurePlain2
namespace Go.Ev.BankSure
open Go Go.Ev
set_option linter.unusedVariables false
theorem w64_id {n : Int} (h1 : -9223372036854775808 ≤ n) (h2 : n ≤ 9223372036854775807) : w64 n = n := wrap_in .i64 n h1 h2
theorem up {i : Nat} (h : i < 9223372036854775807) : w64 ((i : Int) + 1) = ((i + 1 : Nat) : Int) := by rw [w64_id (by omega) (by omega)]; simp
theorem idx_nat {α : Type} (l : List α) (i : Nat) : idx l (i : Int) = l[i]? := rfl
theorem bnd_eq {α β : Type} (a : α) (f : α → Option β) : bnd (some a) f = f a := rfl
theorem bif_pos' {p : Prop} [Decidable p] (h : p) {α : Type} (x y : α) : (bif decide p then x else y) = x := by simp [h]
theorem bif_neg' {p : Prop} [Decidable p] (h : ¬ p) {α : Type} (x y : α) : (bif decide p then x else y) = y := by simp [h]
theorem subc0 {α : Type} (l : List α) (b : Nat) (h1 : b ≤ l.length) {j : Int} (hj : j = b) : sub l 0 j = some (l.take b) := by
  subst hj
  show (bif decide (0 ≤ b) && decide (b ≤ l.length) then some ((l.take b).drop 0) else none) = _
  simp [h1]
theorem subcL {α : Type} (l : List α) (a : Nat) (h1 : a ≤ l.length) {j : Int} (hj : j = a) : sub l j l.length = some (l.drop a) := by
  subst hj
  show (bif decide (a ≤ l.length) && decide (l.length ≤ l.length) then some ((l.take l.length).drop a) else none) = _
  simp [h1]
theorem upd_at {α : Type} {l : List α} {i : Nat} (h : i < l.length) (a : α) : upd l (i : Int) a = some (l.set i a) := by
  show (bif Nat.blt i l.length then some (l.set i a) else none) = _
  rw [show Nat.blt i l.length = true from Nat.ble_eq_true_of_le h]
  rfl
theorem apd_ok {α : Type} {l l' : List α} {z : Nat} (h : l.length + l'.length ≤ 1000000) (hz : z ≤ 64) : apd z l l' = some (l ++ l') := by
  unfold apd
  have : 2 * (l.length + l'.length) * z ≤ 2 * 1000000 * 64 := Nat.mul_le_mul (by omega) hz
  rw [show Nat.ble (l.length + l'.length) 4611686018427387904 = true from Nat.ble_eq_true_of_le (by omega), show Nat.ble (2 * (l.length + l'.length) * z) 281474976710656 = true from Nat.ble_eq_true_of_le (by omega)]
  rfl
theorem drop_get {α : Type} {l : List α} {i : Nat} {a : α} (h : l[i]? = some a) : l.drop i = a :: l.drop (i + 1) := by
  obtain ⟨hi, rfl⟩ := List.getElem?_eq_some_iff.1 h
  exact List.drop_eq_getElem_cons hi
theorem get_lt {α : Type} {l : List α} {i : Nat} (h : i < l.length) : ∃ a, l[i]? = some a := ⟨l[i], List.getElem?_eq_getElem h⟩
theorem w64_ex (n : Int) : ∃ p : Int, w64 n = n + 18446744073709551616 * p := by
  unfold w64 IntKind.wrap
  simp [IntKind.bits, IntKind.signed]
  split
  · exact ⟨-(n / 18446744073709551616) - 1, by omega⟩
  · exact ⟨-(n / 18446744073709551616), by omega⟩
theorem w64_cong {a b p : Int} (h : a = b + 18446744073709551616 * p) : w64 a = w64 b := by
  subst h
  unfold w64 IntKind.wrap
  simp [IntKind.bits, IntKind.signed]
theorem w64_addR (a b : Int) : w64 (a + w64 b) = w64 (a + b) := by
  obtain ⟨p, h⟩ := w64_ex b
  exact w64_cong (p := p) (by rw [h]; omega)
theorem w64_addL (a b : Int) : w64 (w64 a + b) = w64 (a + b) := by
  obtain ⟨p, h⟩ := w64_ex a
  exact w64_cong (p := p) (by rw [h]; omega)
theorem nz_ok {n : Int} (h : n ≠ 0) : nz n = some n := by
  unfold nz
  have : (n == 0) = false := by simpa using h
  rw [this]
  rfl
def inR (a b c : Int) : Bool := decide (a ≤ b) && decide (b ≤ c)
theorem inR_iff {a b c : Int} : inR a b c = true ↔ a ≤ b ∧ b ≤ c := by simp [inR]
theorem inR_false {a b c : Int} : inR a b c = false ↔ ¬ (a ≤ b ∧ b ≤ c) := by rw [← inR_iff]; simp
end Go.Ev.BankSure
