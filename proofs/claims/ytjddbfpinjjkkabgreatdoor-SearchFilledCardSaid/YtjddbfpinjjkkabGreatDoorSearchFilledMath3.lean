/- Helpers for plain functions. -/
import Derived.Test.YtjddbfpinjjkkabGreatDoorSearchFilledPlain2
namespace Go.Ev.SearchFilled
open Go Go.Ev
set_option linter.unusedVariables false
theorem w64_id {n : Int} (h1 : -9223372036854775808 ≤ n) (h2 : n ≤ 9223372036854775807) : w64 n = n := wrap_in .i64 n h1 h2
theorem up {i : Nat} (h : i < 9223372036854775807) : w64 ((i : Int) + 1) = ((i + 1 : Nat) : Int) := by rw [w64_id (by omega) (by omega)]; simp
theorem idx_nat {α : Type} (l : List α) (i : Nat) : idx l (i : Int) = l[i]? := rfl
theorem bnd_eq {α β : Type} (a : α) (f : α → Option β) : bnd (some a) f = f a := rfl
theorem bif_pos' {p : Prop} [Decidable p] (h : p) {α : Type} (x y : α) : (bif decide p then x else y) = x := by simp [h]
theorem bif_neg' {p : Prop} [Decidable p] (h : ¬ p) {α : Type} (x y : α) : (bif decide p then x else y) = y := by simp [h]
theorem subc0 {α : Type} (l : List α) (b : Nat) (h1 : b ≤ l.length) {j : Int} (hj : j = b) : sub l 0 j = some (l.take b) := by
  subst hj
  show (bif decide (0 ≤ b) && decide (b ≤ l.length) then some ((l.take b).drop 0) else none) = _
  simp [h1]
theorem subcL {α : Type} (l : List α) (a : Nat) (h1 : a ≤ l.length) {j : Int} (hj : j = a) : sub l j l.length = some (l.drop a) := by
  subst hj
  show (bif decide (a ≤ l.length) && decide (l.length ≤ l.length) then some ((l.take l.length).drop a) else none) = _
  simp [h1]
theorem upd_at {α : Type} {l : List α} {i : Nat} (h : i < l.length) (a : α) : upd l (i : Int) a = some (l.set i a) := by
  show (bif Nat.blt i l.length then some (l.set i a) else none) = _
  rw [show Nat.blt i l.length = true from Nat.ble_eq_true_of_le h]
  rfl
theorem inn_at {α : Type} {l : List α} {i : Nat} (h : i < l.length) : inn l (i : Int) = some i := by
  show (bif Nat.blt i l.length then some i else none) = _
  rw [show Nat.blt i l.length = true from Nat.ble_eq_true_of_le h]
  rfl
theorem apd_ok {α : Type} {l l' : List α} {z : Nat} (h : l.length + l'.length ≤ 1000000) (hz : z ≤ 64) : apd z l l' = some (l ++ l') := by
  unfold apd
  have : 2 * (l.length + l'.length) * z ≤ 2 * 1000000 * 64 := Nat.mul_le_mul (by omega) hz
  rw [show Nat.ble (l.length + l'.length) 4611686018427387904 = true from Nat.ble_eq_true_of_le (by omega), show Nat.ble (2 * (l.length + l'.length) * z) 281474976710656 = true from Nat.ble_eq_true_of_le (by omega)]
  rfl
theorem mk_ok {α : Type} {z : α} {n : Nat} {by' : Nat} (h : n ≤ 1000000) (hb : by' ≤ 64) : mk (n : Int) by' z = some (List.replicate n z) := by
  show (bif Nat.ble n 4611686018427387904 && Nat.ble (n * by') 281474976710656 then some (List.replicate n z) else none) = _
  have : n * by' ≤ 1000000 * 64 := Nat.mul_le_mul h hb
  rw [show Nat.ble n 4611686018427387904 = true from Nat.ble_eq_true_of_le (by omega), show Nat.ble (n * by') 281474976710656 = true from Nat.ble_eq_true_of_le (by omega)]
  rfl
theorem drop_get {α : Type} {l : List α} {i : Nat} {a : α} (h : l[i]? = some a) : l.drop i = a :: l.drop (i + 1) := by
  obtain ⟨hi, rfl⟩ := List.getElem?_eq_some_iff.1 h
  exact List.drop_eq_getElem_cons hi
theorem get_lt {α : Type} {l : List α} {i : Nat} (h : i < l.length) : ∃ a, l[i]? = some a := ⟨l[i], List.getElem?_eq_getElem h⟩
theorem w64_ex (n : Int) : ∃ p : Int, w64 n = n + 18446744073709551616 * p := by
  unfold w64 IntKind.wrap
  simp [IntKind.bits, IntKind.signed]
  split
  · exact ⟨-(n / 18446744073709551616) - 1, by omega⟩
  · exact ⟨-(n / 18446744073709551616), by omega⟩
theorem w64_cong {a b p : Int} (h : a = b + 18446744073709551616 * p) : w64 a = w64 b := by
  subst h
  unfold w64 IntKind.wrap
  simp [IntKind.bits, IntKind.signed]
theorem w64_addR (a b : Int) : w64 (a + w64 b) = w64 (a + b) := by
  obtain ⟨p, h⟩ := w64_ex b
  exact w64_cong (p := p) (by rw [h]; omega)
theorem w64_addL (a b : Int) : w64 (w64 a + b) = w64 (a + b) := by
  obtain ⟨p, h⟩ := w64_ex a
  exact w64_cong (p := p) (by rw [h]; omega)
theorem nz_ok {n : Int} (h : n ≠ 0) : nz n = some n := by
  unfold nz
  have : (n == 0) = false := by simpa using h
  rw [this]
  rfl
def inR (a b c : Int) : Bool := decide (a ≤ b) && decide (b ≤ c)
theorem inR_iff {a b c : Int} : inR a b c = true ↔ a ≤ b ∧ b ≤ c := by simp [inR]
theorem inR_false {a b c : Int} : inR a b c = false ↔ ¬ (a ≤ b ∧ b ≤ c) := by rw [← inR_iff]; simp
end Go.Ev.SearchFilled
namespace Go.Ev.SearchFilled
set_option linter.unusedVariables false
open Go Go.Ev
theorem subP_ok {len a b : Nat} {lo hi : Int} (hlo : lo = a) (hhi : hi = b) (h1 : a ≤ b) (h2 : b ≤ len) : subP len lo hi = some (a, b - a) := by
  subst hlo; subst hhi
  show (bif decide (a ≤ b) && decide (b ≤ len) then some (a, b - a) else none) = _
  simp [h1, h2]
theorem parL_ok {α : Type} {l : List α} {off len : Nat} (h : off + len ≤ l.length) : parL l off len = some ((l.drop off).take len) := by
  unfold parL
  simp [h]
end Go.Ev.SearchFilled
namespace Go.Ev.SearchFilled
set_option linter.unusedVariables false
open Go Go.Ev Go.Proofs
theorem isFrom_eq (F : Nat) (a b c : Int) : search_isFrom F a b c = some (inR a b c) := by
  unfold search_isFrom inR search_isFrom_1
  by_cases h : a ≤ b <;> simp [h]
end Go.Ev.SearchFilled
namespace Go.Ev.SearchFilled
open Go Go.Ev Go.Proofs
set_option linter.unusedVariables false
theorem areFrom1 (F : Nat) (l : List Int) (m : Int) (hl : l.length ≤ 9223372036854775807) (hm : 0 ≤ m ∧ m ≤ 1073741824) : ∀ (k N i : Nat), k = l.length - i → i ≤ l.length → k < N →
    search_areFrom_1 F N l l.length i m = some ((l.drop i).all fun x => inR (-m) x m)
  | k, 0, i, _, _, h => by omega
  | 0, N + 1, i, hk, hi, _ => by
    rw [search_areFrom_1, bif_neg' (by omega : ¬ ((i : Int) < l.length)), List.drop_of_length_le (by omega)]
    rfl
  | k + 1, N + 1, i, hk, hi, hN => by
    obtain ⟨x, hx⟩ := get_lt (l := l) (i := i) (by omega)
    rw [search_areFrom_1, bif_pos' (by omega : ((i : Int) < l.length)), idx_nat, hx, bnd_eq, w64_id (n := -m) (by omega) (by omega), isFrom_eq, bnd_eq, drop_get hx, List.all_cons]
    cases e : inR (-m) x m with
    | false =>
      rw [decide_eq_true (by omega : (0 : Int) ≤ i)]
      rfl
    | true =>
      simp only [Bool.not_true, cond_false, Bool.true_and]
      rw [up (by omega), areFrom1 F l m hl hm k N (i + 1) (by omega) (by omega) (by omega)]
def isRec (l : List Int) : Bool := decide (l.length ≤ 1024) && l.all fun x => inR (-16384) x 16384
theorem record_eq (F : Nat) (l : List Int) (hF : 1024 < F) (hl : l.length ≤ 9223372036854775807) : search_isRecord F l = some (isRec l) := by
  unfold search_isRecord isRec search_isRecord_1 search_areFrom
  by_cases h : (l.length : Int) ≤ 1024
  · have := areFrom1 F l 16384 hl ⟨by decide, by decide⟩ l.length F 0 rfl (Nat.zero_le _) (by omega)
    rw [List.drop_zero] at this
    rw [bif_pos' h, decide_eq_true (by omega), Bool.true_and]
    show bnd (search_areFrom_1 F F l l.length ((0 : Nat) : Int) 16384) _ = _
    rw [this]
    rfl
  · rw [bif_neg' h, decide_eq_false (by omega)]
    rfl
theorem isRec_ok {l : List Int} (h : isRec l = true) : l.length ≤ 1024 ∧ ∀ x ∈ l, -16384 ≤ x ∧ x ≤ 16384 := by
  rw [isRec, Bool.and_eq_true, decide_eq_true_eq] at h
  exact ⟨h.1, fun x hx => inR_iff.1 (List.all_eq_true.1 h.2 x hx)⟩
end Go.Ev.SearchFilled
