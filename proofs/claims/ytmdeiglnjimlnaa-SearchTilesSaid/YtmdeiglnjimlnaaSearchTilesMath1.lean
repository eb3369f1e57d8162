/- Plain words for signals. -/
import Derived.Test.YtmdeiglnjimlnaaSearchTilesMath0
namespace Go.Ev.SearchTiles
open Go Go.Ev Go.Proofs
set_option linter.unusedVariables false
theorem w64_nat {n : Nat} (h2 : n ≤ 9223372036854775807) : w64 (n : Int) = (n : Int) := w64_id (by omega) (by omega)
theorem idx_at {α : Type} {l : List α} {i : Nat} {a : α} (h : l[i]? = some a) {j : Int} (hj : j = i) : idx l j = some a := by subst hj; exact h
theorem sub0 {α : Type} (l : List α) (b : Nat) (h0 : 0 < b) (h1 : b ≤ l.length) {j : Int} (hj : j = b) : sub l 0 j = some (l.take b) := by
  subst hj
  show (bif decide (0 ≤ b) && decide (b ≤ l.length) then some ((l.take b).drop 0) else none) = _
  simp [h1]
theorem innj {α : Type} {l : List α} {i : Nat} (h : i < l.length) {j : Int} (hj : j = i) : inn l j = some i := by
  subst hj
  exact inn_at h
theorem apd_eq {α : Type} {bytes : Nat} {l l' : List α} (h1 : l.length + l'.length ≤ 1073741824) (h2 : 2 * (l.length + l'.length) * bytes ≤ 281474976710656) : apd bytes l l' = some (l ++ l') := by
  unfold apd
  rw [show Nat.ble (l.length + l'.length) 4611686018427387904 = true from Nat.ble_eq_true_of_le (by omega), show Nat.ble (2 * (l.length + l'.length) * bytes) 281474976710656 = true from Nat.ble_eq_true_of_le h2]
  rfl
theorem tdiv_nat (m n : Nat) : Int.tdiv (m : Int) (n : Int) = ((m / n : Nat) : Int) := rfl
theorem two_pow_pos' (k : Nat) : (1 : Int) ≤ 2 ^ k := by
  have h : ((2 ^ k : Nat) : Int) = (2 : Int) ^ k := by simp
  have := Nat.one_le_two_pow (n := k)
  omega
def S : List Int → List Int
  | a :: b :: l => (a + b) :: S l
  | _ => []
def D : List Int → List Int
  | a :: b :: l => (a - b) :: D l
  | _ => []
theorem S_len : ∀ (m : Nat) (l : List Int), l.length = 2 * m → (S l).length = m
  | 0, [], _ => rfl
  | m + 1, a :: b :: l, h => by simp only [S, List.length_cons] at h ⊢; rw [S_len m l (by omega)]
  | 0, _ :: _, h => by simp at h
  | m + 1, [], h => by simp at h
  | m + 1, [_], h => by simp at h; omega
theorem D_len : ∀ (m : Nat) (l : List Int), l.length = 2 * m → (D l).length = m
  | 0, [], _ => rfl
  | m + 1, a :: b :: l, h => by simp only [D, List.length_cons] at h ⊢; rw [D_len m l (by omega)]
  | 0, _ :: _, h => by simp at h
  | m + 1, [], h => by simp at h
  | m + 1, [_], h => by simp at h; omega
theorem SD_get : ∀ (l : List Int) (i : Nat) {a b : Int}, l[2 * i]? = some a → l[2 * i + 1]? = some b → (S l)[i]? = some (a + b) ∧ (D l)[i]? = some (a - b)
  | [], i, a, b, h, _ => by simp at h
  | [_], 0, a, b, _, h => by simp at h
  | [_], i + 1, a, b, h, _ => by simp [Nat.mul_add] at h
  | x :: y :: l, 0, a, b, h, h' => by
    simp at h h'
    subst h h'
    simp [S, D]
  | x :: y :: l, i + 1, a, b, h, h' => by
    have h1 : l[2 * i]? = some a := by rw [show 2 * (i + 1) = 2 * i + 1 + 1 by omega] at h; simpa using h
    have h2 : l[2 * i + 1]? = some b := by rw [show 2 * (i + 1) + 1 = 2 * i + 1 + 1 + 1 by omega] at h'; simpa using h'
    obtain ⟨h3, h4⟩ := SD_get l i h1 h2
    simp [S, D, h3, h4]
def T : Nat → List Int → List Int
  | 0, l => l
  | k + 1, l => T k (S l) ++ D l
theorem T_len : ∀ (k : Nat) (l : List Int), l.length = 2 ^ k → (T k l).length = 2 ^ k
  | 0, l, h => h
  | k + 1, l, h => by
    have h' : l.length = 2 * 2 ^ k := by rw [h, Nat.pow_succ]; omega
    rw [T, List.length_append, T_len k _ (S_len _ l h'), D_len _ l h', Nat.pow_succ]
    omega
/-- All times P are within B. -/
def Bd (P B : Int) (l : List Int) : Prop := ∀ a ∈ l, -B ≤ a * P ∧ a * P ≤ B
theorem Bd_SD {P B : Int} : ∀ {l : List Int}, Bd (P * 2) B l → Bd P B (S l) ∧ Bd P B (D l)
  | [], _ => ⟨fun a h => by simp [S] at h, fun a h => by simp [D] at h⟩
  | [_], _ => ⟨fun a h => by simp [S] at h, fun a h => by simp [D] at h⟩
  | x :: y :: l, h => by
    obtain ⟨h1, h2⟩ := Bd_SD (l := l) fun a ha => h a (by simp [ha])
    have hx := h x (by simp)
    have hy := h y (by simp)
    rw [← Int.mul_assoc] at hx hy
    refine ⟨fun a ha => ?_, fun a ha => ?_⟩
    · rcases List.mem_cons.1 ha with rfl | ha
      · rw [Int.add_mul]; omega
      · exact h1 a ha
    · rcases List.mem_cons.1 ha with rfl | ha
      · rw [Int.sub_mul]; omega
      · exact h2 a ha
def Wi (B : Int) (l : List Int) : Prop := ∀ a ∈ l, -B ≤ a ∧ a ≤ B
end Go.Ev.SearchTiles
