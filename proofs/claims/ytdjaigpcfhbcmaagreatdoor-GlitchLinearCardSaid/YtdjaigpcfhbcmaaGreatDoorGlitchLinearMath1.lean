/- The transform, and its inverse. -/
import Derived.Test.YtdjaigpcfhbcmaaGreatDoorGlitchLinearMath0
namespace Go.Ev
set_option linter.unusedVariables false
def S : List Int → List Int
  | a :: b :: l => (a + b) :: S l
  | _ => []
def D : List Int → List Int
  | a :: b :: l => (a - b) :: D l
  | _ => []
theorem S_len : ∀ (m : Nat) (l : List Int), l.length = 2 * m → (S l).length = m
  | 0, [], _ => rfl
  | m + 1, a :: b :: l, h => by simp only [S, List.length_cons] at h ⊢; rw [S_len m l (by omega)]
  | 0, _ :: _, h => by simp at h
  | m + 1, [], h => by simp at h
  | m + 1, [_], h => by simp at h; omega
theorem D_len : ∀ (m : Nat) (l : List Int), l.length = 2 * m → (D l).length = m
  | 0, [], _ => rfl
  | m + 1, a :: b :: l, h => by simp only [D, List.length_cons] at h ⊢; rw [D_len m l (by omega)]
  | 0, _ :: _, h => by simp at h
  | m + 1, [], h => by simp at h
  | m + 1, [_], h => by simp at h; omega
theorem SD_get : ∀ (l : List Int) (i : Nat) {a b : Int}, l[2 * i]? = some a → l[2 * i + 1]? = some b → (S l)[i]? = some (a + b) ∧ (D l)[i]? = some (a - b)
  | [], i, a, b, h, _ => by simp at h
  | [_], 0, a, b, _, h => by simp at h
  | [_], i + 1, a, b, h, _ => by simp [Nat.mul_add] at h
  | x :: y :: l, 0, a, b, h, h' => by
    simp at h h'
    subst h h'
    simp [S, D]
  | x :: y :: l, i + 1, a, b, h, h' => by
    have h1 : l[2 * i]? = some a := by rw [show 2 * (i + 1) = 2 * i + 1 + 1 by omega] at h; simpa using h
    have h2 : l[2 * i + 1]? = some b := by rw [show 2 * (i + 1) + 1 = 2 * i + 1 + 1 + 1 by omega] at h'; simpa using h'
    obtain ⟨h3, h4⟩ := SD_get l i h1 h2
    simp [S, D, h3, h4]
def T : Nat → List Int → List Int
  | 0, l => l
  | k + 1, l => T k (S l) ++ D l
theorem T_len : ∀ (k : Nat) (l : List Int), l.length = 2 ^ k → (T k l).length = 2 ^ k
  | 0, l, h => h
  | k + 1, l, h => by
    have h' : l.length = 2 * 2 ^ k := by rw [h, Nat.pow_succ]; omega
    rw [T, List.length_append, T_len k _ (S_len _ l h'), D_len _ l h', Nat.pow_succ]
    omega
/-- All times P are within B. -/
def Bd (P B : Int) (l : List Int) : Prop := ∀ a ∈ l, -B ≤ a * P ∧ a * P ≤ B
theorem Bd_SD {P B : Int} : ∀ {l : List Int}, Bd (P * 2) B l → Bd P B (S l) ∧ Bd P B (D l)
  | [], _ => ⟨fun a h => by simp [S] at h, fun a h => by simp [D] at h⟩
  | [_], _ => ⟨fun a h => by simp [S] at h, fun a h => by simp [D] at h⟩
  | x :: y :: l, h => by
    obtain ⟨h1, h2⟩ := Bd_SD (l := l) fun a ha => h a (by simp [ha])
    have hx := h x (by simp)
    have hy := h y (by simp)
    rw [← Int.mul_assoc] at hx hy
    refine ⟨fun a ha => ?_, fun a ha => ?_⟩
    · rcases List.mem_cons.1 ha with rfl | ha
      · rw [Int.add_mul]; omega
      · exact h1 a ha
    · rcases List.mem_cons.1 ha with rfl | ha
      · rw [Int.sub_mul]; omega
      · exact h2 a ha
theorem Bd_T {B : Int} : ∀ {k : Nat} {l : List Int}, Bd (2 ^ k) B l → ∀ a ∈ T k l, -B ≤ a ∧ a ≤ B
  | 0, l, h, a, ha => by have := h a ha; simpa using this
  | k + 1, l, h, a, ha => by
    rw [Int.pow_succ] at h
    obtain ⟨h1, h2⟩ := Bd_SD h
    rw [T] at ha
    rcases List.mem_append.1 ha with ha | ha
    · exact Bd_T h1 a ha
    · have := h2 a ha
      have hp := two_pow_pos' k
      generalize (2 : Int) ^ k = P at this hp
      rcases Int.le_total 0 a with h0 | h0
      · have := Int.mul_le_mul_of_nonneg_left hp h0
        rw [Int.mul_one] at this
        omega
      · have := Int.mul_le_mul_of_nonneg_left hp (show 0 ≤ -a by omega)
        rw [Int.mul_one, Int.neg_mul] at this
        omega
def U : List Int → List Int → List Int
  | s :: l, d :: k => Int.tdiv (s + d) 2 :: Int.tdiv (s - d) 2 :: U l k
  | _, _ => []
def E : List Int → List Int → Bool
  | s :: l, d :: k => (Int.tmod (s + d) 2 == 0) && E l k
  | _, _ => true
def I : Nat → List Int → List Int
  | 0, c => c
  | k + 1, c => U (I k (c.take (2 ^ k))) (c.drop (2 ^ k))
def W : Nat → List Int → Bool
  | 0, _ => true
  | k + 1, c => W k (c.take (2 ^ k)) && E (I k (c.take (2 ^ k))) (c.drop (2 ^ k))
theorem U_SD : ∀ (m : Nat) (l : List Int), l.length = 2 * m → U (S l) (D l) = l ∧ E (S l) (D l) = true
  | 0, [], _ => ⟨rfl, rfl⟩
  | m + 1, a :: b :: l, h => by
    obtain ⟨h1, h2⟩ := U_SD m l (by simp at h; omega)
    have e1 : a + b + (a - b) = a * 2 := by omega
    have e2 : a + b - (a - b) = b * 2 := by omega
    simp only [S, D, U, E, h1, h2, e1, e2]
    simp
  | 0, _ :: _, h => by simp at h
  | m + 1, [], h => by simp at h
  | m + 1, [_], h => by simp at h; omega
theorem SD_U : ∀ (l k : List Int), l.length = k.length → E l k = true → S (U l k) = l ∧ D (U l k) = k
  | [], [], _, _ => ⟨rfl, rfl⟩
  | s :: l, d :: k, h, he => by
    simp only [E, Bool.and_eq_true, beq_iff_eq] at he
    obtain ⟨h1, h2⟩ := SD_U l k (by simpa using h) he.2
    have := he.1
    have h3 := t2 (s + d)
    have h4 := t2 (s - d)
    simp only [U, S, D, h1, h2, List.cons.injEq, and_true]
    omega
  | [], _ :: _, h, _ => by simp at h
  | _ :: _, [], h, _ => by simp at h
theorem U_len : ∀ (l k : List Int), l.length = k.length → (U l k).length = 2 * l.length
  | [], [], _ => rfl
  | s :: l, d :: k, h => by simp only [U, List.length_cons]; rw [U_len l k (by simpa using h)]; omega
  | [], _ :: _, h => by simp at h
  | _ :: _, [], h => by simp at h
theorem I_len : ∀ (k : Nat) (c : List Int), c.length = 2 ^ k → (I k c).length = 2 ^ k
  | 0, c, h => h
  | k + 1, c, h => by
    rw [Nat.pow_succ] at h
    have h1 : (c.take (2 ^ k)).length = 2 ^ k := by simp; omega
    rw [I, U_len _ _ (by rw [I_len k _ h1]; simp; omega), I_len k _ h1, Nat.pow_succ]
    omega
theorem I_T : ∀ (k : Nat) (l : List Int), l.length = 2 ^ k → I k (T k l) = l ∧ W k (T k l) = true
  | 0, l, _ => ⟨rfl, rfl⟩
  | k + 1, l, h => by
    have h' : l.length = 2 * 2 ^ k := by rw [h, Nat.pow_succ]; omega
    have hS := S_len _ l h'
    have hT := T_len k (S l) hS
    obtain ⟨h1, h2⟩ := I_T k (S l) hS
    obtain ⟨h3, h4⟩ := U_SD _ l h'
    have e1 : (T k (S l) ++ D l).take (2 ^ k) = T k (S l) := by rw [← hT]; exact List.take_left
    have e2 : (T k (S l) ++ D l).drop (2 ^ k) = D l := by rw [← hT]; exact List.drop_left
    rw [T, I, W, e1, e2, h1, h2, h3, h4]
    simp
theorem T_I : ∀ (k : Nat) (c : List Int), c.length = 2 ^ k → W k c = true → T k (I k c) = c
  | 0, c, _, _ => rfl
  | k + 1, c, h, hw => by
    rw [Nat.pow_succ] at h
    rw [W, Bool.and_eq_true] at hw
    have h1 : (c.take (2 ^ k)).length = 2 ^ k := by simp; omega
    obtain ⟨h3, h4⟩ := SD_U _ _ (by rw [I_len k _ h1]; simp; omega) hw.2
    rw [I, T, h3, h4, T_I k _ h1 hw.1, List.take_append_drop]
theorem U_get : ∀ (l k : List Int) (i : Nat) {s d : Int}, l[i]? = some s → k[i]? = some d → (U l k)[2 * i]? = some (Int.tdiv (s + d) 2) ∧ (U l k)[2 * i + 1]? = some (Int.tdiv (s - d) 2)
  | [], _, i, s, d, h, _ => by simp at h
  | _ :: _, [], i, s, d, _, h => by simp at h
  | x :: l, y :: k, 0, s, d, h, h' => by
    simp at h h'
    subst h h'
    simp [U]
  | x :: l, y :: k, i + 1, s, d, h, h' => by
    obtain ⟨h1, h2⟩ := U_get l k i (by simpa using h) (by simpa using h')
    rw [show 2 * (i + 1) = 2 * i + 1 + 1 by omega]
    simp [U, h1, h2]
theorem E_drop (l k : List Int) (i : Nat) {s d : Int} (h : l[i]? = some s) (h' : k[i]? = some d) : E (l.drop i) (k.drop i) = ((Int.tmod (s + d) 2 == 0) && E (l.drop (i + 1)) (k.drop (i + 1))) := by
  rw [drop_get h, drop_get h', E]
/-- All are within B. -/
def Wi (B : Int) (l : List Int) : Prop := ∀ a ∈ l, -B ≤ a ∧ a ≤ B
theorem Wi_U {B : Int} : ∀ {l k : List Int}, Wi B l → Wi B k → Wi B (U l k)
  | [], _, _, _ => fun a h => by simp [U] at h
  | _ :: _, [], _, _ => fun a h => by simp [U] at h
  | s :: l, d :: k, h, h' => by
    have ih := Wi_U (l := l) (k := k) (fun a ha => h a (by simp [ha])) (fun a ha => h' a (by simp [ha]))
    have hs := h s (by simp)
    have hd := h' d (by simp)
    intro a ha
    simp only [U, List.mem_cons] at ha
    have h3 := t2 (s + d)
    have h4 := t2 (s - d)
    rcases ha with rfl | rfl | ha
    · omega
    · omega
    · exact ih a ha
theorem Wi_I {B : Int} : ∀ {k : Nat} {c : List Int}, Wi B c → Wi B (I k c)
  | 0, _, h => h
  | _ + 1, _, h => Wi_U (Wi_I fun a ha => h a (List.mem_of_mem_take ha)) fun a ha => h a (List.mem_of_mem_drop ha)
end Go.Ev
