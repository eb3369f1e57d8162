/- Sums of lists of numbers. -/
import Derived.Test.YtdjaigpcfhbcmaaGreatDoorGlitchLinearMath2
namespace Go.Ev.GlitchLinear
open Go Go.Ev Go.Proofs
set_option linter.unusedVariables false
theorem pow2_10 {lv : Nat} (h : lv ≤ 10) : (2 : Nat) ^ lv ≤ 1024 := Nat.le_trans (Nat.pow_le_pow_right (by omega) h) (by decide)
/-- Sums of lists. -/
def addL : List Int → List Int → List Int
  | a :: l, b :: k => (a + b) :: addL l k
  | _, _ => []
theorem addL_len : ∀ (l k : List Int), l.length = k.length → (addL l k).length = l.length
  | [], [], _ => rfl
  | a :: l, b :: k, h => by simp [addL, addL_len l k (by simpa using h)]
  | [], _ :: _, h => by simp at h
  | _ :: _, [], h => by simp at h
theorem addL_get : ∀ (l k : List Int) (i : Nat) {a b : Int}, l[i]? = some a → k[i]? = some b → (addL l k)[i]? = some (a + b)
  | [], _, i, a, b, h, _ => by simp at h
  | _ :: _, [], i, a, b, _, h => by simp at h
  | x :: l, y :: k, 0, a, b, h, h' => by simp at h h'; simp [addL, h, h']
  | x :: l, y :: k, i + 1, a, b, h, h' => by simp only [List.getElem?_cons_succ] at h h'; simp [addL, addL_get l k i h h']
theorem S_add : ∀ (l k : List Int), l.length = k.length → S (addL l k) = addL (S l) (S k) ∧ D (addL l k) = addL (D l) (D k)
  | [], [], _ => ⟨rfl, rfl⟩
  | [a], [b], _ => ⟨rfl, rfl⟩
  | a :: a' :: l, b :: b' :: k, h => by
    obtain ⟨h1, h2⟩ := S_add l k (by simpa using h)
    simp only [addL, S, D, h1, h2]
    constructor <;> (congr 1; omega)
  | [], _ :: _, h => by simp at h
  | _ :: _, [], h => by simp at h
  | [_], _ :: _ :: _, h => by simp at h
  | _ :: _ :: _, [_], h => by simp at h
theorem addL_app : ∀ (l k l' k' : List Int), l.length = k.length → addL (l ++ l') (k ++ k') = addL l k ++ addL l' k'
  | [], [], _, _, _ => rfl
  | a :: l, b :: k, l', k', h => by simp only [List.cons_append, addL]; rw [addL_app l k l' k' (by simpa using h)]
  | [], _ :: _, _, _, h => by simp at h
  | _ :: _, [], _, _, h => by simp at h
theorem T_add : ∀ (n : Nat) (l k : List Int), l.length = 2 ^ n → k.length = 2 ^ n → T n (addL l k) = addL (T n l) (T n k)
  | 0, _, _, _, _ => rfl
  | n + 1, l, k, hl, hk => by
    have hl2 : l.length = 2 * 2 ^ n := by rw [hl, Nat.pow_succ]; omega
    have hk2 : k.length = 2 * 2 ^ n := by rw [hk, Nat.pow_succ]; omega
    obtain ⟨h1, h2⟩ := S_add l k (by omega)
    have g1 := S_len _ l hl2
    have g2 := S_len _ k hk2
    rw [T, T, T, h1, h2, T_add n _ _ g1 g2, addL_app _ _ _ _ (by rw [T_len n _ g1, T_len n _ g2])]
end Go.Ev.GlitchLinear
