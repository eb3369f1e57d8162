/- Lists of tiles; numbers that may overflow. -/
import Derived.Test.YtdcgepenffjdcaaGreatDoorGlitchPartsMath2
namespace Go.Ev.GlitchParts
open Go Go.Ev Go.Proofs
set_option linter.unusedVariables false
theorem w64_ex (n : Int) : ∃ p : Int, w64 n = n + 18446744073709551616 * p := by
  unfold w64 IntKind.wrap
  simp [IntKind.bits, IntKind.signed]
  split
  · exact ⟨-(n / 18446744073709551616) - 1, by omega⟩
  · exact ⟨-(n / 18446744073709551616), by omega⟩
theorem w64_cong {a b p : Int} (h : a = b + 18446744073709551616 * p) : w64 a = w64 b := by
  subst h
  unfold w64 IntKind.wrap
  simp [IntKind.bits, IntKind.signed]
theorem w64_addR (a b : Int) : w64 (a + w64 b) = w64 (a + b) := by
  obtain ⟨p, h⟩ := w64_ex b
  exact w64_cong (p := p) (by rw [h]; omega)
theorem w64_addL (a b : Int) : w64 (w64 a + b) = w64 (a + b) := by
  obtain ⟨p, h⟩ := w64_ex a
  exact w64_cong (p := p) (by rw [h]; omega)
theorem w64_mulR (a b : Int) : w64 (a * w64 b) = w64 (a * b) := by
  obtain ⟨p, h⟩ := w64_ex b
  refine w64_cong (p := a * p) ?_
  rw [h]
  grind
theorem w64_mulL (a b : Int) : w64 (w64 a * b) = w64 (a * b) := by
  rw [Int.mul_comm, w64_mulR, Int.mul_comm]
theorem w64_w (a : Int) : w64 (w64 a) = w64 a := by
  have := w64_addR 0 a
  simpa using this
def sq : List Int → Int
  | [] => 0
  | a :: l => a * a + sq l
theorem sq_SD : ∀ l : List Int, l.length % 2 = 0 → sq (S l) + sq (D l) = 2 * sq l
  | [], _ => rfl
  | [_], h => by simp at h
  | a :: b :: l, h => by
    have ih := sq_SD l (by simp at h; omega)
    simp only [S, D, sq]
    grind
def tilesOf (lev : Int) : Nat → List Int → List S_api_Tile
  | _, [] => []
  | i, d :: l => ⟨lev, i, d⟩ :: tilesOf lev (i + 1) l
def tl : Nat → Int → List Int → List S_api_Tile
  | 0, _, _ => []
  | k + 1, lev, x => tilesOf lev 0 (D x) ++ tl k (lev + 1) (S x)
theorem tilesOf_len (lev : Int) : ∀ (l : List Int) (i : Nat), (tilesOf lev i l).length = l.length
  | [], _ => rfl
  | _ :: l, i => by simp [tilesOf, tilesOf_len lev l]
theorem tl_len : ∀ (k : Nat) (lev : Int) (x : List Int), x.length = 2 ^ k → (tl k lev x).length + 1 = 2 ^ k
  | 0, _, _, _ => rfl
  | k + 1, lev, x, h => by
    have h2 : x.length = 2 * 2 ^ k := by rw [h, Nat.pow_succ]; omega
    have := tl_len k (lev + 1) (S x) (S_len _ x h2)
    rw [tl, List.length_append, tilesOf_len, D_len _ x h2, Nat.pow_succ]
    omega
end Go.Ev.GlitchParts
