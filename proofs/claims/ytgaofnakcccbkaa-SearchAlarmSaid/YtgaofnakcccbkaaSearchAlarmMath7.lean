/- Distances, rows of coincidences. -/
import Derived.Test.YtgaofnakcccbkaaSearchAlarmMath6
namespace Go.Ev.SearchAlarm
open Go Go.Ev Go.Proofs
set_option linter.unusedVariables false
def dist (T s t : Int) : Int := min (max (s - t) (t - s)) (T - max (s - t) (t - s))
theorem dist_eq (F : Nat) (c : S_search_clock) (s t : Int) (h1 : 0 ≤ s ∧ s ≤ 1073741824) (h2 : 0 ≤ t ∧ t ≤ 1073741824) (h3 : 0 ≤ c.live ∧ c.live ≤ 1073741824) : search_clock_distance F c s t = some (dist c.live s t) := by
  unfold search_clock_distance dist
  rw [w64_id (n := s - t) (by omega) (by omega), w64_id (n := t - s) (by omega) (by omega), w64_id (n := c.live - _) (by omega) (by omega)]
def isOne (c : S_search_clock) (x y : S_api_Trigger) : Bool := x.Template == y.Template && decide (dist c.live x.Time y.Time ≤ c.window)
def rowP (c : S_search_clock) (i : Nat) (x : S_api_Trigger) : Nat → List S_api_Trigger → List S_api_Pair
  | _, [] => []
  | k, y :: r => bif isOne c x y then ⟨i, k, x.Loud + y.Loud⟩ :: rowP c i x (k + 1) r else rowP c i x (k + 1) r
def prs (c : S_search_clock) (b : List S_api_Trigger) : Nat → List S_api_Trigger → List S_api_Pair
  | _, [] => []
  | i, x :: r => rowP c i x 0 b ++ prs c b (i + 1) r
theorem rowP_len (c : S_search_clock) (i : Nat) (x : S_api_Trigger) : ∀ (l : List S_api_Trigger) (k : Nat), (rowP c i x k l).length ≤ l.length
  | [], _ => Nat.le_refl _
  | y :: r, k => by
    have := rowP_len c i x r (k + 1)
    rw [rowP]
    cases isOne c x y <;> simp <;> omega
end Go.Ev.SearchAlarm
