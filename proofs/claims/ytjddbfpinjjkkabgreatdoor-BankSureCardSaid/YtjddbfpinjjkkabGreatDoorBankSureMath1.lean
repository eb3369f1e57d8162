/- Parts of lists. -/
import Derived.Test.YtjddbfpinjjkkabGreatDoorBankSureMath0
namespace Go.Ev.BankSure
set_option linter.unusedVariables false
open Go Go.Ev
theorem subP_ok {len a b : Nat} {lo hi : Int} (hlo : lo = a) (hhi : hi = b) (h1 : a ≤ b) (h2 : b ≤ len) : subP len lo hi = some (a, b - a) := by
  subst hlo; subst hhi
  show (bif decide (a ≤ b) && decide (b ≤ len) then some (a, b - a) else none) = _
  simp [h1, h2]
theorem parL_ok {α : Type} {l : List α} {off len : Nat} (h : off + len ≤ l.length) : parL l off len = some ((l.drop off).take len) := by
  unfold parL
  simp [h]
end Go.Ev.BankSure
