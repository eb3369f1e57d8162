/- In. -/
import Derived.Test.YtbpnoedmnkalpaaGreatDoorRecordSpansMath3
namespace Go.Ev.RecordSpans
set_option linter.unusedVariables false
open Go Go.Ev Go.Proofs
theorem In_eq (F : Nat) (b a c : Int) : ref00_In F b a c = some (inR a b c) := by
  unfold ref00_In inR ref00_In_1
  by_cases h : a ≤ b <;> simp [h]
end Go.Ev.RecordSpans
