/- How many coincidences there are at most. -/
import Derived.Test.YtgaofnakcccbkaaSearchGrowsMath6
namespace Go.Ev.SearchGrows
open Go Go.Ev Go.Proofs
set_option linter.unusedVariables false
theorem prs_len (c : S_search_clock) (b : List S_api_Trigger) : ∀ (l : List S_api_Trigger) (i : Nat), (prs c b i l).length ≤ l.length * b.length
  | [], _ => by simp [prs]
  | x :: r, i => by
    have h1 := prs_len c b r (i + 1)
    have h2 := rowP_len c i x b 0
    rw [prs, List.length_append, List.length_cons, Nat.add_mul, Nat.one_mul]
    omega
theorem prs_len2 {c : S_search_clock} {a b : List S_api_Trigger} (ha : a.length ≤ 256) (hb : b.length ≤ 256) : (prs c b 0 a).length ≤ 65536 :=
  Nat.le_trans (prs_len c b a 0) (Nat.mul_le_mul ha hb)
end Go.Ev.SearchGrows
