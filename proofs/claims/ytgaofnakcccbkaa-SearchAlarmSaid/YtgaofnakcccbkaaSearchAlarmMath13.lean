/- At most m of the numbers have at most m that are at least as great. -/
import Derived.Test.YtgaofnakcccbkaaSearchAlarmMath12
namespace Go.Ev.SearchAlarm
open Go Go.Ev Go.Proofs
set_option linter.unusedVariables false
theorem least {p : Int → Bool} : ∀ {l : List Int}, (∃ x ∈ l, p x = true) → ∃ y ∈ l, p y = true ∧ ∀ x ∈ l, p x = true → y ≤ x
  | [], ⟨x, hx, _⟩ => by cases hx
  | a :: l, ⟨x, hx, hp⟩ => by
    by_cases h : ∃ x ∈ l, p x = true
    · obtain ⟨y, hy, hpy, hle⟩ := least h
      by_cases ha : p a = true ∧ a ≤ y
      · exact ⟨a, List.mem_cons_self, ha.1, fun z hz hpz => by
          rcases List.mem_cons.1 hz with rfl | hz
          · omega
          · have := hle z hz hpz; omega⟩
      · refine ⟨y, List.mem_cons_of_mem _ hy, hpy, fun z hz hpz => ?_⟩
        rcases List.mem_cons.1 hz with rfl | hz
        · have : ¬ z ≤ y := fun h => ha ⟨hpz, h⟩
          omega
        · exact hle z hz hpz
    · refine ⟨a, List.mem_cons_self, ?_, fun z hz hpz => ?_⟩
      · rcases List.mem_cons.1 hx with rfl | hx
        · exact hp
        · exact absurd ⟨x, hx, hp⟩ h
      · rcases List.mem_cons.1 hz with rfl | hz
        · omega
        · exact absurd ⟨z, hz, hpz⟩ h
theorem bound (l : List Int) (m : Nat) : l.countP (fun x => decide (cnt x l ≤ m)) ≤ m := by
  by_cases h : ∃ x ∈ l, decide (cnt x l ≤ m) = true
  · obtain ⟨y, hy, hp, hle⟩ := least h
    refine Nat.le_trans (List.countP_mono_left fun x hx hpx => ?_) (of_decide_eq_true hp)
    exact decide_eq_true (hle x hx hpx)
  · have : l.countP (fun x => decide (cnt x l ≤ m)) = 0 := List.countP_eq_zero.2 fun x hx hpx => h ⟨x, hx, hpx⟩
    omega
theorem cnt_pos {x : Int} {l : List Int} (h : x ∈ l) : 1 ≤ cnt x l := List.countP_pos_iff.2 ⟨x, h, by simp⟩
end Go.Ev.SearchAlarm
