/- Lists within lists: what is looked for step by step is found. Coincidences within a greater window. -/
import Derived.Test.YtgaofnakcccbkaaSearchGrowsMath12
namespace Go.Ev.SearchGrows
open Go Go.Ev Go.Proofs
set_option linter.unusedVariables false
theorem rowP_sub {c d : S_search_clock} (h : ∀ x y, isOne c x y = true → isOne d x y = true) (i : Nat) (x : S_api_Trigger) : ∀ (l : List S_api_Trigger) (k : Nat), (rowP c i x k l).Sublist (rowP d i x k l)
  | [], _ => List.Sublist.slnil
  | y :: r, k => by
    have ih := rowP_sub h i x r (k + 1)
    unfold rowP
    cases e : isOne c x y with
    | true =>
      rw [h x y e, cond_true, cond_true]
      exact ih.cons_cons _
    | false =>
      rw [cond_false]
      cases isOne d x y with
      | true => exact ih.cons _
      | false => exact ih
theorem prs_sub {c d : S_search_clock} (h : ∀ x y, isOne c x y = true → isOne d x y = true) (b : List S_api_Trigger) : ∀ (l : List S_api_Trigger) (i : Nat), (prs c b i l).Sublist (prs d b i l)
  | [], _ => List.Sublist.slnil
  | x :: r, i => by
    unfold prs
    exact (rowP_sub h i x b 0).append (prs_sub h b r (i + 1))
theorem rowP_same {c d : S_search_clock} (h : ∀ x y, isOne c x y = isOne d x y) (i : Nat) (x : S_api_Trigger) : ∀ (l : List S_api_Trigger) (k : Nat), rowP c i x k l = rowP d i x k l
  | [], _ => rfl
  | y :: r, k => by
    unfold rowP
    rw [h x y, rowP_same h i x r (k + 1)]
theorem prs_same {c d : S_search_clock} (h : ∀ x y, isOne c x y = isOne d x y) (b : List S_api_Trigger) : ∀ (l : List S_api_Trigger) (i : Nat), prs c b i l = prs d b i l
  | [], _ => rfl
  | x :: r, i => by
    unfold prs
    rw [rowP_same h, prs_same h b r (i + 1)]
/-- A step: what is looked for is there, or comes later. -/
theorem sub_step {α : Type} {x y : α} {l m : List α} (h : (x :: l).Sublist (y :: m)) : (x = y → l.Sublist m) ∧ (x ≠ y → (x :: l).Sublist m) := by
  refine ⟨fun e => ?_, fun e => ?_⟩
  · subst e
    exact List.cons_sublist_cons.1 h
  · cases h with
    | cons _ h => exact h
    | cons_cons _ h => exact absurd rfl e
theorem sub_nil {α : Type} {l : List α} {j : Nat} (hj : j ≤ l.length) (h : (l.drop j).Sublist []) : j = l.length := by
  have := congrArg List.length (List.sublist_nil.1 h)
  rw [List.length_drop] at this
  simp at this
  omega
theorem candF_sub (lim : Int) (S : List Int) (l : List S_api_Pair) : (candF lim S l).Sublist (l.map fun p => (⟨p, chF S p.Loud⟩ : S_api_Candidate)) := (List.filter_sublist).map _
theorem candF_all {n : Nat} {S : List Int} (hS : S.length = n) (h1 : 1 ≤ n) (l : List S_api_Pair) : candF n S l = l.map fun p => ⟨p, chF S p.Loud⟩ := by
  unfold candF
  rw [List.filter_eq_self.2 fun p _ => ?_]
  have : cnt p.Loud S ≤ S.length := List.countP_le_length
  have h : max ((cnt p.Loud S : Nat) : Int) 1 ≤ n := by omega
  exact decide_eq_true h
theorem eqP_iff {p q : S_api_Pair} : ((p.A == q.A) && ((p.B == q.B) && ((p.Loud == q.Loud) && true))) = true ↔ p = q := by
  obtain ⟨a, b, c⟩ := p
  obtain ⟨d, e, f⟩ := q
  simp
theorem eqC_iff {x y : S_api_Candidate} : (((x.Pair.A == y.Pair.A) && ((x.Pair.B == y.Pair.B) && ((x.Pair.Loud == y.Pair.Loud) && true))) && (((x.Chance.N == y.Chance.N) && ((x.Chance.Of == y.Chance.Of) && true)) && true)) = true ↔ x = y := by
  obtain ⟨⟨a, b, c⟩, ⟨n, o⟩⟩ := x
  obtain ⟨⟨d, e, f⟩, ⟨m, k⟩⟩ := y
  simp only [Bool.and_eq_true, beq_iff_eq, and_true, S_api_Candidate.mk.injEq, S_api_Pair.mk.injEq, S_api_Chance.mk.injEq]
end Go.Ev.SearchGrows
