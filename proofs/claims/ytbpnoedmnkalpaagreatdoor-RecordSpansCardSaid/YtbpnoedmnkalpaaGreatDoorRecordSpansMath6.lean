/- Maps: what is put is found. -/
import Derived.Test.YtbpnoedmnkalpaaGreatDoorRecordSpansMath5
namespace Go.Ev.RecordSpans
open Go Go.Ev Go.Proofs
set_option linter.unusedVariables false
section
variable {K V : Type} {eq : K → K → Bool}
def lkM (eq : K → K → Bool) (k : K) : List (K × V) → Option V
  | [] => none
  | x :: l => bif eq k x.1 then some x.2 else lkM eq k l
theorem mfind_lk (k : K) : ∀ (l : List (K × V)) (i : Nat), (mfind eq k l i).map (·.2) = lkM eq k l
  | [], i => rfl
  | x :: l, i => by
    unfold mfind lkM
    cases eq k x.1 with
    | true => rfl
    | false => exact mfind_lk k l (i + 1)
theorem mget_lk (z : V) (l : List (K × V)) (k : K) : mget eq z l k = (lkM eq k l).getD z := by
  rw [← mfind_lk k l 0]
  unfold mget
  cases mfind eq k l 0 <;> rfl
def ptM (eq : K → K → Bool) (k : K) (v : V) : List (K × V) → List (K × V)
  | [] => [(k, v)]
  | x :: l => bif eq k x.1 then (k, v) :: l else x :: ptM eq k v l
theorem mput_pt (k : K) (v : V) : ∀ (l : List (K × V)) (i : Nat), (match mfind eq k l i with | some x => l.set (x.1 - i) (k, v) | none => l ++ [(k, v)]) = ptM eq k v l ∧ ∀ x, mfind eq k l i = some x → i ≤ x.1
  | [], i => ⟨rfl, fun x h => by simp [mfind] at h⟩
  | y :: l, i => by
    unfold mfind ptM
    cases h : eq k y.1 with
    | true =>
      refine ⟨?_, fun x hx => ?_⟩
      · simp
      · simp at hx
        rw [← hx]
        exact Nat.le_refl _
    | false =>
      obtain ⟨h1, h2⟩ := mput_pt k v l (i + 1)
      simp only [cond_false]
      cases hf : mfind eq k l (i + 1) with
      | none =>
        rw [hf] at h1
        refine ⟨?_, fun x hx => by simp at hx⟩
        simp only at h1 ⊢
        rw [← h1]
        rfl
      | some x =>
        have h3 := h2 x hf
        rw [hf] at h1
        refine ⟨?_, fun x' hx => ?_⟩
        · simp only at h1 ⊢
          rw [← h1, show x.1 - i = (x.1 - (i + 1)) + 1 by omega]
          rfl
        · simp only [Option.some.injEq] at hx
          subst hx
          omega
theorem mput_eq (l : List (K × V)) (k : K) (v : V) : mput eq l k v = ptM eq k v l := by
  rw [← (mput_pt k v l 0).1]
  unfold mput
  cases mfind eq k l 0 <;> rfl
theorem lk_pt (hE : ∀ a b, eq a b = true ↔ a = b) (k : K) (v : V) (x : K) : ∀ l : List (K × V), lkM eq x (ptM eq k v l) = bif eq x k then some v else lkM eq x l
  | [] => by
    unfold ptM lkM lkM
    rfl
  | y :: l => by
    unfold ptM
    cases h : eq k y.1 with
    | true =>
      have e := (hE _ _).1 h
      rw [cond_true]
      unfold lkM
      rw [← e]
      cases eq x k <;> rfl
    | false =>
      rw [cond_false]
      show (bif eq x y.1 then some y.2 else lkM eq x (ptM eq k v l)) = _
      rw [lk_pt hE k v x l]
      show _ = bif eq x k then some v else (bif eq x y.1 then some y.2 else lkM eq x l)
      cases h1 : eq x y.1 with
      | false => rfl
      | true =>
        cases h2 : eq x k with
        | false => rfl
        | true =>
          have e1 := (hE _ _).1 h1
          have e2 := (hE _ _).1 h2
          subst e2
          subst e1
          rw [(hE _ _).2 rfl] at h
          simp at h
theorem mget_put (hE : ∀ a b, eq a b = true ↔ a = b) (z : V) (l : List (K × V)) (k : K) (v : V) (x : K) : mget eq z (mput eq l k v) x = bif eq x k then v else mget eq z l x := by
  rw [mget_lk, mget_lk, mput_eq, lk_pt hE]
  cases eq x k <;> rfl
end
end Go.Ev.RecordSpans
