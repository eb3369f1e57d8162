/- Counts of seconds. -/
import Derived.Test.YtbpnoedmnkalpaaGreatDoorRecordSpansMath9
namespace Go.Ev.RecordSpans
open Go Go.Ev Go.Proofs
set_option linter.unusedVariables false
def fl (p : Int → Bool) (u : Int) (n : Nat) : List Bool := (List.range n).map fun k : Nat => p (u + (k : Int))
theorem fl_len (p : Int → Bool) (u : Int) (n : Nat) : (fl p u n).length = n := by unfold fl; simp
theorem fl_get (p : Int → Bool) (u : Int) {n k : Nat} (h : k < n) : (fl p u n)[k]? = some (p (u + (k : Int))) := by
  unfold fl
  rw [List.getElem?_map, List.getElem?_range h]
  rfl
def inr (u v : Int) (f : S_api_Frame) : Bool := decide (u ≤ f.Start) && decide (f.Start < v)
theorem count_or {α : Type} (p q : α → Bool) : ∀ l : List α, (∀ x ∈ l, ¬ (p x = true ∧ q x = true)) → l.countP (fun x => p x || q x) = l.countP p + l.countP q
  | [], _ => rfl
  | a :: l, h => by
    have ih := count_or p q l fun x hx => h x (by simp [hx])
    have h1 := h a (by simp)
    rw [List.countP_cons, List.countP_cons, List.countP_cons, ih]
    cases hp : p a with
    | true =>
      have hq : q a = false := by
        cases hq : q a with
        | true => exact absurd ⟨hp, hq⟩ h1
        | false => rfl
      simp [hq]
      omega
    | false => simp; omega
theorem count_eq (u x : Int) : ∀ n : Nat, (List.range n).countP (fun k : Nat => x == u + (k : Int)) = if u ≤ x ∧ x < u + n then 1 else 0
  | 0 => by rw [if_neg (by omega)]; rfl
  | n + 1 => by
    rw [List.range_succ, List.countP_append, count_eq u x n, List.countP_cons, List.countP_nil]
    by_cases h : x = u + (n : Int)
    · have e : (x == u + (n : Int)) = true := by rw [beq_iff_eq]; exact h
      rw [if_neg (by omega), e, if_pos rfl, if_pos (by omega)]
    · have e : (x == u + (n : Int)) = false := by rw [beq_eq_false_iff_ne]; exact h
      rw [e]
      by_cases h2 : u ≤ x ∧ x < u + n
      · rw [if_pos h2, if_neg (by simp), if_pos (by omega)]
      · rw [if_neg h2, if_neg (by simp), if_neg (by omega)]
theorem count_any (u : Int) (n : Nat) : ∀ L : List S_api_Frame, L.Pairwise ltF → (List.range n).countP (fun k : Nat => L.any fun f => f.Start == u + (k : Int)) = L.countP (inr u (u + n))
  | [], _ => by simp
  | f :: r, hp => by
    obtain ⟨p1, p2⟩ := List.pairwise_cons.1 hp
    have ih := count_any u n r p2
    have e : (fun k : Nat => (f :: r).any fun f => f.Start == u + (k : Int)) = fun k : Nat => (f.Start == u + (k : Int)) || (r.any fun f => f.Start == u + (k : Int)) := by
      funext k
      rw [List.any_cons]
    rw [e, count_or, ih, count_eq, List.countP_cons]
    · unfold inr
      by_cases h : u ≤ f.Start ∧ f.Start < u + n
      · rw [if_pos h, decide_eq_true h.1, decide_eq_true h.2]
        simp
        omega
      · rw [if_neg h]
        have : (decide (u ≤ f.Start) && decide (f.Start < u + n)) = false := by
          rw [Bool.and_eq_false_iff, decide_eq_false_iff_not, decide_eq_false_iff_not]
          omega
        rw [this]
        simp
    · rintro k _ ⟨h1, h2⟩
      rw [beq_iff_eq] at h1
      rw [List.any_eq_true] at h2
      obtain ⟨g, hg, h3⟩ := h2
      rw [beq_iff_eq] at h3
      have : f.Start < g.Start := p1 g hg
      omega
theorem flags_count (u : Int) (n : Nat) (L : List S_api_Frame) (hp : L.Pairwise ltF) : L.countP (inr u (u + n)) + (fl (inS (gapsR (u + n) u L)) u n).countP id = n := by
  have e : (fl (inS (gapsR (u + n) u L)) u n).countP id = (List.range n).countP fun k : Nat => !(L.any fun f => f.Start == u + (k : Int)) := by
    unfold fl
    rw [List.countP_map]
    refine List.countP_congr fun k hk => ?_
    have hk' := List.mem_range.1 hk
    show inS (gapsR (u + n) u L) (u + (k : Int)) = true ↔ _
    rw [miss_iff (u + n) L u hp (u + (k : Int)) (by omega) (by omega)]
  rw [e, ← count_any u n L hp]
  have := List.length_eq_countP_add_countP (fun k : Nat => L.any fun f => f.Start == u + (k : Int)) (l := List.range n)
  rw [List.length_range] at this
  have e2 : (List.range n).countP (fun k : Nat => !(L.any fun f => f.Start == u + (k : Int))) = (List.range n).countP (fun a : Nat => decide ¬(L.any fun f => f.Start == u + (a : Int)) = true) := by
    refine List.countP_congr fun k hk => ?_
    simp
  rw [e2]
  omega
end Go.Ev.RecordSpans
