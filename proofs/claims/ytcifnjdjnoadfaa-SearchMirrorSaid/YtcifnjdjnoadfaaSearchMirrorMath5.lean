/- Coincidences exchanged, and their order. -/
import Derived.Test.YtcifnjdjnoadfaaSearchMirrorMath4
namespace Go.Ev.SearchMirror
open Go Go.Ev Go.Proofs
set_option linter.unusedVariables false
theorem dist_comm (T s t : Int) : dist T s t = dist T t s := by unfold dist; rw [Int.max_comm]
theorem isOne_comm (c : S_search_clock) (x y : S_api_Trigger) : isOne c x y = isOne c y x := by
  unfold isOne
  rw [dist_comm, Bool.beq_comm]
theorem rowP_cnt (c : S_search_clock) (i : Nat) (x : S_api_Trigger) : ∀ (l : List S_api_Trigger) (k : Nat), (rowP c i x k l).length = l.countP (isOne c x)
  | [], _ => rfl
  | y :: r, k => by
    rw [rowP, List.countP_cons, ← rowP_cnt c i x r (k + 1)]
    cases isOne c x y <;> simp
theorem prs_cons (c : S_search_clock) (y : S_api_Trigger) (r : List S_api_Trigger) : ∀ (a : List S_api_Trigger) (i : Nat), (prs c (y :: r) i a).length = (prs c r i a).length + a.countP (isOne c y)
  | [], _ => rfl
  | x :: s, i => by
    rw [prs, prs, List.length_append, List.length_append, prs_cons c y r s (i + 1), rowP_cnt, rowP_cnt, List.countP_cons, List.countP_cons, isOne_comm c x y]
    omega
theorem prs_nil (c : S_search_clock) : ∀ (a : List S_api_Trigger) (i : Nat), (prs c [] i a).length = 0
  | [], _ => rfl
  | x :: s, i => by
    rw [prs, List.length_append, prs_nil c s (i + 1)]
    rfl
theorem prs_swap_len (c : S_search_clock) (a : List S_api_Trigger) : ∀ (b : List S_api_Trigger) (i j : Nat), (prs c b i a).length = (prs c a j b).length
  | [], i, j => by rw [prs_nil]; rfl
  | y :: r, i, j => by
    rw [prs_cons, prs, List.length_append, rowP_cnt, prs_swap_len c a r i (j + 1)]
    omega
theorem mem_rowP (c : S_search_clock) (i : Nat) (x : S_api_Trigger) (p : S_api_Pair) : ∀ (l : List S_api_Trigger) (k : Nat), p ∈ rowP c i x k l ↔ ∃ (j : Nat) (y : S_api_Trigger), l[j]? = some y ∧ isOne c x y = true ∧ p = ⟨i, (k + j : Nat), x.Loud + y.Loud⟩
  | [], k => by simp [rowP]
  | y :: r, k => by
    have ih := mem_rowP c i x p r (k + 1)
    rw [rowP]
    constructor
    · intro h
      have h' : (isOne c x y = true ∧ p = ⟨i, k, x.Loud + y.Loud⟩) ∨ p ∈ rowP c i x (k + 1) r := by
        cases e : isOne c x y with
        | false => rw [e] at h; exact .inr h
        | true =>
          rw [e] at h
          rcases List.mem_cons.1 h with h | h
          · exact .inl ⟨rfl, h⟩
          · exact .inr h
      rcases h' with ⟨h1, h2⟩ | h'
      · exact ⟨0, y, rfl, h1, h2⟩
      · obtain ⟨j, z, g1, g2, g3⟩ := ih.1 h'
        exact ⟨j + 1, z, by simpa using g1, g2, by rw [g3, show k + 1 + j = k + (j + 1) by omega]⟩
    · rintro ⟨j, z, g1, g2, g3⟩
      cases j with
      | zero =>
        simp only [List.getElem?_cons_zero, Option.some.injEq] at g1
        subst g1
        rw [g2]
        exact List.mem_cons.2 (.inl g3)
      | succ j =>
        have : p ∈ rowP c i x (k + 1) r := ih.2 ⟨j, z, by simpa using g1, g2, by rw [g3, show k + 1 + j = k + (j + 1) by omega]⟩
        cases isOne c x y with
        | false => exact this
        | true => exact List.mem_cons.2 (.inr this)
theorem mem_prs (c : S_search_clock) (b : List S_api_Trigger) (p : S_api_Pair) : ∀ (a : List S_api_Trigger) (i : Nat), p ∈ prs c b i a ↔ ∃ (q : Nat) (x : S_api_Trigger) (j : Nat) (y : S_api_Trigger), a[q]? = some x ∧ b[j]? = some y ∧ isOne c x y = true ∧ p = ⟨(i + q : Nat), j, x.Loud + y.Loud⟩
  | [], i => by simp [prs]
  | x :: s, i => by
    rw [prs, List.mem_append, mem_rowP, mem_prs c b p s (i + 1)]
    constructor
    · rintro (⟨j, y, g1, g2, g3⟩ | ⟨q, z, j, y, g0, g1, g2, g3⟩)
      · exact ⟨0, x, j, y, rfl, g1, g2, by rw [g3, Nat.zero_add]; rfl⟩
      · exact ⟨q + 1, z, j, y, by simpa using g0, g1, g2, by rw [g3, show i + 1 + q = i + (q + 1) by omega]⟩
    · rintro ⟨q, z, j, y, g0, g1, g2, g3⟩
      cases q with
      | zero =>
        simp only [List.getElem?_cons_zero, Option.some.injEq] at g0
        subst g0
        exact .inl ⟨j, y, g1, g2, by rw [g3, Nat.zero_add]; rfl⟩
      | succ q => exact .inr ⟨q, z, j, y, by simpa using g0, g1, g2, by rw [g3, show i + 1 + q = i + (q + 1) by omega]⟩
theorem prs_swap {c : S_search_clock} {a b : List S_api_Trigger} {p : S_api_Pair} (h : p ∈ prs c b 0 a) : (⟨p.B, p.A, p.Loud⟩ : S_api_Pair) ∈ prs c a 0 b := by
  obtain ⟨q, x, j, y, g0, g1, g2, g3⟩ := (mem_prs c b p a 0).1 h
  refine (mem_prs c a _ b 0).2 ⟨j, y, q, x, g1, g0, by rw [isOne_comm]; exact g2, ?_⟩
  rw [g3, Nat.zero_add, Nat.zero_add, Int.add_comm]
def lex (p q : S_api_Pair) : Prop := p.A < q.A ∨ p.A = q.A ∧ p.B < q.B
theorem rowP_sorted (c : S_search_clock) (i : Nat) (x : S_api_Trigger) : ∀ (l : List S_api_Trigger) (k : Nat), (rowP c i x k l).Pairwise lex
  | [], _ => List.Pairwise.nil
  | y :: r, k => by
    have ih := rowP_sorted c i x r (k + 1)
    rw [rowP]
    cases isOne c x y with
    | false => exact ih
    | true =>
      refine List.Pairwise.cons (fun p hp => ?_) ih
      obtain ⟨j, z, _, _, rfl⟩ := (mem_rowP c i x p r (k + 1)).1 hp
      exact .inr ⟨rfl, by show (k : Int) < ((k + 1 + j : Nat) : Int); omega⟩
theorem prs_sorted (c : S_search_clock) (b : List S_api_Trigger) : ∀ (a : List S_api_Trigger) (i : Nat), (prs c b i a).Pairwise lex
  | [], _ => List.Pairwise.nil
  | x :: s, i => by
    rw [prs, List.pairwise_append]
    refine ⟨rowP_sorted c i x b 0, prs_sorted c b s (i + 1), fun p hp q hq => ?_⟩
    obtain ⟨j, y, _, _, rfl⟩ := (mem_rowP c i x p b 0).1 hp
    obtain ⟨u, z, v, y', _, _, _, rfl⟩ := (mem_prs c b q s (i + 1)).1 hq
    exact .inl (by show (i : Int) < ((i + 1 + u : Nat) : Int); omega)
theorem chkE_comm (c : S_search_clock) (a b : List S_api_Trigger) : chkE c [a, b] = chkE c [b, a] := by
  unfold chkE
  simp only [List.all_cons, List.all_nil, Bool.and_true]
  rw [Bool.and_comm (okT a), Bool.and_comm (fit c.live a)]
end Go.Ev.SearchMirror
