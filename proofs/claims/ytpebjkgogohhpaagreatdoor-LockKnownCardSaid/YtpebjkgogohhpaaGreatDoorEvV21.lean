/- Regions that draw their order: one plan for all orders. -/
import Derived.Test.YtpebjkgogohhpaaGreatDoorEvV20
namespace Go.Ev
open Go.RowKit
variable {P : Program}

/-- A step of a plan: an operation that may wait; one that is carried out when its turn comes (and those that may still wait then); a place where none waits. -/
inductive PE where
  | fl (i : Nat)
  | an (i : Nat) (L : List Nat)
  | sync

/-- Masks of what comes before, one after another. -/
def maskOf (acc : List Nat) (o : Oper) : Nat := (predsOf o).foldl (fun s k => (s ||| 2 ^ k) ||| acc.getD k 0) 0
def masks (ops : List Oper) : List Nat := ops.foldl (fun acc o => acc ++ [maskOf acc o]) []

theorem fold_testBit (acc : List Nat) (j : Nat) : ∀ (l : List Nat) (s : Nat), (l.foldl (fun s k => (s ||| 2 ^ k) ||| acc.getD k 0) s).testBit j = true → s.testBit j = true ∨ ∃ k ∈ l, j = k ∨ (acc.getD k 0).testBit j = true
  | [], s, h => .inl h
  | k :: l, s, h => by
    rcases fold_testBit acc j l _ h with h1 | ⟨k', hk', h1⟩
    · rw [Nat.testBit_or, Nat.testBit_or, Bool.or_eq_true, Bool.or_eq_true] at h1
      rcases h1 with (h1 | h1) | h1
      · exact .inl h1
      · rw [Nat.testBit_two_pow] at h1
        have hkj : k = j := by simpa using h1
        exact .inr ⟨k, by simp, .inl hkj.symm⟩
      · exact .inr ⟨k, by simp, .inr h1⟩
    · exact .inr ⟨k', by simp [hk'], h1⟩

theorem masks_snoc (l : List Oper) (o : Oper) : masks (l ++ [o]) = masks l ++ [maskOf (masks l) o] := by simp [masks, List.foldl_append]

theorem masks_length (n : Nat) : ∀ l : List Oper, l.length = n → (masks l).length = n := by
  induction n with
  | zero => intro l h; have : l = [] := List.eq_nil_of_length_eq_zero h; subst this; rfl
  | succ n ih =>
    intro l h
    have hl : l = l.take n ++ [l[n]'(by omega)] := by
      rw [List.take_append_getElem]
      rw [List.take_of_length_le (by omega)]
    rw [hl, masks_snoc, List.length_append, ih _ (by rw [List.length_take]; omega)]
    rfl

theorem masks_before {ops : Array Oper} : ∀ n, n ≤ ops.size → ∀ i, i < n → ∀ k, ((masks (ops.toList.take n)).getD i 0).testBit k = true → Before ops k i := by
  intro n
  induction n with
  | zero => intro _ i hi; omega
  | succ n ih =>
    intro hn i hi k hk
    have hlt : n < ops.toList.length := by rw [Array.length_toList]; omega
    have hl : ops.toList.take (n + 1) = ops.toList.take n ++ [ops.toList[n]] := (List.take_append_getElem hlt).symm
    have hlen : (masks (ops.toList.take n)).length = n := masks_length n _ (by rw [List.length_take]; omega)
    rw [hl, masks_snoc, List.getD_eq_getElem?_getD] at hk
    by_cases hin : i < n
    · rw [List.getElem?_append_left (by omega), ← List.getD_eq_getElem?_getD] at hk
      exact ih (by omega) i hin k hk
    · have hi' : i = n := by omega
      subst hi'
      rw [List.getElem?_append_right (by omega), hlen, Nat.sub_self] at hk
      simp only [List.getElem?_cons_zero, Option.getD_some, maskOf] at hk
      have ho : ops[i]? = some ops.toList[i] := by
        rw [Array.getElem?_eq_getElem (by simpa using hlt)]
        simp
      rcases fold_testBit _ _ _ _ hk with h | ⟨j, hj, h⟩
      · simp at h
      · rcases h with rfl | h
        · exact .dir ho hj
        · by_cases hji : j < i
          · exact .trans (ih (by omega) j hji k h) (.dir ho hj)
          · rw [List.getD_eq_getElem?_getD, List.getElem?_eq_none (by omega)] at h
            simp at h

/-- k is sure to come before i. -/
def befB (ms : List Nat) (k i : Nat) : Bool := (ms.getD i 0).testBit k

theorem befB_before {ops : Array Oper} {k i : Nat} (hi : i < ops.size) (h : befB (masks ops.toList) k i = true) : Before ops k i := by
  have := masks_before (ops := ops) ops.size (Nat.le_refl _) i hi k
  rw [List.take_of_length_le (by simp)] at this
  exact this h

def hasN (l : List Nat) (n : Nat) : Bool := l.any (Nat.beq n)
theorem hasN_iff {l : List Nat} {n : Nat} : hasN l n = true ↔ n ∈ l := by
  simp only [hasN, List.any_eq_true]
  constructor
  · rintro ⟨x, hx, he⟩; rw [Nat.eq_of_beq_eq_true he]; exact hx
  · intro h; exact ⟨n, h, by simp⟩
def dstIs (d : Option Tmp) (t : Nat) : Bool := match d with
  | some x => Nat.beq x t
  | none => false
def inter (l : List Nat) (d : Option Tmp) : Bool := match d with
  | some x => hasN l x
  | none => false
def sameDst (a b : Option Tmp) : Bool := match a, b with
  | some x, some y => Nat.beq x y
  | _, _ => false

/-- What is asked of a plan: E has been carried out, Q may be waiting. -/
noncomputable def validP (P : Program) (ops : Array Oper) (ms : List Nat) : List PE → List Nat → List Nat → Bool
  | [], E, _ => (List.range ops.size).all (hasN E)
  | .fl i :: r, E, Q => match ops[i]? with
    | none => false
    | some o => !hasN E i && floatOp P o.op && !inter (readsOf ops o) o.dst && Q.all (fun q => match ops[q]? with
        | none => false
        | some p => (!inter (readsOf ops o) p.dst || befB ms q i) && !inter (readsOf ops p) o.dst && !sameDst o.dst p.dst)
      && validP P ops ms r (i :: E) (i :: Q)
  | .an a L :: r, E, Q => match ops[a]? with
    | none => false
    | some o => !hasN E a && (List.range ops.size).all (fun j => hasN E j || Nat.beq j a || match ops[j]? with
          | none => true
          | some p => (predsOf p).any fun k => !hasN E k)
      && Q.all (fun q => befB ms q a || hasN L q)
      && L.all (fun q => hasN Q q && match ops[q]? with
        | none => false
        | some p => !inter (readsOf ops o) p.dst && !sameDst o.dst p.dst)
      && validP P ops ms r (a :: E) L
  | .sync :: r, E, Q => (List.range ops.size).all (fun j => hasN E j || Q.all fun q => befB ms q j) && validP P ops ms r E []

/-- What an operation that may wait gives. -/
noncomputable def evalF (P : Program) (all : Array Oper) (M : Mem) (σ : Tree SV) (o : Oper) : Option SV :=
  match wantS all σ o with
  | none => none
  | some false => some (.tuple [])
  | some true => match exec P M σ o with
    | .val s _ => some s
    | _ => none

/-- It would give what it gave. -/
noncomputable def still (P : Program) (all : Array Oper) (M : Mem) (σ : Tree SV) (q : Nat) : Bool :=
  match all[q]? with
  | none => false
  | some o => match evalF P all M σ o with
    | none => false
    | some s => match o.dst with
      | none => true
      | some d => match σ.get (Pos.ofNat d) with
        | none => false
        | some s' => beqSV s s'

noncomputable def allStill (P : Program) (all : Array Oper) (M : Mem) (σ : Tree SV) : List Nat → Bool
  | [] => true
  | q :: l => match still P all M σ q with
    | true => allStill P all M σ l
    | false => false

noncomputable def drawS (D : Known) (P : Program) (n : Nat) (all : Array Oper) : List PE → Tree SV → Mem → Option (Tree SV × Mem)
  | [], σ, M => some (σ, M)
  | .sync :: r, σ, M => drawS D P n all r σ M
  | .fl i :: r, σ, M => match all[i]? with
    | none => none
    | some o => match evalF P all M σ o with
      | none => none
      | some s => match putD σ n o.dst s with
        | none => none
        | some σ => drawS D P n all r σ M
  | .an i L :: r, σ, M => match all[i]? with
    | none => none
    | some o => match (match wantS all σ o with
        | none => none
        | some false => some (.tuple [], M)
        | some true => match exec P M σ o with
          | .bad => none
          | .val s M => some (s, M)
          | .enter f as M => D f as M
          | .round _ _ _ => none : Option (SV × Mem)) with
      | none => none
      | some (s, M) => match putD σ n o.dst s with
        | none => none
        | some σ => match allStill P all M σ L with
          | false => none
          | true => drawS D P n all r σ M

end Go.Ev
