/- Regions that draw their order: schedules, plans. -/
import Derived.Test.YtpebjkgogohhpaaGreatDoorEvV19
namespace Go.Ev
open Go.RowKit
variable {P : Program}

/-- What must have been carried out before. -/
def predsOf (o : Oper) : List Nat := o.after.toList.filterMap fun e => if Region.binds .any e then some e.on else none

inductive Before (ops : Array Oper) : Nat → Nat → Prop
  | dir {k i : Nat} {o : Oper} : ops[i]? = some o → k ∈ predsOf o → Before ops k i
  | trans {k j i : Nat} : Before ops k j → Before ops j i → Before ops k i

/-- What is left of a schedule, when S has been carried out. -/
inductive Topo (ops : Array Oper) : List Nat → List Nat → Prop
  | nil {S} : (∀ i, i < ops.size → i ∈ S) → Topo ops S []
  | cons {S j rest o} : j ∉ S → ops[j]? = some o → (∀ k ∈ predsOf o, k ∈ S) → Topo ops (j :: S) rest → Topo ops S (j :: rest)

/-- Each operation comes behind those that it waits for, in the text. -/
def forward (ops : Array Oper) : Bool := ops.toList.zipIdx.all fun (o, i) => (predsOf o).all fun k => Nat.blt k i

theorem forward_lt {ops : Array Oper} (h : forward ops = true) {i k : Nat} {o : Oper} (ho : ops[i]? = some o) (hk : k ∈ predsOf o) : k < i := by
  unfold forward at h
  rw [List.all_eq_true] at h
  have hm : (o, i) ∈ ops.toList.zipIdx := by
    rw [List.mem_zipIdx_iff_getElem?]
    simpa using ho
  have := h _ hm
  simp only [List.all_eq_true] at this
  exact Nat.lt_of_succ_le (Nat.le_of_ble_eq_true (this k hk))

theorem ready_iff {ops : Array Oper} {listed : Array Bool} {S : List Nat} (hS : ∀ i, i < ops.size → (listed.getD i false = true ↔ i ∈ S)) (hf : forward ops = true) {i : Nat} {o : Oper} (ho : ops[i]? = some o) :
    (o.after.all fun e => !Region.binds .any e || listed.getD e.on false) = true ↔ ∀ k ∈ predsOf o, k ∈ S := by
  have hi : i < ops.size := (Array.getElem?_eq_some_iff.1 ho).1
  rw [← Array.all_toList, List.all_eq_true]
  constructor
  · intro h k hk
    simp only [predsOf, List.mem_filterMap] at hk
    obtain ⟨e, he, hb⟩ := hk
    split at hb
    · rename_i hbind
      simp only [Option.some.injEq] at hb
      subst hb
      have := h e he
      simp only [hbind, Bool.not_true, Bool.false_or] at this
      have hlt := forward_lt hf ho (k := e.on) (by simp only [predsOf, List.mem_filterMap]; exact ⟨e, he, by simp [hbind]⟩)
      exact (hS e.on (by omega)).1 this
    · simp at hb
  · intro h e he
    cases hbind : Region.binds .any e with
    | false => rfl
    | true =>
      have hk : e.on ∈ predsOf o := by simp only [predsOf, List.mem_filterMap]; exact ⟨e, he, by simp [hbind]⟩
      have hlt := forward_lt hf ho hk
      have := (hS e.on (by omega)).2 (h e.on hk)
      rw [this]; rfl

/-- The number of those that are left. -/
def leftOf (n : Nat) (S : List Nat) : Nat := ((List.range n).filter fun i => decide (i ∉ S)).length

theorem filter_one (p q : Nat → Bool) (j : Nat) (hp : p j = false) (hq : q j = true) (h : ∀ a, a ≠ j → p a = q a) : ∀ l : List Nat, (l.filter p).length + (if j ∈ l then 1 else 0) ≤ (l.filter q).length := by
  intro l
  induction l with
  | nil => simp
  | cons a l ih =>
    by_cases ha : a = j
    · subst ha
      rw [List.filter_cons_of_neg (by simp [hp]), List.filter_cons_of_pos (by simp [hq]), if_pos (by simp), List.length_cons]
      split at ih <;> omega
    · have e2 : (j ∈ a :: l) = (j ∈ l) := by simp [Ne.symm ha]
      simp only [e2]
      cases hqa : q a with
      | true =>
        rw [List.filter_cons_of_pos (by rw [h a ha, hqa]), List.filter_cons_of_pos hqa, List.length_cons, List.length_cons]
        omega
      | false =>
        rw [List.filter_cons_of_neg (by rw [h a ha, hqa]; simp), List.filter_cons_of_neg (by rw [hqa]; simp)]
        exact ih

theorem leftOf_cons {n j : Nat} {S : List Nat} (hj : j < n) (hS : j ∉ S) : leftOf n (j :: S) + 1 ≤ leftOf n S := by
  unfold leftOf
  have := filter_one (fun i => decide (i ∉ j :: S)) (fun i => decide (i ∉ S)) j (by simp) (by simp [hS]) (fun a ha => by simp [ha]) (List.range n)
  rw [if_pos (by simpa using hj)] at this
  exact this

theorem go_topo {ops : Array Oper} (hf : forward ops = true) : ∀ (fuel t : Nat) (listed : Array Bool) (acc S : List Nat), listed.size = ops.size → (∀ i, i < ops.size → (listed.getD i false = true ↔ i ∈ S)) → leftOf ops.size S ≤ fuel →
    ∃ s, Region.linearise.go .any ops fuel t listed acc = acc.reverse ++ s ∧ Topo ops S s
  | 0, t, listed, acc, S, hsz, hS, hl => by
    refine ⟨[], by simp [Region.linearise.go], .nil fun i hi => ?_⟩
    apply Classical.byContradiction
    intro hn
    have : leftOf ops.size (i :: S) + 1 ≤ leftOf ops.size S := leftOf_cons hi hn
    omega
  | fuel + 1, t, listed, acc, S, hsz, hS, hl => by
    simp only [Region.linearise.go]
    generalize hrs : ((List.range ops.size).filter fun i => !listed.getD i true && ((ops[i]?).map fun o => o.after.all fun e => !Region.binds .any e || listed.getD e.on false).getD false) = rs
    have hmem : ∀ i, i ∈ rs ↔ i < ops.size ∧ i ∉ S ∧ ∃ o, ops[i]? = some o ∧ ∀ k ∈ predsOf o, k ∈ S := by
      intro i
      rw [← hrs, List.mem_filter, List.mem_range]
      constructor
      · rintro ⟨hi, hb⟩
        rw [Bool.and_eq_true] at hb
        have ho : ops[i]? = some ops[i] := Array.getElem?_eq_getElem hi
        rw [ho] at hb
        simp only [Option.map_some, Option.getD_some] at hb
        refine ⟨hi, fun hin => ?_, ops[i], ho, (ready_iff hS hf ho).1 hb.2⟩
        have := (hS i hi).2 hin
        have h1 := hb.1
        rw [Array.getD_eq_getD_getElem?, Array.getElem?_eq_getElem (by omega)] at h1 this
        simp only [Option.getD_some] at h1 this
        rw [this] at h1
        simp at h1
      · rintro ⟨hi, hn, o, ho, hk⟩
        refine ⟨hi, ?_⟩
        rw [ho]
        simp only [Option.map_some, Option.getD_some]
        rw [(ready_iff hS hf ho).2 hk, Bool.and_true]
        have hne : ¬ listed.getD i false = true := fun h => hn ((hS i hi).1 h)
        rw [Array.getD_eq_getD_getElem?, Array.getElem?_eq_getElem (by omega)] at hne ⊢
        simp only [Option.getD_some] at hne ⊢
        simpa using hne
    split
    · rename_i i hi
      have him : i ∈ rs := List.mem_of_getElem? hi
      obtain ⟨hlt, hn, o, ho, hk⟩ := (hmem i).1 him
      obtain ⟨s, hs, ht⟩ := go_topo hf fuel (t / rs.length) (listed.setIfInBounds i true) (i :: acc) (i :: S) (by simpa using hsz) (fun j hj => by
        rw [Array.getD_eq_getD_getElem?, Array.getElem?_setIfInBounds]
        by_cases hij : i = j
        · subst hij; simp [hsz, hlt]
        · rw [if_neg hij, ← Array.getD_eq_getD_getElem?, hS j hj]
          simp [Ne.symm hij]) (by have := leftOf_cons hlt hn; omega)
      exact ⟨i :: s, by rw [hs]; simp, .cons hn ho hk ht⟩
    · rename_i hnone
      have hempty : rs = [] := by
        cases rs with
        | nil => rfl
        | cons a l =>
          exfalso
          have : t % (a :: l).length < (a :: l).length := Nat.mod_lt _ (by simp)
          rw [List.getElem?_eq_getElem this] at hnone
          simp at hnone
      refine ⟨[], by simp, .nil fun i hi => ?_⟩
      have key : ∀ n i, i < n → i < ops.size → i ∈ S := by
        intro n
        induction n with
        | zero => intro i h; omega
        | succ n ih =>
          intro i h hi
          apply Classical.byContradiction
          intro hn
          have ho : ops[i]? = some ops[i] := Array.getElem?_eq_getElem hi
          have : i ∈ rs := (hmem i).2 ⟨hi, hn, ops[i], ho, fun k hk => ih k (by have := forward_lt hf ho hk; omega) (by have := forward_lt hf ho hk; omega)⟩
          rw [hempty] at this
          simp at this
      exact key (i + 1) i (by omega) hi

theorem schedule_topo {ops : Array Oper} (hf : forward ops = true) (t : Nat) : Topo ops [] (Region.schedule true ops t) := by
  simp only [Region.schedule, Bool.true_or, if_true, Region.linearise]
  obtain ⟨s, hs, ht⟩ := go_topo hf ops.size t (Array.replicate ops.size false) [] [] (by simp) (fun i hi => by simp [Array.getD_eq_getD_getElem?, hi]) (by
    unfold leftOf
    exact Nat.le_trans (List.length_filter_le _ _) (by simp))
  rw [hs]
  simpa using ht

end Go.Ev
