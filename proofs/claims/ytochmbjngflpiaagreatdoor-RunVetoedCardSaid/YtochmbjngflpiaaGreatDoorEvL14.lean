/- A part of the small machine. -/
import Derived.Test.YtochmbjngflpiaaGreatDoorEvL12
import Derived.Deep.Slices
set_option linter.unusedVariables false
namespace Go.Ev
open Go.RowKit
variable {P : Program}
structure InnerArg {α : Type} (W : World) (z : Nat) (enc : α → List SV) (v : Value) (l : List α) (r : ARow) (s : Nat → SV) : Prop where
  row : ∀ x, r = some x → x.1.block < W.heap.size ∧ ∀ m, RowRel m x.1 none .lost x.2 W.heap[x.1.block]?
  val : ∀ (m : Map) (j : Nat), (∀ x, r = some x → m (Pos.ofNat j) = some x.1) → conc m (s j) = some v
  slc : ∀ (f : Rd) (j : Nat), (∀ x, r = some x → f (Pos.ofNat j) = some x.2) → Slc f z (FlatR enc) (s j) l
  len : l.length ≤ maxLen
theorem cell_lies {w : World} {a : Addr} {v : Value} (h : w.cell? a = some v) : a.spot = none ∧ ∃ c e fz, w.heap[a.block]? = some (.cells c e fz) ∧ a.off < c.size := by
  unfold World.cell? at h
  split at h
  · rename_i c e fz hobj
    split at h
    · simp at h
    · rename_i hs
      refine ⟨by simpa using hs, c, e, fz, hobj, ?_⟩
      apply Classical.byContradiction
      intro hn
      rw [Array.getElem?_eq_none (by omega)] at h
      simp at h
  · simp at h
def AtM (m : Map) (j : Nat) (l : List BRow) : Prop := ∀ (i : Nat) (y : Bool × Pl × List SV), l[i]? = some (some y) → m (Pos.ofNat (j + i)) = some y.2.1
def AtF (f : Rd) (j : Nat) (l : List BRow) : Prop := ∀ (i : Nat) (y : Bool × Pl × List SV), l[i]? = some (some y) → f (Pos.ofNat (j + i)) = some y.2.2
structure ElemArg {α : Type} (W : World) (z : Nat) (R : Rd → List SV → α → Prop) (Q : α → Prop) (cs : List Value) (a : α) (r : ARow) (s : Nat → List SV) : Prop where
  row : ∀ x, r = some x → x.1.block < W.heap.size ∧ ∀ m, RowRel m x.1 none .lost x.2 W.heap[x.1.block]?
  val : ∀ (m : Map) (j : Nat), (∀ x, r = some x → m (Pos.ofNat j) = some x.1) → concs m (s j) = some cs
  rep : ∀ (f : Rd) (j : Nat), (∀ x, r = some x → f (Pos.ofNat j) = some x.2) → R f (s j) a
  len : ∀ j, (s j).length = z
  ok : Q a
structure NestArg {α : Type} (W : World) (z : Nat) (R : Rd → List SV → α → Prop) (Q : α → Prop) (v : Value) (l : List α) (rows : Nat → List BRow) (s : Nat → SV) : Prop where
  row : ∀ (j i : Nat) (y : Bool × Pl × List SV), (rows j)[i]? = some (some y) → y.1 = false ∧ y.2.1.block < W.heap.size ∧ ∀ m, AtM m j (rows j) → RowRel m y.2.1 none .lost y.2.2 W.heap[y.2.1.block]?
  val : ∀ (m : Map) (j : Nat), AtM m j (rows j) → conc m (s j) = some v
  slc : ∀ (f : Rd) (j : Nat), AtF f j (rows j) → Slc f z (R f) (s j) l
  len : l.length ≤ maxLen
  all : ∀ a ∈ l, Q a
theorem flatm_len2 {z : Nat} {g : Nat → List SV} (hg : ∀ i, (g i).length = z) : ∀ n : Nat, ((List.range n).flatMap g).length = n * z
  | 0 => by simp
  | n + 1 => by
    rw [List.range_succ, List.flatMap_append, List.length_append, flatm_len2 hg n]
    simp [hg, Nat.succ_mul]
theorem flat_at2 {z : Nat} {g : Nat → List SV} (hg : ∀ i, (g i).length = z) : ∀ (n i : Nat), i < n → (((List.range n).flatMap g).drop (i * z)).take z = g i
  | 0, i, h => by omega
  | n + 1, i, h => by
    have hl := flatm_len2 hg n
    rw [List.range_succ, List.flatMap_append]
    simp only [List.flatMap_cons, List.flatMap_nil, List.append_nil]
    by_cases hi : i < n
    · have h2 : (i + 1) * z ≤ n * z := Nat.mul_le_mul_right z hi
      rw [Nat.succ_mul] at h2
      rw [List.drop_append_of_le_length (by omega), List.take_append_of_le_length (by rw [List.length_drop]; omega)]
      exact flat_at2 hg n i hi
    · obtain rfl : i = n := by omega
      rw [List.drop_append, List.drop_of_length_le (by omega), hl, Nat.sub_self, List.drop_zero, List.nil_append, List.take_of_length_le (by rw [hg]; exact Nat.le_refl _)]
theorem atM_app {pre l : List BRow} : AtM (mapB (pre ++ l)) pre.length l := fun i y hy => mapB_at (by rw [List.getElem?_append_right (Nat.le_add_right _ _), Nat.add_sub_cancel_left]; exact hy)
theorem atF_app {pre l : List BRow} (hf : ∀ (i : Nat) (y : Bool × Pl × List SV), l[i]? = some (some y) → y.1 = false) : AtF (rd (memB (pre ++ l))) pre.length l := fun i y hy => by
  have h1 := hf i y hy
  obtain ⟨a, p, c⟩ := y
  simp only at h1
  subst h1
  exact ro_rd (memB_ro (by rw [List.getElem?_append_right (Nat.le_add_right _ _), Nat.add_sub_cancel_left]; exact hy))
end Go.Ev
namespace Go.Ev
open Go.RowKit
variable {P : Program}
section
variable {e : Env} {M : Mem} {x y p q : Operand} {t u et : TypeId} {kk : IntKind}
theorem ex_idxA {l : List SV} {s : SV} {nn z j : Nat} {k : Int} (h : ar e x = some (.agg l)) (h' : ar e y = some (.int kk k)) (hw : whole P t = some (.arr nn et z)) (hk : natIn k nn = some j) (hp : partS P et l (Nat.mul j z) = some s) : execO P M (treeOf e) (.index t x y) = .val s M := by
  show eIndex P M (treeOf e) t x y = _
  unfold eIndex
  rw [ar_arg h, ar_arg h']
  show xIndex P t (.agg l) (.int kk k) M = _
  unfold xIndex
  simp only [hw, hk, hp]
end
section
variable {F : Rd} {M : Mem} {H : List Ent} {e : Env} {p q : Operand} {t tt : TypeId} {rk : RK} {i j n off : Nat} {b : Pos} {c cs : List SV} {s : SV}
end
end Go.Ev
