/- A part of the small machine. -/
import Derived.Test.YtjddbfpinjjkkaaGreatDoorEvL12
import Derived.Deep.Slices
set_option linter.unusedVariables false
namespace Go.Ev
open Go.RowKit
variable {P : Program}
structure InnerArg {α : Type} (W : World) (z : Nat) (enc : α → List SV) (v : Value) (l : List α) (r : ARow) (s : Nat → SV) : Prop where
 row : ∀ x, r = some x → x.1.block < W.heap.size ∧ ∀ m, RowRel m x.1 none .lost x.2 W.heap[x.1.block]?
 val : ∀ (m : Map) (j : Nat), (∀ x, r = some x → m (Pos.ofNat j) = some x.1) → conc m (s j) = some v
 slc : ∀ (f : Rd) (j : Nat), (∀ x, r = some x → f (Pos.ofNat j) = some x.2) → Slc f z (FlatR enc) (s j) l
 len : l.length ≤ maxLen
def AtM (m : Map) (j : Nat) (l : List BRow) : Prop := ∀ (i : Nat) (y : Bool × Pl × List SV), l[i]? = some (some y) → m (Pos.ofNat (j + i)) = some y.2.1
def AtF (f : Rd) (j : Nat) (l : List BRow) : Prop := ∀ (i : Nat) (y : Bool × Pl × List SV), l[i]? = some (some y) → f (Pos.ofNat (j + i)) = some y.2.2
structure ElemArg {α : Type} (W : World) (z : Nat) (R : Rd → List SV → α → Prop) (Q : α → Prop) (cs : List Value) (a : α) (r : ARow) (s : Nat → List SV) : Prop where
 row : ∀ x, r = some x → x.1.block < W.heap.size ∧ ∀ m, RowRel m x.1 none .lost x.2 W.heap[x.1.block]?
 val : ∀ (m : Map) (j : Nat), (∀ x, r = some x → m (Pos.ofNat j) = some x.1) → concs m (s j) = some cs
 rep : ∀ (f : Rd) (j : Nat), (∀ x, r = some x → f (Pos.ofNat j) = some x.2) → R f (s j) a
 len : ∀ j, (s j).length = z
 ok : Q a
structure NestArg {α : Type} (W : World) (z : Nat) (R : Rd → List SV → α → Prop) (Q : α → Prop) (v : Value) (l : List α) (rows : Nat → List BRow) (s : Nat → SV) : Prop where
 row : ∀ (j i : Nat) (y : Bool × Pl × List SV), (rows j)[i]? = some (some y) → y.1 = false ∧ y.2.1.block < W.heap.size ∧ ∀ m, AtM m j (rows j) → RowRel m y.2.1 none .lost y.2.2 W.heap[y.2.1.block]?
 val : ∀ (m : Map) (j : Nat), AtM m j (rows j) → conc m (s j) = some v
 slc : ∀ (f : Rd) (j : Nat), AtF f j (rows j) → Slc f z (R f) (s j) l
 len : l.length ≤ maxLen
 all : ∀ a ∈ l, Q a
end Go.Ev
namespace Go.Ev
open Go.RowKit
variable {P : Program}
section
variable {e : Env} {M : Mem} {x y p q : Operand} {t u et : TypeId} {kk : IntKind}
end
section
variable {F : Rd} {M : Mem} {H : List Ent} {e : Env} {p q : Operand} {t tt : TypeId} {rk : RK} {i j n off : Nat} {b : Pos} {c cs : List SV} {s : SV}
end
end Go.Ev
