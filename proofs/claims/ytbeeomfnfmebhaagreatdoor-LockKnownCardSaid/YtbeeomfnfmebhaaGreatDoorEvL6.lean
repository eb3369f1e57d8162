/- A part of the small machine. -/
import Derived.Test.YtbeeomfnfmebhaaGreatDoorEvL4
import Derived.Deep.Slices
import Derived.ReadAgain
set_option linter.unusedVariables false
namespace Go.Ev
open Go.RowKit
variable {P : Program}
abbrev ARow := Option (Pl × List SV)
noncomputable def argS (r : ARow) (j len cap : Nat) : SV := match r with
  | none => .nils
  | some _ => .slice (Pos.ofNat j) 0 len cap
structure FlatArg {α : Type} (W : World) (z : Nat) (enc : α → List SV) (v : Value) (l : List α) (r : ARow) (cap : Nat) : Prop where
  row : ∀ x, r = some x → x.1.block < W.heap.size ∧ ∀ m, RowRel m x.1 none .lost x.2 W.heap[x.1.block]?
  val : ∀ (m : Map) (j : Nat), (∀ x, r = some x → m (Pos.ofNat j) = some x.1) → conc m (argS r j l.length cap) = some v
  slc : ∀ (f : Rd) (j : Nat), (∀ x, r = some x → f (Pos.ofNat j) = some x.2) → Slc f z (FlatR enc) (argS r j l.length cap) l
  len : l.length ≤ maxLen
section
variable {H : Type} {enc : TypeId × Value → H} {w w' : World} {base : Nat} {spare : Nat → Bool} {held : Bool}
end
end Go.Ev
namespace Go.Ev
open Go.RowKit
variable {P : Program}
section
variable {α : Type} {F : Rd} {H : List Ent} {M : Mem} {e : Env} {t u : TypeId} {p q : Operand} {f : Rd} {s sv : SV} {l l' : List α} {z i : Nat} {enc : α → List SV} {R : List SV → α → Prop} {tt : TypeId} {kk k0 k1 : IntKind} {a lo hi : Int} {el : α}
end
end Go.Ev
