/- A part of the small machine. -/
import Derived.Test.YtjddbfpinjjkkaaGreatDoorEvL10
set_option linter.unusedVariables false
namespace Go.Ev
open Go.RowKit
section
variable {P : Program} {F : Rd} {M : Mem} {H : List Ent} {e : Env} {p q : Operand} {t u tt : TypeId} {α : Type} {enc : α → List SV} {i n z by' : Nat} {bb : Pos} {l : List α} {c : List SV}
variable {fx : Fx} {nn : Nat} {Q : SV → Mem → Prop} {k : List SItem}
end
end Go.Ev
namespace Go.Ev
open Go.RowKit
variable {P : Program}
section
variable {B : Nat} {n N : Nat} {all : Array Oper} {Ms : Nat → Mem} {σs : Nat → Tree SV} {ss : Nat → SV} {m0 : Map} {w0 : World}
end
section
variable {fx : Fx} {n : Nat} {Q : SV → Mem → Prop} {e : Env} {k : List SItem} {M : Mem}
end
end Go.Ev
