/- A part of the small machine. -/
import Derived.Test.YtajnglhkdglglaaGreatDoorEvL19
set_option linter.unusedVariables false
/- Rows that are known as a whole (arrays; what make lays with room), and slices of them that may be written; bytes that become a string. -/
set_option linter.unusedVariables false
namespace Go.Ev
open Go.RowKit
variable {P : Program}
section
variable {α : Type} {F : Rd} {M : Mem} {H : List Ent} {e : Env} {p q : Operand} {t u tt : TypeId} {rk : RK} {i j N off len : Nat} {s : SV} {b : Pos} {l l' : List α} {enc : α → List SV} {k0 k1 kk : IntKind}
end
section
variable {fx : Fx} {n : Nat} {Q : SV → Mem → Prop} {e : Env} {k : List SItem} {M : Mem} {F : Rd} {H : List Ent}
end
section
variable {f g : Rd} {q : SV} {cs : List SV} {b : Pos} {M : Mem} {F : Rd} {H : List Ent} {e : Env} {α : Type} {enc : α → List SV} {l l' : List α} {t tt : TypeId} {N off : Nat} {k0 k1 : IntKind}
end
end Go.Ev

/- Loops over functions inside loops: a frame that lays more and more for its loops. -/
namespace Go.Ev
open Go
end Go.Ev

