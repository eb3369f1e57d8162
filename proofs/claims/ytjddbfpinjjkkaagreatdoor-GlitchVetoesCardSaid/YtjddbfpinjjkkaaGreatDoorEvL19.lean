/- A part of the small machine. -/
import Derived.Test.YtjddbfpinjjkkaaGreatDoorEvL18
set_option linter.unusedVariables false
set_option linter.unusedVariables false
namespace Go.Ev
open Go.RowKit
variable {P : Program}
section
variable {α : Type} {F : Rd} {M : Mem} {H : List Ent} {e : Env} {p q : Operand} {t u tt : TypeId} {i j z off len : Nat} {s sv : SV} {l l' : List α} {enc : α → List SV} {c : List SV} {k0 k1 kk : IntKind}
end
section
variable {α : Type} {F : Rd} {M : Mem} {H : List Ent} {e : Env} {i z off len : Nat} {s sv : SV} {l l' : List α} {R : List SV → α → Prop} {enc : α → List SV} {tt : TypeId} {c : List SV}
end
section
variable {α : Type} {fx : Fx} {n : Nat} {Q : SV → Mem → Prop} {e : Env} {k : List SItem} {M : Mem} {all : Array Oper} {ty : TypeId} {pos : String} {af : Array Edge} {g : Option (Nat × Bool)} {d : Option Tmp} {r tl : List Oper} {F : Rd} {H : List Ent}
theorem PureG.callX {op : Op} {f : FuncId} {xs : List SV} {R : SV → Mem → Prop} (hw : wantS all (treeOf e) ⟨d, op, ty, pos, af, g⟩ = some true) (hx : execO P (lift M) (treeOf e) op = .enter f xs (lift M)) (hd : okD d n = true) (hc : CallsM P f xs (lift M) R)
    (h : ∀ s M', R s M' → Aft (lift M) M' → PureG P fx n Q all k tl r (putE d s e) (unlift M.floor M')) : PureG P fx n Q all k tl (⟨d, op, ty, pos, af, g⟩ :: r) e M := PureG.callN hw hx hd hc h
end
end Go.Ev
