/- A part of the small machine. -/
import Derived.Test.YtjddbfpinjjkkaaGreatDoorEvL19
set_option linter.unusedVariables false
set_option linter.unusedVariables false
namespace Go.Ev
open Go.RowKit
variable {P : Program}
section
variable {α : Type} {F : Rd} {M : Mem} {H : List Ent} {e : Env} {p q : Operand} {t u tt : TypeId} {rk : RK} {i j N off len : Nat} {s : SV} {b : Pos} {l l' : List α} {enc : α → List SV} {k0 k1 kk : IntKind}
end
section
variable {fx : Fx} {n : Nat} {Q : SV → Mem → Prop} {e : Env} {k : List SItem} {M : Mem} {F : Rd} {H : List Ent}
end
def zrx (f : Rd) (q : SV) (cs : List SV) : Prop := ∃ b, q = .ptr b 0 ∧ zar f (.ptr b 0) cs
section
variable {f g : Rd} {q : SV} {cs : List SV} {b : Pos} {M : Mem} {F : Rd} {H : List Ent} {e : Env} {α : Type} {enc : α → List SV} {l l' : List α} {t tt : TypeId} {N off : Nat} {k0 k1 : IntKind}
theorem zrx.mono (h : zrx f q cs) (hf : zj2 f g) : zrx g q cs := by
 obtain ⟨b, h1, h2⟩ := h
 exact ⟨b, h1, h2.mono hf⟩
end
end Go.Ev
namespace Go.Ev
open Go
end Go.Ev
