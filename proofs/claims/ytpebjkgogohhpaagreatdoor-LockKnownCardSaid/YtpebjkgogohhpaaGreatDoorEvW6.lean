/- Where a piece of code lies in a program. -/
import Derived.Test.YtpebjkgogohhpaaGreatDoorEvW5
namespace Go.Ev
open Go.RowKit

noncomputable def childC (c : Code) (i : Nat) : Code := match c with
  | .seq a b => match i with | 0 => a | _ => b
  | .cond _ a b => match i with | 0 => a | _ => b
  | .block _ a => a
  | .loop a => a
  | .scope a => a
  | .rangeFunc _ _ a b => match i with | 0 => a | _ => b
  | c => c
noncomputable def pathC (c : Code) (p : List Nat) : Code := List.rec (fun c => c) (fun i _ ih c => ih (childC c i)) p c
noncomputable def bodyC (P : Program) (f : Nat) : Code := match P.funcs[f]? with
  | some F => match F.body with
    | some c => c
    | none => .skip
  | none => .skip
noncomputable def atC (P : Program) (f : Nat) (p : List Nat) : Code := pathC (bodyC P f) p
noncomputable def opsC (c : Code) : Array Oper := match c with
  | .region _ ops _ => ops
  | _ => #[]
noncomputable def dropC (l : List Oper) (i : Nat) : List Oper := Nat.rec (fun l => l) (fun _ ih l => List.rec [] (fun _ r _ => ih r) l) i l
/-- The operations of a region, and those from i on. -/
noncomputable def itemC (P : Program) (f : Nat) (p : List Nat) (i : Nat) : SItem := .ops (opsC (atC P f p)) (dropC (opsC (atC P f p)).toList i)
noncomputable def codeC (P : Program) (f : Nat) (p : List Nat) : SItem := .code (atC P f p)
noncomputable def loopC (P : Program) (f : Nat) (p : List Nat) : SItem := .inLoop (atC P f p)
noncomputable def scopeC (P : Program) (f : Nat) (p : List Nat) : SItem := .inScope (atC P f p)

end Go.Ev
