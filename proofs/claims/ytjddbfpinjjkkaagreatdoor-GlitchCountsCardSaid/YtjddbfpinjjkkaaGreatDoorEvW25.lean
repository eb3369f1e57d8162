/- A part of the small machine. -/
import Derived.Test.YtjddbfpinjjkkaaGreatDoorEvV26
set_option linter.unusedVariables false
namespace Go.Ev
open Go.RowKit
variable {P : Program}
inductive SItem where
 | code (c : Code)
 | inBlock (id : Nat)
 | inLoop (c : Code)
 | inScope (c : Code)
 | ops (all : Array Oper) (rem : List Oper)
 | beginRound
 | inRange (l : Pos)
 | endRange (l : Pos)
 | late (all : Array Oper) (i : Nat)
structure SCx where
 fn : FuncId
 ds : List Pos
 rd : Option Pos
inductive z81 where
 | mk (cx : SCx) (n : Nat) (tmps : Tree SV) (todo : List SItem)
inductive Res where
 | bad
 | go (f : z81) (cs : List z81) (M : Mem)
 | done (v : SV) (M : Mem)
noncomputable def zby (id : Nat) (k : List SItem) : Option (List SItem) :=
 List.rec none (fun x k ih => SItem.rec (fun _ => ih) (fun i => Bool.rec ih (some k) (Nat.beq i id)) (fun _ => ih) (fun _ => ih) (fun _ _ => ih) ih (fun _ => ih) (fun _ => ih) (fun _ _ => ih) x) k
noncomputable def zj1 (M : Mem) (P : Program) (σ : Tree SV) : List ResultVar → Option (List SV)
 | [] => some []
 | .tmp t :: l => match σ.get (Pos.ofNat t) with
  | none => none
  | some s => match zj1 M P σ l with
   | none => none
   | some r => some (s :: r)
 | .cell a t :: l => match σ.get (Pos.ofNat a) with
  | none => none
  | some s => match zel P t s M with
   | .val s _ => match zj1 M P σ l with
    | none => none
    | some r => some (s :: r)
   | _ => none
noncomputable def zih (l : List SV) : SV := match l with
 | [s] => s
 | l => .tuple l
noncomputable def zdn (all : Array Oper) (i : Nat) : Option Oper :=
 match all[i]? with
 | none => none
 | some o => match (List.range all.size).all fun j => Nat.ble j i || zhw (z94 all.toList) i j with
  | true => some o
  | false => none
theorem zft {all : Array Oper} {i : Nat} {o : Oper} (h : zdn all i = some o) : all[i]? = some o ∧ ∀ j, i < j → j < all.size → Before all i j := by
 unfold zdn at h
 split at h
 ·simp at h
 ·rename_i o' ho
  split at h
  ·rename_i hb
   simp only [Option.some.injEq] at h
   subst h
   refine ⟨ho, fun j hj hs => ?_⟩
   rw [List.all_eq_true] at hb
   have := hb j (List.mem_range.2 hs)
   rw [Bool.or_eq_true] at this
   rcases this with e | e
   ·have := Nat.le_of_ble_eq_true e; omega
   ·exact z8o hs e
  ·simp at h
noncomputable def ze5 (v : SV) (cs : List z81) (M : Mem) : Res :=
 match cs with
 | .mk cx n σ (.ops all (o :: r) :: k) :: cs => match zam σ n o.dst v with
  | some σ => .go (.mk cx n σ (.ops all r :: k)) cs M
  | none => .bad
 | .mk cx n σ (.inRange l :: k) :: cs => .go (.mk cx n σ (.endRange l :: k)) cs M
 | .mk cx n σ (.late all i :: k) :: cs => match zdn all i with
  | some o => match zam σ n o.dst v with
   | some σ => .go (.mk cx n σ (.late all (Nat.succ i) :: k)) cs M
   | none => .bad
  | none => .bad
 | _ => .bad
noncomputable def zfn (v : SV) (cs : List z81) (M : Mem) : Res :=
 match cs with
 | [] => .done v M
 | c :: cs => ze5 v (c :: cs) M
noncomputable def zcj : List Pos → Mem → Option Mem
 | [], M => some M
 | b :: ds, M => match M.t.get b with
  | some .defd => match above M b with
   | true => zcj ds (setT M b none)
   | false => none
  | _ => none
noncomputable def loopOwn (M : Mem) (l : Pos) : Option LoopS := match above M l with
 | true => loopOf M l
 | false => none
noncomputable def roundEnd (l : Pos) (jump : Option Code) (cs : List z81) (M : Mem) : Res :=
 match loopOwn M l with
 | none => .bad
 | some L => ze5 (.bool jump.isNone) cs (setT M l (some (.loop { L with st := if jump.isNone then .ready else .done, pend := jump })))
noncomputable def zq3 (P : Program) (cx : SCx) (jump : Option Code) (σ : Tree SV) (cs : List z81) (M : Mem) : Res :=
 match cx.rd with
 | some l => roundEnd l jump cs M
 | none => match P.funcs[cx.fn]? with
  | none => .bad
  | some F => match zcj cx.ds M with
   | none => .bad
   | some M => match zj1 M P σ F.results.toList with
    | none => .bad
    | some l => zfn (zih l) cs M
noncomputable def zga (i : Nat) (σ : Tree SV) : List SV → Tree SV
 | [] => σ
 | s :: l => zga (Nat.succ i) (σ.put (some s) (Pos.ofNat i)) l
noncomputable def enterS (P : Program) (f : FuncId) (as : List SV) : Option z81 :=
 match P.funcs[f]? with
 | none => none
 | some F => match F.body, Nat.ble (len as) F.ntmps with
  | some c, true => some (.mk ⟨f, [], none⟩ F.ntmps (zga 0 .leaf as) [.code c])
  | _, _ => none
noncomputable def zjw (n : Nat) : List Tmp → List SV → Tree SV → Option (Tree SV)
 | t :: ts, s :: l, σ => match Nat.ble (Nat.succ t) n with
  | true => zjw n ts l (σ.put (some s) (Pos.ofNat t))
  | false => none
 | [], [], σ => some σ
 | _, _, _ => none
noncomputable def zhh (l : Pos) (as : List SV) (c : z81) (cs : List z81) (M : Mem) : Res :=
 match loopOf M l with
 | none => .bad
 | some L => match zjw L.n L.ps as L.tmps with
  | none => .bad
  | some σ => .go (.mk ⟨L.fn, [], some l⟩ L.n σ [.code L.assign, .beginRound, .code L.body]) (c :: cs) M
noncomputable def zkz (I : Known) (P : Program) (cx : SCx) (n : Nat) (σ : Tree SV) (all : Array Oper) (o : Oper) (r : List Oper) (k : List SItem) (cs : List z81) (M : Mem) : Res :=
 match z8e all σ o with
 | none => .bad
 | some false => match zam σ n o.dst (.tuple []) with
  | some σ => .go (.mk cx n σ (.ops all r :: k)) cs M
  | none => .bad
 | some true => match exec P M σ o with
  | .bad => .bad
  | .val v M => match zam σ n o.dst v with
   | some σ => .go (.mk cx n σ (.ops all r :: k)) cs M
   | none => .bad
  | .enter f as M => match I f as M with
   | some (v, M) => match zam σ n o.dst v with
    | some σ => .go (.mk cx n σ (.ops all r :: k)) cs M
    | none => .bad
   | none => match enterS P f as with
    | some g => .go g (.mk cx n σ (.ops all (o :: r) :: k) :: cs) M
    | none => .bad
  | .round l as M => zhh l as (.mk cx n σ (.ops all (o :: r) :: k)) cs M
noncomputable def opG (I : Known) (P : Program) (cx : SCx) (n : Nat) (σ : Tree SV) (all : Array Oper) (o : Oper) (a b : SItem) (k : List SItem) (cs : List z81) (M : Mem) : Res :=
 match z8e all σ o with
 | none => .bad
 | some false => match zam σ n o.dst (.tuple []) with
  | some σ => .go (.mk cx n σ (b :: k)) cs M
  | none => .bad
 | some true => match exec P M σ o with
  | .bad => .bad
  | .val v M => match zam σ n o.dst v with
   | some σ => .go (.mk cx n σ (b :: k)) cs M
   | none => .bad
  | .enter f as M => match I f as M with
   | some (v, M) => match zam σ n o.dst v with
    | some σ => .go (.mk cx n σ (b :: k)) cs M
    | none => .bad
   | none => match enterS P f as with
    | some g => .go g (.mk cx n σ (a :: k) :: cs) M
    | none => .bad
  | .round l as M => zhh l as (.mk cx n σ (a :: k)) cs M
theorem zr3 (I : Known) (P : Program) (cx : SCx) (n : Nat) (σ : Tree SV) (all : Array Oper) (o : Oper) (r : List Oper) (k : List SItem) (cs : List z81) (M : Mem) : zkz I P cx n σ all o r k cs M = opG I P cx n σ all o (.ops all (o :: r)) (.ops all r) k cs M := rfl
noncomputable def zqs (cx : SCx) (n : Nat) (all : Array Oper) (r : List Oper) (k : List SItem) (cs : List z81) (M : Mem) (x : Option (Tree SV)) : Res :=
 Option.rec .bad (fun σ => .go (.mk cx n σ (.ops all r :: k)) cs M) x
noncomputable def zg5 (cx : SCx) (n : Nat) (σ : Tree SV) (all : Array Oper) (d : Option Tmp) (r : List Oper) (k : List SItem) (cs : List z81) (v : SV) (M : Mem) : Res :=
 zqs cx n all r k cs M (zam σ n d v)
noncomputable def zii (P : Program) (cx : SCx) (n : Nat) (σ : Tree SV) (all : Array Oper) (o : Oper) (r : List Oper) (k : List SItem) (cs : List z81) (f : FuncId) (as : List SV) (M : Mem) : Res :=
 Option.rec .bad (fun g => .go g (.mk cx n σ (.ops all (o :: r) :: k) :: cs) M) (enterS P f as)
noncomputable def zse (cx : SCx) (n : Nat) (σ : Tree SV) (all : Array Oper) (d : Option Tmp) (r : List Oper) (k : List SItem) (cs : List z81) (x : SV × Mem) : Res :=
 Prod.rec (fun v M => zg5 cx n σ all d r k cs v M) x
noncomputable def zec (I : Known) (P : Program) (cx : SCx) (n : Nat) (σ : Tree SV) (all : Array Oper) (o : Oper) (r : List Oper) (k : List SItem) (cs : List z81) (f : FuncId) (as : List SV) (M : Mem) : Res :=
 Option.rec (zii P cx n σ all o r k cs f as M) (zse cx n σ all o.dst r k cs) (I f as M)
noncomputable def zij (cx : SCx) (n : Nat) (σ : Tree SV) (all : Array Oper) (o : Oper) (r : List Oper) (k : List SItem) (cs : List z81) (l : Pos) (as : List SV) (M : Mem) : Res :=
 zhh l as (.mk cx n σ (.ops all (o :: r) :: k)) cs M
noncomputable def zr4 (I : Known) (P : Program) (cx : SCx) (n : Nat) (σ : Tree SV) (all : Array Oper) (o : Oper) (r : List Oper) (k : List SItem) (cs : List z81) (x : Out) : Res :=
 Out.rec .bad (zg5 cx n σ all o.dst r k cs) (zec I P cx n σ all o r k cs) (zij cx n σ all o r k cs) x
noncomputable def ztb (I : Known) (P : Program) (cx : SCx) (n : Nat) (σ : Tree SV) (all : Array Oper) (o : Oper) (r : List Oper) (k : List SItem) (cs : List z81) (M : Mem) (b : Bool) : Res :=
 Bool.rec (zg5 cx n σ all o.dst r k cs (.tuple []) M) (zr4 I P cx n σ all o r k cs (exec P M σ o)) b
noncomputable def opS (I : Known) (P : Program) (cx : SCx) (n : Nat) (σ : Tree SV) (all : Array Oper) (o : Oper) (r : List Oper) (k : List SItem) (cs : List z81) (M : Mem) : Res :=
 Option.rec .bad (ztb I P cx n σ all o r k cs M) (z8e all σ o)
theorem zg4 (I : Known) (P : Program) (cx : SCx) (n : Nat) (σ : Tree SV) (all : Array Oper) (o : Oper) (r : List Oper) (k : List SItem) (cs : List z81) (M : Mem) : opS I P cx n σ all o r k cs M = zkz I P cx n σ all o r k cs M := by
 have hv : ∀ v M, zg5 cx n σ all o.dst r k cs v M = match zam σ n o.dst v with
   | some σ => .go (.mk cx n σ (.ops all r :: k)) cs M
   | none => .bad := by
  intro v M
  unfold zg5 zqs
  cases zam σ n o.dst v <;> rfl
 unfold opS zkz
 cases z8e all σ o with
 | none => rfl
 | some b =>
  cases b with
  | false => exact hv _ _
  | true =>
   show zr4 I P cx n σ all o r k cs (exec P M σ o) = _
   simp only
   cases exec P M σ o with
   | bad => rfl
   | val v M' => exact hv _ _
   | enter f as M' =>
    show zec I P cx n σ all o r k cs f as M' = _
    unfold zec
    simp only
    cases I f as M' with
    | none =>
     show zii P cx n σ all o r k cs f as M' = _
     unfold zii
     simp only
     cases enterS P f as <;> rfl
    | some x => exact hv x.1 x.2
   | round l as M' => rfl
noncomputable def zgd (P : Program) (cx : SCx) (n : Nat) (σ : Tree SV) (g : Operand) (ps : Array Tmp) (assign body : Code) (k : List SItem) (cs : List z81) (M : Mem) : Res :=
 match arg M σ g with
 | some (.fn (.func gf) first captured) => match callable P gf with
  | false => .bad
  | true => match cx.rd with
   | none => match enterS P gf (app (app first [.yield M.next.succ]) captured) with
    | none => .bad
    | some f => .go f (.mk ⟨cx.fn, M.next :: cx.ds, none⟩ n σ (.inRange M.next.succ :: k) :: cs)
     ⟨(M.t.put (some .defd) M.next).put (some (.loop ⟨.ready, none, cx.fn, n, σ, ps.toList, assign, body, M.next⟩)) M.next.succ, M.next.succ.succ, M.floor⟩
   | some l0 => match loopOf M l0 with
    | none => .bad
    | some L0 => match enterS P gf (app (app first [.yield M.next]) captured) with
     | none => .bad
     | some f => .go f (.mk cx n σ (.inRange M.next :: k) :: cs)
      ⟨M.t.put (some (.loop ⟨.ready, none, cx.fn, n, σ, ps.toList, assign, body, L0.df⟩)) M.next, M.next.succ, M.floor⟩
 | _ => .bad
noncomputable def zs3 (cx : SCx) (n : Nat) (σ : Tree SV) (l : Pos) (k : List SItem) (cs : List z81) (M : Mem) : Res :=
 match loopOwn M l with
 | none => .bad
 | some L => match L.st with
  | .busy => .bad
  | _ => .go (.mk cx n σ (match L.pend with | none => k | some c => .code c :: k)) cs (setT M l (some (.loop { L with st := .exhausted })))
noncomputable def zfc (cx : SCx) (n : Nat) (σ : Tree SV) (k : List SItem) (cs : List z81) (M : Mem) : Res :=
 match cx.rd with
 | none => .bad
 | some l => match loopOwn M l with
  | none => .bad
  | some L => match L.st with
   | .ready => .go (.mk cx n σ k) cs (setT M l (some (.loop { L with st := .busy })))
   | _ => .bad
def zto (ops : Array Oper) (ms : List Nat) (i : Nat) : Bool := match ops[i]? with
 | none => true
 | some o => (List.range ops.size).any fun r => !Nat.beq r i && zhw ms r i && (match ops[r]? with
  | none => false
  | some p => zbq (z8d ops p) o.dst)
def zro (ops : Array Oper) (E : List Nat) (i : Nat) : Bool := match ops[i]? with
 | none => false
 | some o => !zlw E i && (z9u o).all (zlw E)
noncomputable def zjp (P : Program) (ops : Array Oper) (ms : List Nat) : Nat → Bool → List Nat → List Nat → List PE
 | 0, _, _, _ => []
 | f + 1, late, E, Q =>
  match (List.range ops.size).find? (fun i => zro ops E i && (match ops[i]? with | none => false | some o => z9r P o.op) && (late || !zto ops ms i)) with
  | some i => .fl i :: zjp P ops ms f late (i :: E) (i :: Q)
  | none => match (List.range ops.size).filter (zro ops E) with
   | [i] => .an i (Q.filter fun q => !zhw ms q i) :: zjp P ops ms f late (i :: E) (Q.filter fun q => !zhw ms q i)
   | _ => match late with
    | true => []
    | false => .sync :: zjp P ops ms f true E []
noncomputable def planOf (P : Program) (ops : Array Oper) : Option (List PE) :=
 match z9s ops && zav P ops (z94 ops.toList) (zjp P ops (z94 ops.toList) (2 * ops.size + 2) false [] []) [] [] with
 | true => some (zjp P ops (z94 ops.toList) (2 * ops.size + 2) false [] [])
 | false => none
def zgm (ops : Array Oper) (ms : List Nat) (late : Bool) : Nat → Nat
 | 0 => 0
 | i + 1 => match (List.range i).all (fun k => zhw ms k i || (late && zbc ops k)) with
  | true => zgm ops ms late i
  | false => i + 1
def zpn (ops : Array Oper) (ms : List Nat) (N : Nat) : Bool := Nat.ble N ops.size && (List.range ops.size).all fun i => Nat.blt i N || (List.range i).all fun k => zhw ms k i || (Nat.blt k N && zbc ops k)
def zth (ops : Array Oper) (ms : List Nat) : Nat := match zpn ops ms (zgm ops ms true ops.size) with
 | true => zgm ops ms true ops.size
 | false => zgm ops ms false ops.size
noncomputable def zsi (ops : Array Oper) : Option Nat :=
 match z9s ops && zhf ops (z94 ops.toList) && zpn ops (z94 ops.toList) (zth ops (z94 ops.toList)) with
 | true => some (zth ops (z94 ops.toList))
 | false => none
theorem zr5 {ops : Array Oper} {N : Nat} (h : zsi ops = some N) : z9s ops = true ∧ PureOK ops ∧ N ≤ ops.size ∧ ∀ i, N ≤ i → i < ops.size → ∀ k, k < i → Before ops k i ∨ (k < N ∧ zbc ops k = true) := by
 unfold zsi at h
 split at h
 ·rename_i hb
  simp only [Option.some.injEq] at h
  rw [h] at hb
  rw [Bool.and_eq_true, Bool.and_eq_true] at hb
  obtain ⟨⟨h1, h2⟩, h3⟩ := hb
  unfold zpn at h3
  rw [Bool.and_eq_true, List.all_eq_true] at h3
  refine ⟨h1, zdq h2, Nat.le_of_ble_eq_true h3.1, fun i hi hi' k hk => ?_⟩
  have := h3.2 i (List.mem_range.2 hi')
  rw [Bool.or_eq_true, List.all_eq_true] at this
  rcases this with e | e
  ·have := Nat.lt_of_succ_le (Nat.le_of_ble_eq_true e)
   omega
  ·have := e k (List.mem_range.2 hk)
   rw [Bool.or_eq_true, Bool.and_eq_true] at this
   rcases this with e | e
   ·exact .inl (z8o hi' e)
   ·exact .inr ⟨Nat.lt_of_succ_le (Nat.le_of_ble_eq_true e.1), e.2⟩
 ·simp at h
theorem zjs {ops : Array Oper} {plan : List PE} (h : planOf P ops = some plan) : z9s ops = true ∧ zav P ops (z94 ops.toList) plan [] [] = true := by
 unfold planOf at h
 split at h
 ·rename_i hb
  simp only [Option.some.injEq] at h
  subst h
  simpa using hb
 ·simp at h
noncomputable def ztf (ops : Array Oper) : Option Nat :=
 match z9s ops && zhf ops (z94 ops.toList) && (Nat.ble (zgm ops (z94 ops.toList) false ops.size) ops.size && (List.range ops.size).all fun i => Nat.blt i (zgm ops (z94 ops.toList) false ops.size) || (List.range i).all fun k => zhw (z94 ops.toList) k i) with
 | true => some (zgm ops (z94 ops.toList) false ops.size)
 | false => none
theorem zph {ops : Array Oper} {N : Nat} (h : ztf ops = some N) : z9s ops = true ∧ PureOK ops ∧ N ≤ ops.size ∧ ∀ i, N ≤ i → i < ops.size → ∀ k, k < i → Before ops k i := by
 unfold ztf at h
 split at h
 ·rename_i hb
  simp only [Option.some.injEq] at h
  rw [h] at hb
  rw [Bool.and_eq_true, Bool.and_eq_true, Bool.and_eq_true, List.all_eq_true] at hb
  obtain ⟨⟨h1, h2⟩, h3, h4⟩ := hb
  refine ⟨h1, zdq h2, Nat.le_of_ble_eq_true h3, fun i hi hi' k hk => ?_⟩
  have := h4 i (List.mem_range.2 hi')
  rw [Bool.or_eq_true, List.all_eq_true] at this
  rcases this with e | e
  ·have := Nat.lt_of_succ_le (Nat.le_of_ble_eq_true e)
   omega
  ·exact z8o hi' (e k (List.mem_range.2 hk))
 ·simp at h
noncomputable def zj6 (D : Known) (P : Program) (cx : SCx) (n : Nat) (σ : Tree SV) (k : List SItem) (cs : List z81) (M : Mem) (ops : Array Oper) : Res :=
 match ztf ops with
  | some N => match zbd D P n ops (ops.toList.take N) σ M with
   | some (σ, M1) => .go (.mk cx n σ (.ops ops (ops.toList.drop N) :: k)) cs (unlift M.floor M1)
   | none => .bad
  | none => .bad
noncomputable def zc4 (D : Known) (P : Program) (cx : SCx) (n : Nat) (σ : Tree SV) (k : List SItem) (cs : List z81) (M : Mem) (ops : Array Oper) : Res :=
 match planOf P ops with
  | some plan => match zgw D P n ops plan σ M with
   | some (σ, M) => .go (.mk cx n σ k) cs M
   | none => zj6 D P cx n σ k cs M ops
  | none => match zsi ops with
   | some N => match zbd D P n ops (ops.toList.take N) σ M with
    | some (σ1, M1) => match zsw D P n ops (ops.toList.drop N) σ1 (unlift M.floor M1) with
     | some (σ, M) => .go (.mk cx n σ k) cs M
     | none => zj6 D P cx n σ k cs M ops
    | none => .bad
   | none => .bad
noncomputable def zhx (D : Known) (P : Program) (cx : SCx) (n : Nat) (σ : Tree SV) (c : Code) (k : List SItem) (cs : List z81) (M : Mem) : Res :=
 match c with
 | .skip => .go (.mk cx n σ k) cs M
 | .label _ => .go (.mk cx n σ k) cs M
 | .seq a b => .go (.mk cx n σ (.code a :: .code b :: k)) cs M
 | .cond x a b => match arg M σ x with
  | some (.bool true) => .go (.mk cx n σ (.code a :: k)) cs M
  | some (.bool false) => .go (.mk cx n σ (.code b :: k)) cs M
  | _ => .bad
 | .block id c => .go (.mk cx n σ (.code c :: .inBlock id :: k)) cs M
 | .loop c => .go (.mk cx n σ (.code c :: .inLoop c :: k)) cs M
 | .scope c => .go (.mk cx n σ (.code c :: .inScope c :: k)) cs M
 | .exit id => match zby id k with
  | some k => .go (.mk cx n σ k) cs M
  | none => match cx.rd with
   | none => .bad
   | some l => roundEnd l (some (.exit id)) cs M
 | .ret => zq3 P cx (some .ret) σ cs M
 | .rangeFunc g ps assign body => zgd P cx n σ g ps assign body k cs M
 | .region _ ops false => .go (.mk cx n σ (.ops ops ops.toList :: k)) cs M
 | .region _ ops true => zc4 D P cx n σ k cs M ops
 | _ => .bad
noncomputable def zu9 (D : Known) (P : Program) (cx : SCx) (n : Nat) (σ : Tree SV) (k : List SItem) (cs : List z81) (M : Mem) (_ : Nat) (ops : Array Oper) (d : Bool) : Res :=
 Bool.rec (.go (.mk cx n σ (.ops ops ops.toList :: k)) cs M) (zc4 D P cx n σ k cs M ops) d
noncomputable def zqa (cx : SCx) (n : Nat) (σ : Tree SV) (k : List SItem) (cs : List z81) (M : Mem) (x : Operand) (a b : Code) : Res :=
 match arg M σ x with
  | some (.bool true) => .go (.mk cx n σ (.code a :: k)) cs M
  | some (.bool false) => .go (.mk cx n σ (.code b :: k)) cs M
  | _ => .bad
noncomputable def zqb (cx : SCx) (n : Nat) (σ : Tree SV) (k : List SItem) (cs : List z81) (M : Mem) (id : Nat) : Res :=
 match zby id k with
  | some k => .go (.mk cx n σ k) cs M
  | none => match cx.rd with
   | none => .bad
   | some l => roundEnd l (some (.exit id)) cs M
noncomputable def cGo (cx : SCx) (n : Nat) (σ : Tree SV) (cs : List z81) (M : Mem) (k : List SItem) : Res := .go (.mk cx n σ k) cs M
noncomputable def zqc (D : Known) (P : Program) (cx : SCx) (n : Nat) (σ : Tree SV) (c : Code) (k : List SItem) (cs : List z81) (M : Mem) : Res :=
 Code.rec (motive := fun _ => Res) (cGo cx n σ cs M k) (zu9 D P cx n σ k cs M) (fun a b _ _ => cGo cx n σ cs M (.code a :: .code b :: k)) (fun x a b _ _ => zqa cx n σ k cs M x a b)
  (fun id c _ => cGo cx n σ cs M (.code c :: .inBlock id :: k)) (fun c _ => cGo cx n σ cs M (.code c :: .inLoop c :: k)) (fun g ps assign body _ _ => zgd P cx n σ g ps assign body k cs M)
  (zqb cx n σ k cs M) (fun c _ => cGo cx n σ cs M (.code c :: .inScope c :: k)) (fun _ => cGo cx n σ cs M k) (fun _ => .bad) (zq3 P cx (some .ret) σ cs M) (fun _ => .bad) c
theorem znu (D : Known) (P : Program) (cx : SCx) (n : Nat) (σ : Tree SV) (c : Code) (k : List SItem) (cs : List z81) (M : Mem) : zqc D P cx n σ c k cs M = zhx D P cx n σ c k cs M := by
 cases c with
 | region id ops d => cases d <;> rfl
 | _ => rfl
noncomputable def zub (I : Known) (P : Program) (cx : SCx) (n : Nat) (σ : Tree SV) (k : List SItem) (cs : List z81) (M : Mem) (all : Array Oper) (l : List Oper) : Res :=
 List.rec (cGo cx n σ cs M k) (fun o r _ => opS I P cx n σ all o r k cs M) l
noncomputable def zu1 (I D : Known) (P : Program) (cx : SCx) (n : Nat) (σ : Tree SV) (cs : List z81) (M : Mem) (it : SItem) (k : List SItem) : Res :=
 SItem.rec (motive := fun _ => Res) (fun c => zqc D P cx n σ c k cs M) (fun _ => cGo cx n σ cs M k) (fun c => cGo cx n σ cs M (.code c :: .inLoop c :: k)) (fun _ => cGo cx n σ cs M k) (zub I P cx n σ k cs M)
  (zfc cx n σ k cs M) (fun _ => .bad) (fun l => zs3 cx n σ l k cs M) (fun _ _ => .bad) it
noncomputable def zim (I D : Known) (P : Program) (f : z81) (cs : List z81) (M : Mem) : Res :=
 z81.rec (fun cx n σ todo => List.rec (zq3 P cx none σ cs M) (fun it k _ => zu1 I D P cx n σ cs M it k) todo) f
noncomputable def opK (I : Known) (P : Program) (cx : SCx) (n : Nat) (all : Array Oper) (k : List SItem) (cs : List z81) (o : Oper) (r : List Oper) (ih : Tree SV → Mem → Res) (σ : Tree SV) (M : Mem) : Res :=
 Option.rec .bad (fun b => Bool.rec (Option.rec .bad (fun σ => ih σ M) (zam σ n o.dst (.tuple []))) (Out.rec .bad (fun v M => Option.rec .bad (fun σ => ih σ M) (zam σ n o.dst v)) (zec I P cx n σ all o r k cs) (zij cx n σ all o r k cs) (exec P M σ o)) b) (z8e all σ o)
noncomputable def opL (I : Known) (P : Program) (cx : SCx) (n : Nat) (all : Array Oper) (k : List SItem) (cs : List z81) (l : List Oper) : Tree SV → Mem → Res :=
 List.rec (fun σ M => .go (.mk cx n σ k) cs M) (fun o r ih => opK I P cx n all k cs o r ih) l
theorem zr2 (I : Known) (P : Program) (cx : SCx) (n : Nat) (all : Array Oper) (k : List SItem) (cs : List z81) (o : Oper) (r : List Oper) (σ : Tree SV) (M : Mem) :
  (∃ σ' M', opS I P cx n σ all o r k cs M = .go (.mk cx n σ' (.ops all r :: k)) cs M' ∧ opL I P cx n all k cs (o :: r) σ M = opL I P cx n all k cs r σ' M') ∨ opL I P cx n all k cs (o :: r) σ M = opS I P cx n σ all o r k cs M := by
 have e : opL I P cx n all k cs (o :: r) σ M = opK I P cx n all k cs o r (opL I P cx n all k cs r) σ M := rfl
 rw [e]
 unfold opK opS
 cases z8e all σ o with
 | none => exact .inr rfl
 | some b =>
  cases b with
  | false =>
   show (∃ σ' M', zg5 cx n σ all o.dst r k cs (.tuple []) M = _ ∧ Option.rec (motive := fun _ => Res) .bad (fun σ => opL I P cx n all k cs r σ M) (zam σ n o.dst (.tuple [])) = _) ∨ Option.rec (motive := fun _ => Res) .bad (fun σ => opL I P cx n all k cs r σ M) (zam σ n o.dst (.tuple [])) = zg5 cx n σ all o.dst r k cs (.tuple []) M
   unfold zg5 zqs
   cases zam σ n o.dst (.tuple []) with
   | none => exact .inr rfl
   | some σ' => exact .inl ⟨σ', M, rfl, rfl⟩
  | true =>
   show (∃ σ' M', zr4 I P cx n σ all o r k cs (exec P M σ o) = _ ∧ Out.rec (motive := fun _ => Res) .bad (fun v M => Option.rec (motive := fun _ => Res) .bad (fun σ => opL I P cx n all k cs r σ M) (zam σ n o.dst v)) (zec I P cx n σ all o r k cs) (zij cx n σ all o r k cs) (exec P M σ o) = _) ∨
    Out.rec (motive := fun _ => Res) .bad (fun v M => Option.rec (motive := fun _ => Res) .bad (fun σ => opL I P cx n all k cs r σ M) (zam σ n o.dst v)) (zec I P cx n σ all o r k cs) (zij cx n σ all o r k cs) (exec P M σ o) = zr4 I P cx n σ all o r k cs (exec P M σ o)
   cases exec P M σ o with
   | bad => exact .inr rfl
   | val v M' =>
    show (∃ σ' M'', zg5 cx n σ all o.dst r k cs v M' = _ ∧ Option.rec (motive := fun _ => Res) .bad (fun σ => opL I P cx n all k cs r σ M') (zam σ n o.dst v) = _) ∨ Option.rec (motive := fun _ => Res) .bad (fun σ => opL I P cx n all k cs r σ M') (zam σ n o.dst v) = zg5 cx n σ all o.dst r k cs v M'
    unfold zg5 zqs
    cases zam σ n o.dst v with
    | none => exact .inr rfl
    | some σ' => exact .inl ⟨σ', M', rfl, rfl⟩
   | enter f as M' => exact .inr rfl
   | round l as M' => exact .inr rfl
noncomputable def zu0 (I D : Known) (P : Program) (cx : SCx) (n : Nat) (σ : Tree SV) (cs : List z81) (M : Mem) (it : SItem) (k : List SItem) : Res :=
 SItem.rec (motive := fun _ => Res) (fun c => zqc D P cx n σ c k cs M) (fun _ => cGo cx n σ cs M k) (fun c => cGo cx n σ cs M (.code c :: .inLoop c :: k)) (fun _ => cGo cx n σ cs M k) (fun all l => opL I P cx n all k cs l σ M)
  (zfc cx n σ k cs M) (fun _ => .bad) (fun l => zs3 cx n σ l k cs M) (fun _ _ => .bad) it
noncomputable def zu5 (I D : Known) (P : Program) (f : z81) (cs : List z81) (M : Mem) : Res :=
 z81.rec (fun cx n σ todo => List.rec (zq3 P cx none σ cs M) (fun it k _ => zu0 I D P cx n σ cs M it k) todo) f
def znp (m : Map) : Option Pos → Option Nat → Prop
 | none, none => True
 | some l, some r => ∃ p, m l = some p ∧ p.block = r
 | _, _ => False
structure zgv (m : Map) (s : SCx) (c : Cx) : Prop where
 fn : c.fn = s.fn
 ds : z8p (fun b (d : Deferred) => ∃ p, m b = some p ∧ d = { target := .collected p.block, args := #[] }) s.ds c.ds
 rd : znp m s.rd c.rd
theorem znp.ext {m m' : Map} (h : Ext m m') {a : Option Pos} {b : Option Nat} (hr : znp m a b) : znp m' a b := by
 cases a <;> cases b <;> simp only [znp] at hr ⊢
 obtain ⟨p, h1, h2⟩ := hr
 exact ⟨p, h _ _ h1, h2⟩
theorem zgv.ext {m m' : Map} (h : Ext m m') {s : SCx} {c : Cx} (hr : zgv m s c) : zgv m' s c :=
 ⟨hr.fn, z8p.mono (fun _ _ ⟨p, h1, h2⟩ => ⟨p, h _ _ h1, h2⟩) hr.ds, hr.rd.ext h⟩
def zak (m : Map) : SItem → Item → Prop
 | .code c, .code d => c = d
 | .inBlock i, .inBlock j => i = j
 | .inLoop c, .inLoop d => c = d
 | .inScope c, .inScope d => c = d
 | .ops all rem, .inRegion ops is => all = ops ∧ ∃ i, rem = all.toList.drop i ∧ is = (List.range all.size).drop i
 | .beginRound, .beginRound => True
 | .inRange l, .inRangeFunc r => ∃ p, m l = some p ∧ p.block = r
 | .endRange l, .endRangeFunc r => ∃ p, m l = some p ∧ p.block = r
 | .late all i, .inRegion ops is => all = ops ∧ PureOK all ∧ ∃ S, Topo all S is ∧ (∀ k, k ∈ S ↔ k < i) ∧ ∀ k ∈ S, ∀ l, Before all l k → l ∈ S
 | _, _ => False
theorem zak.ext {m m' : Map} (h : Ext m m') {s : SItem} {i : Item} (hr : zak m s i) : zak m' s i := by
 cases s <;> cases i <;> simp only [zak] at hr ⊢ <;> first | exact hr | (obtain ⟨p, h1, h2⟩ := hr; exact ⟨p, h _ _ h1, h2⟩)
def zaj (m : Map) : z81 → Frame → Prop
 | .mk cx n σ k, fr => ∃ c tm todo, fr = mkF c tm todo ∧ zgv m cx c ∧ za6 m σ tm ∧ tm.size = n ∧ z8p (zak m) k todo
theorem zaj.ext {m m' : Map} (h : Ext m m') {f : z81} {fr : Frame} (hr : zaj m f fr) : zaj m' f fr := by
 cases f with
 | mk cx n σ k =>
  obtain ⟨c, tm, todo, rfl, hc, ht, hn, hk⟩ := hr
  exact ⟨c, tm, todo, rfl, hc.ext h, ht.ext h, hn, z8p.mono (fun _ _ => zak.ext h) hk⟩
theorem z8p.length {α β : Type} {R : α → β → Prop} : ∀ {l : List α} {k : List β}, z8p R l k → l.length = k.length
 | _, _, .nil => rfl
 | _, _, .cons _ h => by simp [z8p.length h]
theorem zlr {m : Map} {id : Nat} : ∀ {k : List SItem} {t : List Item}, z8p (zak m) k t → match zby id k with
  | some k' => ∃ t', exitTo id t = some t' ∧ z8p (zak m) k' t'
  | none => exitTo id t = none
 | [], _, .nil => by
  show exitTo id [] = none
  simp [exitTo]
 | x :: k, _, .cons (b := y) (k := l) hx hk => by
  have ih := zlr (id := id) hk
  have eqv : zby id (x :: k) = SItem.rec (motive := fun _ => Option (List SItem)) (fun _ => zby id k) (fun i => Bool.rec (zby id k) (some k) (Nat.beq i id)) (fun _ => zby id k) (fun _ => zby id k) (fun _ _ => zby id k) (zby id k) (fun _ => zby id k) (fun _ => zby id k) (fun _ _ => zby id k) x := rfl
  cases x with
  | inBlock i =>
   cases y <;> simp only [zak] at hx
   subst hx
   have eqv' : zby id (.inBlock i :: k) = Bool.rec (motive := fun _ => Option (List SItem)) (zby id k) (some k) (Nat.beq i id) := rfl
   rw [eqv']
   cases hb : Nat.beq i id with
   | true =>
    have := Nat.eq_of_beq_eq_true hb
    subst this
    exact ⟨l, by simp [exitTo], hk⟩
   | false =>
    have hne : (i == id) = false := by
     rw [beq_eq_false_iff_ne]
     intro e; subst e; simp at hb
    show match zby id k with
     | some k' => ∃ t', exitTo id (.inBlock i :: l) = some t' ∧ z8p (zak m) k' t'
     | none => exitTo id (.inBlock i :: l) = none
    rw [show exitTo id (.inBlock i :: l) = exitTo id l by simp [exitTo, hne]]
    exact ih
  | _ =>
   cases y <;> simp only [zak] at hx
   all_goals
    show match zby id k with
     | some k' => ∃ t', exitTo id (_ :: l) = some t' ∧ z8p (zak m) k' t'
     | none => exitTo id (_ :: l) = none
    simp only [exitTo]
    exact ih
end Go.Ev
namespace Go.Ev
open Go.RowKit
variable {P : Program} {I D : Known}
section
variable {B : Nat} {m : Map} {M : Mem} {w : World}
theorem zen {r : Nat} (o : Obj) (h : B ≤ r) : Below B w (w.putObj r o) :=
 ⟨rfl, rfl, rfl, by simp, fun k hk => World.putObj_heap_other (by omega)⟩
theorem zap {l : Pos} {L : LoopS} (h : loopOwn M l = some L) : loopOf M l = some L ∧ M.floor ≤ l.num := by
 unfold loopOwn at h
 split at h
 ·rename_i ha; exact ⟨h, zcm ha⟩
 ·simp at h
theorem zib (hr : MRel B m M w) {l : Pos} {p : Pl} {L : LoopS} (hL : loopOwn M l = some L) (hp : m l = some p) {L' : LoopS} {R' : Loop} (hrel : zf8 m L' R') :
  z82 B m M w m ⟨M.t.put (some (.loop L')) l, M.next, M.floor⟩ (w.putObj p.block (.loop R')) :=
 z82.update hr l _ _ p (zfx (zap hL).1) rfl hp (fun k hk => World.putObj_heap_other hk) (zen _ (hr.low _ _ _ (zfx (zap hL).1) rfl hp)) rfl
  ⟨R', World.putObj_heap_same (hr.bound _ _ hp), hrel⟩ (zap hL).2
theorem z82.erase (hr : MRel B m M w) {w' : World} (b : Pos) (x : SObj) (p : Pl) (hx : M.t.get b = some x) (hown : x.own = true) (hp : m b = some p)
  (hold : ∀ k, k ≠ p.block → w'.heap[k]? = w.heap[k]?) (hb : Below B w w') (hfl : M.floor ≤ b.num) : z82 B m M w m ⟨M.t.put none b, M.next, M.floor⟩ w' := by
 have f : ∀ {c y}, Tree.get c (M.t.put none b) = some y → b ≠ c ∧ M.t.get c = some y := by
  intro c y h
  by_cases hb : b = c
  ·subst hb; simp only [Tree.get_put_same] at h; simp at h
  ·simp only [Tree.get_put_other _ _ hb] at h; exact ⟨hb, h⟩
 refine ⟨⟨?_, ?_, ?_, ?_, ?_, Nat.le_trans hr.base hb.size, ?_, hr.flo⟩, fun _ _ => rfl, ?_, Nat.le_refl _, hb, ?_, ?_, ?_, rfl, fun c y hy => (f hy).2, fun c q hc hq _ => absurd hq (by rw [(hr.fresh c hc).1]; simp)⟩
 ·intro c y q hy hq
  obtain ⟨h1, h2⟩ := f hy
  have hne : q.block ≠ p.block := fun he => h1 (hr.inj b c x y p q hx h2 (.inl hown) hp hq he.symm)
  rw [hold _ hne]
  exact hr.objs c y q h2 hq
 ·intro c c' y y' q q' hy hy' how hq hq' he
  exact hr.inj c c' y y' q q' (f hy).2 (f hy').2 how hq hq' he
 ·intro c hc
  have hc' : M.next.num ≤ c.num := hc
  refine ⟨(hr.fresh c hc').1, ?_⟩
  by_cases h : b = c
  ·subst h; exact Tree.get_put_same _ _ _
  ·simp only [Tree.get_put_other _ _ h]; exact (hr.fresh c hc').2
 ·intro c q hq
  have := hr.bound c q hq
  have := hb.size
  omega
 ·intro c y q hy hyo hq
  exact hr.low c y q (f hy).2 hyo hq
 ·intro c y hy
  exact hr.glob c y (f hy).2
 ·intro c hc hm
  have hne : b ≠ c := by intro h; subst h; rw [hp] at hm; exact absurd hm (by simp)
  simp only [Tree.get_put_other _ _ hne]
 ·intro k _ hk
  exact hold k fun e => hk ⟨b, x, p, hx, hown, hp, e.symm⟩
 ·rintro k _ ⟨c, y, q, hy, hyo, hq, rfl⟩
  exact ⟨c, y, q, (f hy).2, hyo, hq, rfl⟩
 ·intro c hc
  have hne : b ≠ c := by intro h; subst h; omega
  simp only [Tree.get_put_other _ _ hne]
theorem z82.lay (hr : MRel B m M w) (o : SObj) (x : Obj) (hown : o.own = true) (ho : ∀ m', Ext m m' → zaq m' ⟨w.heap.size, 0, 0⟩ o (some x)) :
  z82 B m M w (fun b => if b = M.next then some ⟨w.heap.size, 0, 0⟩ else m b) ⟨M.t.put (some o) M.next, M.next.succ, M.floor⟩ (w.alloc x) := by
 have hnew := World.alloc_heap_new w x
 refine z82.fresh hr M.t ⟨w.heap.size, 0, 0⟩ o (fun _ _ h => h) (fun _ _ _ => rfl) (fun _ _ => rfl) (fun b y q hy hq => ?_) (Below.alloc (Below.refl _ _) hr.base _) (by show _ < (w.heap.push x).size; simp) hr.base hown (fun m' hm' => by rw [hnew]; exact ho m' hm')
  (fun k hk _ => Below.heap_alloc _ _ _ hk) (fun h => absurd h (by simp))
 have hlt := hr.bound b q hq
 exact ⟨by show q.block ≠ w.heap.size; omega, Below.heap_alloc _ _ _ hlt⟩
theorem z82.laid (hr : MRel B m M w) (o : SObj) (x : Obj) (hown : o.own = true) (ho : ∀ m', Ext m m' → zaq m' ⟨w.heap.size, 0, 0⟩ o (some x)) :
  ∃ m', z82 B m M w m' ⟨M.t.put (some o) M.next, M.next.succ, M.floor⟩ (w.alloc x) ∧ m' M.next = some ⟨w.heap.size, 0, 0⟩ := ⟨_, z82.lay hr o x hown ho, by simp⟩
theorem zhl : ∀ {ds : List Pos} {M M' : Mem} {w : World} {cds : List Deferred}, MRel B m M w → zcj ds M = some M' →
  z8p (fun b (d : Deferred) => ∃ p, m b = some p ∧ d = { target := .collected p.block, args := #[] }) ds cds →
  ∀ (fr : Frame) (fs : List Frame), fr.mode = .returning → fr.defers = cds → ∃ w', Steps P (lone fr fs w) (lone { fr with defers := [] } fs w') ∧ z82 B m M w m M' w'
 | [], M, M', w, _, hr, h, .nil, fr, fs, hm, hd => by
  simp only [zcj, Option.some.injEq] at h
  subst h
  refine ⟨w, ?_, .refl hr⟩
  rw [show ({ fr with defers := [] } : Frame) = fr by cases fr; simp_all]
  exact .refl _ _
 | b :: ds, M, M', w, _, hr, h, .cons (b := d) (k := cds) ⟨p, hp, hdd⟩ hds, fr, fs, hm, hd => by
  simp only [zcj] at h
  split at h
  ·rename_i hb
   have hab : above M b = true := by
    cases hh : above M b with
    | true => rfl
    | false => rw [hh] at h; simp at h
   rw [hab] at h
   simp only at h
   have hobj : w.heap[p.block]? = some (.deferred (some [])) := hr.objs b _ p hb hp
   have htake := run_takeDeferred (P := P) hobj
   have hs := step_collected (P := P) (cs := fs) (by rw [hm]; simp) hd (by rw [hdd]) htake
   have hst : z82 B m M w m ⟨M.t.put none b, M.next, M.floor⟩ (w.putObj p.block (.deferred none)) :=
    z82.erase hr b _ p hb rfl hp (fun k hk => World.putObj_heap_other hk) (zen _ (hr.low _ _ _ hb rfl hp)) (zcm hab)
   obtain ⟨w', h1, h2⟩ := zhl hst.rel h hds { fr with defers := [] ++ cds } fs hm rfl
   exact ⟨w', .head hs h1, hst.trans h2⟩
  ·simp at h
theorem zjx {n : Nat} : ∀ {ts : List Tmp} {l : List SV} {vs : List Value} {σ σ' : Tree SV} {tm : Array Value}, zjw n ts l σ = some σ' → concs m l = some vs → za6 m σ tm → tm.size = n →
  za6 m σ' ((ts.zip vs).foldl (fun tmps (t, a) => tmps.setIfInBounds t a) tm) ∧ ((ts.zip vs).foldl (fun tmps (t, a) => tmps.setIfInBounds t a) tm).size = n
 | [], [], vs, σ, σ', tm, h, hv, ht, hn => by
  simp only [zjw, Option.some.injEq] at h
  subst h
  exact ⟨ht, hn⟩
 | t :: ts, s :: l, vs, σ, σ', tm, h, hv, ht, hn => by
  obtain ⟨v, r, h1, h2, rfl⟩ := z85 hv
  simp only [zjw] at h
  split at h
  ·rename_i hb
   have := Nat.le_of_ble_eq_true hb
   have q := zjx (tm := tm.setIfInBounds t v) h h2 (ht.put (by omega) h1) (by simpa using hn)
   exact q
  ·simp at h
 | [], _ :: _, vs, σ, σ', tm, h, hv, ht, hn => by simp [zjw] at h
 | _ :: _, [], vs, σ, σ', tm, h, hv, ht, hn => by simp [zjw] at h
end
end Go.Ev
