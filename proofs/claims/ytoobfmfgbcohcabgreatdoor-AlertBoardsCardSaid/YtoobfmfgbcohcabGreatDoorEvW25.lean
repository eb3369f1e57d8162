/- A part of the small machine. -/
import Derived.Test.YtoobfmfgbcohcabGreatDoorEvV26
set_option linter.unusedVariables false
/- The small machine. -/
namespace Go.Ev
open Go.RowKit
variable {P : Program}

inductive SItem where
 | code (c : Code)
 | inBlock (id : Nat)
 | inLoop (c : Code)
 | inScope (c : Code)
 | ops (all : Array Oper) (rem : List Oper)
 | beginRound
 | inRange (l : Pos)
 | endRange (l : Pos)

/-- Whose frame it is; the blocks for rounds' deferred calls that it has laid; the loop that it is a round of. -/
structure SCx where
 fn : FuncId
 ds : List Pos
 rd : Option Pos

inductive zi2 where
 | mk (cx : SCx) (n : Nat) (tmps : Tree SV) (todo : List SItem)

inductive Res where
 | bad
 | go (f : zi2) (cs : List zi2) (M : Mem)
 | done (v : SV) (M : Mem)

noncomputable def zm0 (id : Nat) (k : List SItem) : Option (List SItem) :=
 List.rec none (fun x k ih => SItem.rec (fun _ => ih) (fun i => Bool.rec ih (some k) (Nat.beq i id)) (fun _ => ih) (fun _ => ih) (fun _ _ => ih) ih (fun _ => ih) (fun _ => ih) x) k

noncomputable def zrt (M : Mem) (P : Program) (σ : Tree SV) : List ResultVar → Option (List SV)
 | [] => some []
 | .tmp t :: l => match σ.get (Pos.ofNat t) with
  | none => none
  | some s => match zrt M P σ l with
   | none => none
   | some r => some (s :: r)
 | .cell a t :: l => match σ.get (Pos.ofNat a) with
  | none => none
  | some s => match zmq P t s M with
   | .val s _ => match zrt M P σ l with
    | none => none
    | some r => some (s :: r)
   | _ => none

noncomputable def zst (l : List SV) : SV := match l with
 | [s] => s
 | l => .tuple l

/-- The frame that called goes on with v. -/
noncomputable def znv (v : SV) (cs : List zi2) (M : Mem) : Res :=
 match cs with
 | .mk cx n σ (.ops all (o :: r) :: k) :: cs => match zlp σ n o.dst v with
  | some σ => .go (.mk cx n σ (.ops all r :: k)) cs M
  | none => .bad
 | .mk cx n σ (.inRange l :: k) :: cs => .go (.mk cx n σ (.endRange l :: k)) cs M
 | _ => .bad
noncomputable def zou (v : SV) (cs : List zi2) (M : Mem) : Res :=
 match cs with
 | [] => .done v M
 | c :: cs => znv v (c :: cs) M

/-- The blocks for rounds' deferred calls are shut. -/
noncomputable def zoj : List Pos → Mem → Option Mem
 | [], M => some M
 | b :: ds, M => match M.t.get b with
  | some .defd => match above M b with
   | true => zoj ds (zzk M b none)
   | false => none
  | _ => none

noncomputable def znw (M : Mem) (l : Pos) : Option LoopS := match above M l with
 | true => zod M l
 | false => none

/-- A round ends. -/
noncomputable def znd (l : Pos) (jump : Option Code) (cs : List zi2) (M : Mem) : Res :=
 match znw M l with
 | none => .bad
 | some L => znv (.bool jump.isNone) cs (zzk M l (some (.loop { L with st := if jump.isNone then .ready else .done, pend := jump })))

noncomputable def zzq (P : Program) (cx : SCx) (jump : Option Code) (σ : Tree SV) (cs : List zi2) (M : Mem) : Res :=
 match cx.rd with
 | some l => znd l jump cs M
 | none => match P.funcs[cx.fn]? with
  | none => .bad
  | some F => match zoj cx.ds M with
   | none => .bad
   | some M => match zrt M P σ F.results.toList with
    | none => .bad
    | some l => zou (zst l) cs M

noncomputable def zpr (i : Nat) (σ : Tree SV) : List SV → Tree SV
 | [] => σ
 | s :: l => zpr (Nat.succ i) (σ.put (some s) (Pos.ofNat i)) l

noncomputable def enterS (P : Program) (f : FuncId) (as : List SV) : Option zi2 :=
 match P.funcs[f]? with
 | none => none
 | some F => match F.body, Nat.ble (len as) F.ntmps with
  | some c, true => some (.mk ⟨f, [], none⟩ F.ntmps (zpr 0 .leaf as) [.code c])
  | _, _ => none

noncomputable def ztw (n : Nat) : List Tmp → List SV → Tree SV → Option (Tree SV)
 | t :: ts, s :: l, σ => match Nat.ble (Nat.succ t) n with
  | true => ztw n ts l (σ.put (some s) (Pos.ofNat t))
  | false => none
 | [], [], σ => some σ
 | _, _, _ => none

/-- A round begins. -/
noncomputable def zum (l : Pos) (as : List SV) (c : zi2) (cs : List zi2) (M : Mem) : Res :=
 match zod M l with
 | none => .bad
 | some L => match ztw L.n L.ps as L.tmps with
  | none => .bad
  | some σ => .go (.mk ⟨L.fn, [], some l⟩ L.n σ [.code L.assign, .beginRound, .code L.body]) (c :: cs) M

noncomputable def zvj (I : Known) (P : Program) (cx : SCx) (n : Nat) (σ : Tree SV) (all : Array Oper) (o : Oper) (r : List Oper) (k : List SItem) (cs : List zi2) (M : Mem) : Res :=
 match zil all σ o with
 | none => .bad
 | some false => match zlp σ n o.dst (.tuple []) with
  | some σ => .go (.mk cx n σ (.ops all r :: k)) cs M
  | none => .bad
 | some true => match exec P M σ o with
  | .bad => .bad
  | .val v M => match zlp σ n o.dst v with
   | some σ => .go (.mk cx n σ (.ops all r :: k)) cs M
   | none => .bad
  | .enter f as M => match I f as M with
   | some (v, M) => match zlp σ n o.dst v with
    | some σ => .go (.mk cx n σ (.ops all r :: k)) cs M
    | none => .bad
   | none => match enterS P f as with
    | some g => .go g (.mk cx n σ (.ops all (o :: r) :: k) :: cs) M
    | none => .bad
  | .round l as M => zum l as (.mk cx n σ (.ops all (o :: r) :: k)) cs M

noncomputable def zyy (cx : SCx) (n : Nat) (all : Array Oper) (r : List Oper) (k : List SItem) (cs : List zi2) (M : Mem) (x : Option (Tree SV)) : Res :=
 Option.rec .bad (fun σ => .go (.mk cx n σ (.ops all r :: k)) cs M) x
noncomputable def zoz (cx : SCx) (n : Nat) (σ : Tree SV) (all : Array Oper) (d : Option Tmp) (r : List Oper) (k : List SItem) (cs : List zi2) (v : SV) (M : Mem) : Res :=
 zyy cx n all r k cs M (zlp σ n d v)
noncomputable def zrb (P : Program) (cx : SCx) (n : Nat) (σ : Tree SV) (all : Array Oper) (o : Oper) (r : List Oper) (k : List SItem) (cs : List zi2) (f : FuncId) (as : List SV) (M : Mem) : Res :=
 Option.rec .bad (fun g => .go g (.mk cx n σ (.ops all (o :: r) :: k) :: cs) M) (enterS P f as)
noncomputable def y0d (cx : SCx) (n : Nat) (σ : Tree SV) (all : Array Oper) (d : Option Tmp) (r : List Oper) (k : List SItem) (cs : List zi2) (x : SV × Mem) : Res :=
 Prod.rec (fun v M => zoz cx n σ all d r k cs v M) x
noncomputable def znh (I : Known) (P : Program) (cx : SCx) (n : Nat) (σ : Tree SV) (all : Array Oper) (o : Oper) (r : List Oper) (k : List SItem) (cs : List zi2) (f : FuncId) (as : List SV) (M : Mem) : Res :=
 Option.rec (zrb P cx n σ all o r k cs f as M) (y0d cx n σ all o.dst r k cs) (I f as M)
noncomputable def zrz (cx : SCx) (n : Nat) (σ : Tree SV) (all : Array Oper) (o : Oper) (r : List Oper) (k : List SItem) (cs : List zi2) (l : Pos) (as : List SV) (M : Mem) : Res :=
 zum l as (.mk cx n σ (.ops all (o :: r) :: k)) cs M
noncomputable def zz7 (I : Known) (P : Program) (cx : SCx) (n : Nat) (σ : Tree SV) (all : Array Oper) (o : Oper) (r : List Oper) (k : List SItem) (cs : List zi2) (x : Out) : Res :=
 Out.rec .bad (zoz cx n σ all o.dst r k cs) (znh I P cx n σ all o r k cs) (zrz cx n σ all o r k cs) x
noncomputable def y0q (I : Known) (P : Program) (cx : SCx) (n : Nat) (σ : Tree SV) (all : Array Oper) (o : Oper) (r : List Oper) (k : List SItem) (cs : List zi2) (M : Mem) (b : Bool) : Res :=
 Bool.rec (zoz cx n σ all o.dst r k cs (.tuple []) M) (zz7 I P cx n σ all o r k cs (exec P M σ o)) b
noncomputable def opS (I : Known) (P : Program) (cx : SCx) (n : Nat) (σ : Tree SV) (all : Array Oper) (o : Oper) (r : List Oper) (k : List SItem) (cs : List zi2) (M : Mem) : Res :=
 Option.rec .bad (y0q I P cx n σ all o r k cs M) (zil all σ o)

theorem zrn (I : Known) (P : Program) (cx : SCx) (n : Nat) (σ : Tree SV) (all : Array Oper) (o : Oper) (r : List Oper) (k : List SItem) (cs : List zi2) (M : Mem) : opS I P cx n σ all o r k cs M = zvj I P cx n σ all o r k cs M := by
 have hv : ∀ v M, zoz cx n σ all o.dst r k cs v M = match zlp σ n o.dst v with
   | some σ => .go (.mk cx n σ (.ops all r :: k)) cs M
   | none => .bad := by
  intro v M
  unfold zoz zyy
  cases zlp σ n o.dst v <;> rfl
 unfold opS zvj
 cases zil all σ o with
 | none => rfl
 | some b =>
  cases b with
  | false => exact hv _ _
  | true =>
   show zz7 I P cx n σ all o r k cs (exec P M σ o) = _
   simp only
   cases exec P M σ o with
   | bad => rfl
   | val v M' => exact hv _ _
   | enter f as M' =>
    show znh I P cx n σ all o r k cs f as M' = _
    unfold znh
    simp only
    cases I f as M' with
    | none =>
     show zrb P cx n σ all o r k cs f as M' = _
     unfold zrb
     simp only
     cases enterS P f as <;> rfl
    | some x => exact hv x.1 x.2
   | round l as M' => rfl

/-- A loop over a function begins. -/
noncomputable def zv2 (P : Program) (cx : SCx) (n : Nat) (σ : Tree SV) (g : Operand) (ps : Array Tmp) (assign body : Code) (k : List SItem) (cs : List zi2) (M : Mem) : Res :=
 match arg M σ g with
 | some (.fn (.func gf) first captured) => match callable P gf with
  | false => .bad
  | true => match cx.rd with
   | none => match enterS P gf (app (app first [.yield M.next.succ]) captured) with
    | none => .bad
    | some f => .go f (.mk ⟨cx.fn, M.next :: cx.ds, none⟩ n σ (.inRange M.next.succ :: k) :: cs)
     ⟨(M.t.put (some .defd) M.next).put (some (.loop ⟨.ready, none, cx.fn, n, σ, ps.toList, assign, body, M.next⟩)) M.next.succ, M.next.succ.succ, M.floor⟩
   | some l0 => match zod M l0 with
    | none => .bad
    | some L0 => match enterS P gf (app (app first [.yield M.next]) captured) with
     | none => .bad
     | some f => .go f (.mk cx n σ (.inRange M.next :: k) :: cs)
      ⟨M.t.put (some (.loop ⟨.ready, none, cx.fn, n, σ, ps.toList, assign, body, L0.df⟩)) M.next, M.next.succ, M.floor⟩
 | _ => .bad

/-- The function that was ranged over has returned. -/
noncomputable def y19 (cx : SCx) (n : Nat) (σ : Tree SV) (l : Pos) (k : List SItem) (cs : List zi2) (M : Mem) : Res :=
 match znw M l with
 | none => .bad
 | some L => match L.st with
  | .busy => .bad
  | _ => .go (.mk cx n σ (match L.pend with | none => k | some c => .code c :: k)) cs (zzk M l (some (.loop { L with st := .exhausted })))

noncomputable def zv0 (cx : SCx) (n : Nat) (σ : Tree SV) (k : List SItem) (cs : List zi2) (M : Mem) : Res :=
 match cx.rd with
 | none => .bad
 | some l => match znw M l with
  | none => .bad
  | some L => match L.st with
   | .ready => .go (.mk cx n σ k) cs (zzk M l (some (.loop { L with st := .busy })))
   | _ => .bad

/-- A plan of a region that draws. -/
def y1i (ops : Array Oper) (ms : List Nat) (i : Nat) : Bool := match ops[i]? with
 | none => true
 | some o => (List.range ops.size).any fun r => !Nat.beq r i && befB ms r i && (match ops[r]? with
  | none => false
  | some p => zlg (zi9 ops p) o.dst)
def zzf (ops : Array Oper) (E : List Nat) (i : Nat) : Bool := match ops[i]? with
 | none => false
 | some o => !zw4 E i && (zjc o).all (zw4 E)
noncomputable def zsv (P : Program) (ops : Array Oper) (ms : List Nat) : Nat → Bool → List Nat → List Nat → List PE
 | 0, _, _, _ => []
 | f + 1, late, E, Q =>
  match (List.range ops.size).find? (fun i => zzf ops E i && (match ops[i]? with | none => false | some o => zla P o.op) && (late || !y1i ops ms i)) with
  | some i => .fl i :: zsv P ops ms f late (i :: E) (i :: Q)
  | none => match (List.range ops.size).filter (zzf ops E) with
   | [i] => .an i (Q.filter fun q => !befB ms q i) :: zsv P ops ms f late (i :: E) (Q.filter fun q => !befB ms q i)
   | _ => match late with
    | true => []
    | false => .sync :: zsv P ops ms f true E []
noncomputable def planOf (P : Program) (ops : Array Oper) : Option (List PE) :=
 match zkb ops && zk9 P ops (zjo ops.toList) (zsv P ops (zjo ops.toList) (2 * ops.size + 2) false [] []) [] [] with
 | true => some (zsv P ops (zjo ops.toList) (2 * ops.size + 2) false [] [])
 | false => none

def zta (ops : Array Oper) (ms : List Nat) (late : Bool) : Nat → Nat
 | 0 => 0
 | i + 1 => match (List.range i).all (fun k => befB ms k i || (late && zna ops k)) with
  | true => zta ops ms late i
  | false => i + 1
def zx9 (ops : Array Oper) (ms : List Nat) (N : Nat) : Bool := Nat.ble N ops.size && (List.range ops.size).all fun i => Nat.blt i N || (List.range i).all fun k => befB ms k i || (Nat.blt k N && zna ops k)
def y0t (ops : Array Oper) (ms : List Nat) : Nat := match zx9 ops ms (zta ops ms true ops.size) with
 | true => zta ops ms true ops.size
 | false => zta ops ms false ops.size

/-- The number of the pure operations, if the region is such. -/
noncomputable def y08 (ops : Array Oper) : Option Nat :=
 match zkb ops && zuf ops (zjo ops.toList) && zx9 ops (zjo ops.toList) (y0t ops (zjo ops.toList)) with
 | true => some (y0t ops (zjo ops.toList))
 | false => none
theorem zza {ops : Array Oper} {N : Nat} (h : y08 ops = some N) : zkb ops = true ∧ PureOK ops ∧ N ≤ ops.size ∧ ∀ i, N ≤ i → i < ops.size → ∀ k, k < i → Before ops k i ∨ (k < N ∧ zna ops k = true) := by
 unfold y08 at h
 split at h
 ·rename_i hb
  simp only [Option.some.injEq] at h
  rw [h] at hb
  rw [Bool.and_eq_true, Bool.and_eq_true] at hb
  obtain ⟨⟨h1, h2⟩, h3⟩ := hb
  unfold zx9 at h3
  rw [Bool.and_eq_true, List.all_eq_true] at h3
  refine ⟨h1, zs5 h2, Nat.le_of_ble_eq_true h3.1, fun i hi hi' k hk => ?_⟩
  have := h3.2 i (List.mem_range.2 hi')
  rw [Bool.or_eq_true, List.all_eq_true] at this
  rcases this with e | e
  ·have := Nat.lt_of_succ_le (Nat.le_of_ble_eq_true e)
   omega
  ·have := e k (List.mem_range.2 hk)
   rw [Bool.or_eq_true, Bool.and_eq_true] at this
   rcases this with e | e
   ·exact .inl (zix hi' e)
   ·exact .inr ⟨Nat.lt_of_succ_le (Nat.le_of_ble_eq_true e.1), e.2⟩
 ·simp at h

theorem zsf {ops : Array Oper} {plan : List PE} (h : planOf P ops = some plan) : zkb ops = true ∧ zk9 P ops (zjo ops.toList) plan [] [] = true := by
 unfold planOf at h
 split at h
 ·rename_i hb
  simp only [Option.some.injEq] at h
  subst h
  simpa using hb
 ·simp at h

/-- The number of the first operations of a region that are pure, where the others follow in their order. -/
noncomputable def y1k (ops : Array Oper) : Option Nat :=
 match zkb ops && zuf ops (zjo ops.toList) && (Nat.ble (zta ops (zjo ops.toList) false ops.size) ops.size && (List.range ops.size).all fun i => Nat.blt i (zta ops (zjo ops.toList) false ops.size) || (List.range i).all fun k => befB (zjo ops.toList) k i) with
 | true => some (zta ops (zjo ops.toList) false ops.size)
 | false => none
theorem y0g {ops : Array Oper} {N : Nat} (h : y1k ops = some N) : zkb ops = true ∧ PureOK ops ∧ N ≤ ops.size ∧ ∀ i, N ≤ i → i < ops.size → ∀ k, k < i → Before ops k i := by
 unfold y1k at h
 split at h
 ·rename_i hb
  simp only [Option.some.injEq] at h
  rw [h] at hb
  rw [Bool.and_eq_true, Bool.and_eq_true, Bool.and_eq_true, List.all_eq_true] at hb
  obtain ⟨⟨h1, h2⟩, h3, h4⟩ := hb
  refine ⟨h1, zs5 h2, Nat.le_of_ble_eq_true h3, fun i hi hi' k hk => ?_⟩
  have := h4 i (List.mem_range.2 hi')
  rw [Bool.or_eq_true, List.all_eq_true] at this
  rcases this with e | e
  ·have := Nat.lt_of_succ_le (Nat.le_of_ble_eq_true e)
   omega
  ·exact zix hi' (e k (List.mem_range.2 hk))
 ·simp at h
noncomputable def zy9 (D : Known) (P : Program) (cx : SCx) (n : Nat) (σ : Tree SV) (k : List SItem) (cs : List zi2) (M : Mem) (ops : Array Oper) : Res :=
 match y1k ops with
  | some N => match zsb D P n ops (ops.toList.take N) σ M with
   | some (σ, M1) => .go (.mk cx n σ (.ops ops (ops.toList.drop N) :: k)) cs (znb M.floor M1)
   | none => .bad
  | none => .bad
noncomputable def zti (D : Known) (P : Program) (cx : SCx) (n : Nat) (σ : Tree SV) (k : List SItem) (cs : List zi2) (M : Mem) (ops : Array Oper) : Res :=
 match planOf P ops with
  | some plan => match zq1 D P n ops plan σ M with
   | some (σ, M) => .go (.mk cx n σ k) cs M
   | none => zy9 D P cx n σ k cs M ops
  | none => match y08 ops with
   | some N => match zsb D P n ops (ops.toList.take N) σ M with
    | some (σ1, M1) => match y0i D P n ops (ops.toList.drop N) σ1 (znb M.floor M1) with
     | some (σ, M) => .go (.mk cx n σ k) cs M
     | none => zy9 D P cx n σ k cs M ops
    | none => .bad
   | none => .bad

noncomputable def zr7 (D : Known) (P : Program) (cx : SCx) (n : Nat) (σ : Tree SV) (c : Code) (k : List SItem) (cs : List zi2) (M : Mem) : Res :=
 match c with
 | .skip => .go (.mk cx n σ k) cs M
 | .label _ => .go (.mk cx n σ k) cs M
 | .seq a b => .go (.mk cx n σ (.code a :: .code b :: k)) cs M
 | .cond x a b => match arg M σ x with
  | some (.bool true) => .go (.mk cx n σ (.code a :: k)) cs M
  | some (.bool false) => .go (.mk cx n σ (.code b :: k)) cs M
  | _ => .bad
 | .block id c => .go (.mk cx n σ (.code c :: .inBlock id :: k)) cs M
 | .loop c => .go (.mk cx n σ (.code c :: .inLoop c :: k)) cs M
 | .scope c => .go (.mk cx n σ (.code c :: .inScope c :: k)) cs M
 | .exit id => match zm0 id k with
  | some k => .go (.mk cx n σ k) cs M
  | none => match cx.rd with
   | none => .bad
   | some l => znd l (some (.exit id)) cs M
 | .ret => zzq P cx (some .ret) σ cs M
 | .rangeFunc g ps assign body => zv2 P cx n σ g ps assign body k cs M
 | .region _ ops false => .go (.mk cx n σ (.ops ops ops.toList :: k)) cs M
 | .region _ ops true => zti D P cx n σ k cs M ops
 | _ => .bad

noncomputable def y1p (D : Known) (P : Program) (cx : SCx) (n : Nat) (σ : Tree SV) (k : List SItem) (cs : List zi2) (M : Mem) (_ : Nat) (ops : Array Oper) (d : Bool) : Res :=
 Bool.rec (.go (.mk cx n σ (.ops ops ops.toList :: k)) cs M) (zti D P cx n σ k cs M ops) d
noncomputable def zzy (cx : SCx) (n : Nat) (σ : Tree SV) (k : List SItem) (cs : List zi2) (M : Mem) (x : Operand) (a b : Code) : Res :=
 match arg M σ x with
  | some (.bool true) => .go (.mk cx n σ (.code a :: k)) cs M
  | some (.bool false) => .go (.mk cx n σ (.code b :: k)) cs M
  | _ => .bad
noncomputable def y0c (cx : SCx) (n : Nat) (σ : Tree SV) (k : List SItem) (cs : List zi2) (M : Mem) (id : Nat) : Res :=
 match zm0 id k with
  | some k => .go (.mk cx n σ k) cs M
  | none => match cx.rd with
   | none => .bad
   | some l => znd l (some (.exit id)) cs M
noncomputable def cGo (cx : SCx) (n : Nat) (σ : Tree SV) (cs : List zi2) (M : Mem) (k : List SItem) : Res := .go (.mk cx n σ k) cs M
noncomputable def zyn (D : Known) (P : Program) (cx : SCx) (n : Nat) (σ : Tree SV) (c : Code) (k : List SItem) (cs : List zi2) (M : Mem) : Res :=
 Code.rec (motive := fun _ => Res) (cGo cx n σ cs M k) (y1p D P cx n σ k cs M) (fun a b _ _ => cGo cx n σ cs M (.code a :: .code b :: k)) (fun x a b _ _ => zzy cx n σ k cs M x a b)
  (fun id c _ => cGo cx n σ cs M (.code c :: .inBlock id :: k)) (fun c _ => cGo cx n σ cs M (.code c :: .inLoop c :: k)) (fun g ps assign body _ _ => zv2 P cx n σ g ps assign body k cs M)
  (y0c cx n σ k cs M) (fun c _ => cGo cx n σ cs M (.code c :: .inScope c :: k)) (fun _ => cGo cx n σ cs M k) (fun _ => .bad) (zzq P cx (some .ret) σ cs M) (fun _ => .bad) c
theorem zwj (D : Known) (P : Program) (cx : SCx) (n : Nat) (σ : Tree SV) (c : Code) (k : List SItem) (cs : List zi2) (M : Mem) : zyn D P cx n σ c k cs M = zr7 D P cx n σ c k cs M := by
 cases c with
 | region id ops d => cases d <;> rfl
 | _ => rfl

noncomputable def y1o (I : Known) (P : Program) (cx : SCx) (n : Nat) (σ : Tree SV) (k : List SItem) (cs : List zi2) (M : Mem) (all : Array Oper) (l : List Oper) : Res :=
 List.rec (cGo cx n σ cs M k) (fun o r _ => opS I P cx n σ all o r k cs M) l
noncomputable def y1l (I D : Known) (P : Program) (cx : SCx) (n : Nat) (σ : Tree SV) (cs : List zi2) (M : Mem) (it : SItem) (k : List SItem) : Res :=
 SItem.rec (motive := fun _ => Res) (fun c => zyn D P cx n σ c k cs M) (fun _ => cGo cx n σ cs M k) (fun c => cGo cx n σ cs M (.code c :: .inLoop c :: k)) (fun _ => cGo cx n σ cs M k) (y1o I P cx n σ k cs M)
  (zv0 cx n σ k cs M) (fun _ => .bad) (fun l => y19 cx n σ l k cs M) it
noncomputable def zrc (I D : Known) (P : Program) (f : zi2) (cs : List zi2) (M : Mem) : Res :=
 zi2.rec (fun cx n σ todo => List.rec (zzq P cx none σ cs M) (fun it k _ => y1l I D P cx n σ cs M it k) todo) f

/-- Operations one behind the other, as long as none of them calls. -/
noncomputable def opK (I : Known) (P : Program) (cx : SCx) (n : Nat) (all : Array Oper) (k : List SItem) (cs : List zi2) (o : Oper) (r : List Oper) (ih : Tree SV → Mem → Res) (σ : Tree SV) (M : Mem) : Res :=
 Option.rec .bad (fun b => Bool.rec (Option.rec .bad (fun σ => ih σ M) (zlp σ n o.dst (.tuple []))) (Out.rec .bad (fun v M => Option.rec .bad (fun σ => ih σ M) (zlp σ n o.dst v)) (znh I P cx n σ all o r k cs) (zrz cx n σ all o r k cs) (exec P M σ o)) b) (zil all σ o)
noncomputable def opL (I : Known) (P : Program) (cx : SCx) (n : Nat) (all : Array Oper) (k : List SItem) (cs : List zi2) (l : List Oper) : Tree SV → Mem → Res :=
 List.rec (fun σ M => .go (.mk cx n σ k) cs M) (fun o r ih => opK I P cx n all k cs o r ih) l

theorem zyt (I : Known) (P : Program) (cx : SCx) (n : Nat) (all : Array Oper) (k : List SItem) (cs : List zi2) (o : Oper) (r : List Oper) (σ : Tree SV) (M : Mem) :
  (∃ σ' M', opS I P cx n σ all o r k cs M = .go (.mk cx n σ' (.ops all r :: k)) cs M' ∧ opL I P cx n all k cs (o :: r) σ M = opL I P cx n all k cs r σ' M') ∨ opL I P cx n all k cs (o :: r) σ M = opS I P cx n σ all o r k cs M := by
 have e : opL I P cx n all k cs (o :: r) σ M = opK I P cx n all k cs o r (opL I P cx n all k cs r) σ M := rfl
 rw [e]
 unfold opK opS
 cases zil all σ o with
 | none => exact .inr rfl
 | some b =>
  cases b with
  | false =>
   show (∃ σ' M', zoz cx n σ all o.dst r k cs (.tuple []) M = _ ∧ Option.rec (motive := fun _ => Res) .bad (fun σ => opL I P cx n all k cs r σ M) (zlp σ n o.dst (.tuple [])) = _) ∨ Option.rec (motive := fun _ => Res) .bad (fun σ => opL I P cx n all k cs r σ M) (zlp σ n o.dst (.tuple [])) = zoz cx n σ all o.dst r k cs (.tuple []) M
   unfold zoz zyy
   cases zlp σ n o.dst (.tuple []) with
   | none => exact .inr rfl
   | some σ' => exact .inl ⟨σ', M, rfl, rfl⟩
  | true =>
   show (∃ σ' M', zz7 I P cx n σ all o r k cs (exec P M σ o) = _ ∧ Out.rec (motive := fun _ => Res) .bad (fun v M => Option.rec (motive := fun _ => Res) .bad (fun σ => opL I P cx n all k cs r σ M) (zlp σ n o.dst v)) (znh I P cx n σ all o r k cs) (zrz cx n σ all o r k cs) (exec P M σ o) = _) ∨
    Out.rec (motive := fun _ => Res) .bad (fun v M => Option.rec (motive := fun _ => Res) .bad (fun σ => opL I P cx n all k cs r σ M) (zlp σ n o.dst v)) (znh I P cx n σ all o r k cs) (zrz cx n σ all o r k cs) (exec P M σ o) = zz7 I P cx n σ all o r k cs (exec P M σ o)
   cases exec P M σ o with
   | bad => exact .inr rfl
   | val v M' =>
    show (∃ σ' M'', zoz cx n σ all o.dst r k cs v M' = _ ∧ Option.rec (motive := fun _ => Res) .bad (fun σ => opL I P cx n all k cs r σ M') (zlp σ n o.dst v) = _) ∨ Option.rec (motive := fun _ => Res) .bad (fun σ => opL I P cx n all k cs r σ M') (zlp σ n o.dst v) = zoz cx n σ all o.dst r k cs v M'
    unfold zoz zyy
    cases zlp σ n o.dst v with
    | none => exact .inr rfl
    | some σ' => exact .inl ⟨σ', M', rfl, rfl⟩
   | enter f as M' => exact .inr rfl
   | round l as M' => exact .inr rfl

noncomputable def y1c (I D : Known) (P : Program) (cx : SCx) (n : Nat) (σ : Tree SV) (cs : List zi2) (M : Mem) (it : SItem) (k : List SItem) : Res :=
 SItem.rec (motive := fun _ => Res) (fun c => zyn D P cx n σ c k cs M) (fun _ => cGo cx n σ cs M k) (fun c => cGo cx n σ cs M (.code c :: .inLoop c :: k)) (fun _ => cGo cx n σ cs M k) (fun all l => opL I P cx n all k cs l σ M)
  (zv0 cx n σ k cs M) (fun _ => .bad) (fun l => y19 cx n σ l k cs M) it
noncomputable def y11 (I D : Known) (P : Program) (f : zi2) (cs : List zi2) (M : Mem) : Res :=
 zi2.rec (fun cx n σ todo => List.rec (zzq P cx none σ cs M) (fun it k _ => y1c I D P cx n σ cs M it k) todo) f

/-- 2^k steps. -/
noncomputable def runS (I D : Known) (P : Program) (k : Nat) : zi2 → List zi2 → Mem → Res :=
 Nat.rec (fun f cs M => y11 I D P f cs M) (fun _ ih f cs M => Res.rec .bad (fun f cs M => ih f cs M) (fun v M => .done v M) (ih f cs M)) k

theorem zw7 (I D : Known) (k : Nat) (f : zi2) (cs : List zi2) (M : Mem) :
  runS I D P (k + 1) f cs M = match runS I D P k f cs M with | .bad => .bad | .go f cs M => runS I D P k f cs M | .done v M => .done v M := by
 show Res.rec (motive := fun _ => Res) .bad (fun f cs M => runS I D P k f cs M) (fun v M => .done v M) (runS I D P k f cs M) = _
 cases runS I D P k f cs M <;> rfl

/- WHAT STANDS FOR WHAT -/

def zwi (m : Map) : Option Pos → Option Nat → Prop
 | none, none => True
 | some l, some r => ∃ p, m l = some p ∧ p.block = r
 | _, _ => False

structure zrs (m : Map) (s : SCx) (c : Cx) : Prop where
 fn : c.fn = s.fn
 ds : zj3 (fun b (d : Deferred) => ∃ p, m b = some p ∧ d = { target := .collected p.block, args := #[] }) s.ds c.ds
 rd : zwi m s.rd c.rd

theorem zwi.ext {m m' : Map} (h : Ext m m') {a : Option Pos} {b : Option Nat} (hr : zwi m a b) : zwi m' a b := by
 cases a <;> cases b <;> simp only [zwi] at hr ⊢
 obtain ⟨p, h1, h2⟩ := hr
 exact ⟨p, h _ _ h1, h2⟩

theorem zrs.ext {m m' : Map} (h : Ext m m') {s : SCx} {c : Cx} (hr : zrs m s c) : zrs m' s c :=
 ⟨hr.fn, zj3.mono (fun _ _ ⟨p, h1, h2⟩ => ⟨p, h _ _ h1, h2⟩) hr.ds, hr.rd.ext h⟩

def zl8 (m : Map) : SItem → Item → Prop
 | .code c, .code d => c = d
 | .inBlock i, .inBlock j => i = j
 | .inLoop c, .inLoop d => c = d
 | .inScope c, .inScope d => c = d
 | .ops all rem, .inRegion ops is => all = ops ∧ ∃ i, rem = all.toList.drop i ∧ is = (List.range all.size).drop i
 | .beginRound, .beginRound => True
 | .inRange l, .inRangeFunc r => ∃ p, m l = some p ∧ p.block = r
 | .endRange l, .endRangeFunc r => ∃ p, m l = some p ∧ p.block = r
 | _, _ => False

theorem zl8.ext {m m' : Map} (h : Ext m m') {s : SItem} {i : Item} (hr : zl8 m s i) : zl8 m' s i := by
 cases s <;> cases i <;> simp only [zl8] at hr ⊢ <;> first | exact hr | (obtain ⟨p, h1, h2⟩ := hr; exact ⟨p, h _ _ h1, h2⟩)

def zlo (m : Map) : zi2 → Frame → Prop
 | .mk cx n σ k, fr => ∃ c tm todo, fr = mkF c tm todo ∧ zrs m cx c ∧ zku m σ tm ∧ tm.size = n ∧ zj3 (zl8 m) k todo

theorem zlo.ext {m m' : Map} (h : Ext m m') {f : zi2} {fr : Frame} (hr : zlo m f fr) : zlo m' f fr := by
 cases f with
 | mk cx n σ k =>
  obtain ⟨c, tm, todo, rfl, hc, ht, hn, hk⟩ := hr
  exact ⟨c, tm, todo, rfl, hc.ext h, ht.ext h, hn, zj3.mono (fun _ _ => zl8.ext h) hk⟩

theorem zv4 {m : Map} {id : Nat} : ∀ {k : List SItem} {t : List Item}, zj3 (zl8 m) k t → match zm0 id k with
  | some k' => ∃ t', exitTo id t = some t' ∧ zj3 (zl8 m) k' t'
  | none => exitTo id t = none
 | [], _, .nil => by
  show exitTo id [] = none
  simp [exitTo]
 | x :: k, _, .cons (b := y) (k := l) hx hk => by
  have ih := zv4 (id := id) hk
  have eqv : zm0 id (x :: k) = SItem.rec (motive := fun _ => Option (List SItem)) (fun _ => zm0 id k) (fun i => Bool.rec (zm0 id k) (some k) (Nat.beq i id)) (fun _ => zm0 id k) (fun _ => zm0 id k) (fun _ _ => zm0 id k) (zm0 id k) (fun _ => zm0 id k) (fun _ => zm0 id k) x := rfl
  cases x with
  | inBlock i =>
   cases y <;> simp only [zl8] at hx
   subst hx
   have eqv' : zm0 id (.inBlock i :: k) = Bool.rec (motive := fun _ => Option (List SItem)) (zm0 id k) (some k) (Nat.beq i id) := rfl
   rw [eqv']
   cases hb : Nat.beq i id with
   | true =>
    have := Nat.eq_of_beq_eq_true hb
    subst this
    exact ⟨l, by simp [exitTo], hk⟩
   | false =>
    have hne : (i == id) = false := by
     rw [beq_eq_false_iff_ne]
     intro e; subst e; simp at hb
    show match zm0 id k with
     | some k' => ∃ t', exitTo id (.inBlock i :: l) = some t' ∧ zj3 (zl8 m) k' t'
     | none => exitTo id (.inBlock i :: l) = none
    rw [show exitTo id (.inBlock i :: l) = exitTo id l by simp [exitTo, hne]]
    exact ih
  | _ =>
   cases y <;> simp only [zl8] at hx
   all_goals
    show match zm0 id k with
     | some k' => ∃ t', exitTo id (_ :: l) = some t' ∧ zj3 (zl8 m) k' t'
     | none => exitTo id (_ :: l) = none
    simp only [exitTo]
    exact ih

end Go.Ev

/- Loops over functions: what their steps do to memory. -/
namespace Go.Ev
open Go.RowKit
variable {P : Program} {I D : Known}

section
variable {B : Nat} {m : Map} {M : Mem} {w : World}

theorem zo5 {r : Nat} (o : Obj) (h : B ≤ r) : Below B w (w.putObj r o) :=
 ⟨rfl, rfl, rfl, by simp, fun k hk => World.putObj_heap_other (by omega)⟩

theorem zk4 {l : Pos} {L : LoopS} (h : znw M l = some L) : zod M l = some L ∧ M.floor ≤ l.num := by
 unfold znw at h
 split at h
 ·rename_i ha; exact ⟨h, znc ha⟩
 ·simp at h

theorem zrk (hr : MRel B m M w) {l : Pos} {p : Pl} {L : LoopS} (hL : znw M l = some L) (hp : m l = some p) {L' : LoopS} {R' : Loop} (hrel : zph m L' R') :
  zi0 B m M w m ⟨M.t.put (some (.loop L')) l, M.next, M.floor⟩ (w.putObj p.block (.loop R')) :=
 zi0.update hr l _ _ p (zp3 (zk4 hL).1) rfl hp (fun k hk => World.putObj_heap_other hk) (zo5 _ (hr.low _ _ _ (zp3 (zk4 hL).1) rfl hp)) rfl
  ⟨R', World.putObj_heap_same (hr.bound _ _ hp), hrel⟩ (zk4 hL).2

/-- What lies under a name is no longer looked at. -/
theorem zi0.erase (hr : MRel B m M w) {w' : World} (b : Pos) (x : SObj) (p : Pl) (hx : M.t.get b = some x) (hown : x.own = true) (hp : m b = some p)
  (hold : ∀ k, k ≠ p.block → w'.heap[k]? = w.heap[k]?) (hb : Below B w w') (hfl : M.floor ≤ b.num) : zi0 B m M w m ⟨M.t.put none b, M.next, M.floor⟩ w' := by
 have f : ∀ {c y}, Tree.get c (M.t.put none b) = some y → b ≠ c ∧ M.t.get c = some y := by
  intro c y h
  by_cases hb : b = c
  ·subst hb; simp only [Tree.get_put_same] at h; simp at h
  ·simp only [Tree.get_put_other _ _ hb] at h; exact ⟨hb, h⟩
 refine ⟨⟨?_, ?_, ?_, ?_, ?_, Nat.le_trans hr.base hb.size, ?_, hr.flo⟩, fun _ _ => rfl, ?_, Nat.le_refl _, hb, ?_, ?_, ?_, rfl, fun c y hy => (f hy).2, fun c q hc hq _ => absurd hq (by rw [(hr.fresh c hc).1]; simp)⟩
 ·intro c y q hy hq
  obtain ⟨h1, h2⟩ := f hy
  have hne : q.block ≠ p.block := fun he => h1 (hr.inj b c x y p q hx h2 (.inl hown) hp hq he.symm)
  rw [hold _ hne]
  exact hr.objs c y q h2 hq
 ·intro c c' y y' q q' hy hy' how hq hq' he
  exact hr.inj c c' y y' q q' (f hy).2 (f hy').2 how hq hq' he
 ·intro c hc
  have hc' : M.next.num ≤ c.num := hc
  refine ⟨(hr.fresh c hc').1, ?_⟩
  by_cases h : b = c
  ·subst h; exact Tree.get_put_same _ _ _
  ·simp only [Tree.get_put_other _ _ h]; exact (hr.fresh c hc').2
 ·intro c q hq
  have := hr.bound c q hq
  have := hb.size
  omega
 ·intro c y q hy hyo hq
  exact hr.low c y q (f hy).2 hyo hq
 ·intro c y hy
  exact hr.glob c y (f hy).2
 ·intro c hc hm
  have hne : b ≠ c := by intro h; subst h; rw [hp] at hm; exact absurd hm (by simp)
  simp only [Tree.get_put_other _ _ hne]
 ·intro k _ hk
  exact hold k fun e => hk ⟨b, x, p, hx, hown, hp, e.symm⟩
 ·rintro k _ ⟨c, y, q, hy, hyo, hq, rfl⟩
  exact ⟨c, y, q, (f hy).2, hyo, hq, rfl⟩
 ·intro c hc
  have hne : b ≠ c := by intro h; subst h; omega
  simp only [Tree.get_put_other _ _ hne]

/-- A new block. -/
theorem zi0.lay (hr : MRel B m M w) (o : SObj) (x : Obj) (hown : o.own = true) (ho : ∀ m', Ext m m' → zl2 m' ⟨w.heap.size, 0, 0⟩ o (some x)) :
  zi0 B m M w (fun b => if b = M.next then some ⟨w.heap.size, 0, 0⟩ else m b) ⟨M.t.put (some o) M.next, M.next.succ, M.floor⟩ (w.alloc x) := by
 have hnew := World.alloc_heap_new w x
 refine zi0.fresh hr M.t ⟨w.heap.size, 0, 0⟩ o (fun _ _ h => h) (fun _ _ _ => rfl) (fun _ _ => rfl) (fun b y q hy hq => ?_) (Below.alloc (Below.refl _ _) hr.base _) (by show _ < (w.heap.push x).size; simp) hr.base hown (fun m' hm' => by rw [hnew]; exact ho m' hm')
  (fun k hk _ => Below.heap_alloc _ _ _ hk) (fun h => absurd h (by simp))
 have hlt := hr.bound b q hq
 exact ⟨by show q.block ≠ w.heap.size; omega, Below.heap_alloc _ _ _ hlt⟩

theorem zi0.laid (hr : MRel B m M w) (o : SObj) (x : Obj) (hown : o.own = true) (ho : ∀ m', Ext m m' → zl2 m' ⟨w.heap.size, 0, 0⟩ o (some x)) :
  ∃ m', zi0 B m M w m' ⟨M.t.put (some o) M.next, M.next.succ, M.floor⟩ (w.alloc x) ∧ m' M.next = some ⟨w.heap.size, 0, 0⟩ := ⟨_, zi0.lay hr o x hown ho, by simp⟩

/-- The blocks for rounds' deferred calls are shut. -/
theorem zql : ∀ {ds : List Pos} {M M' : Mem} {w : World} {cds : List Deferred}, MRel B m M w → zoj ds M = some M' →
  zj3 (fun b (d : Deferred) => ∃ p, m b = some p ∧ d = { target := .collected p.block, args := #[] }) ds cds →
  ∀ (fr : Frame) (fs : List Frame), fr.mode = .returning → fr.defers = cds → ∃ w', Steps P (lone fr fs w) (lone { fr with defers := [] } fs w') ∧ zi0 B m M w m M' w'
 | [], M, M', w, _, hr, h, .nil, fr, fs, hm, hd => by
  simp only [zoj, Option.some.injEq] at h
  subst h
  refine ⟨w, ?_, .refl hr⟩
  rw [show ({ fr with defers := [] } : Frame) = fr by cases fr; simp_all]
  exact .refl _ _
 | b :: ds, M, M', w, _, hr, h, .cons (b := d) (k := cds) ⟨p, hp, hdd⟩ hds, fr, fs, hm, hd => by
  simp only [zoj] at h
  split at h
  ·rename_i hb
   have hab : above M b = true := by
    cases hh : above M b with
    | true => rfl
    | false => rw [hh] at h; simp at h
   rw [hab] at h
   simp only at h
   have hobj : w.heap[p.block]? = some (.deferred (some [])) := hr.objs b _ p hb hp
   have htake := run_takeDeferred (P := P) hobj
   have hs := step_collected (P := P) (cs := fs) (by rw [hm]; simp) hd (by rw [hdd]) htake
   have hst : zi0 B m M w m ⟨M.t.put none b, M.next, M.floor⟩ (w.putObj p.block (.deferred none)) :=
    zi0.erase hr b _ p hb rfl hp (fun k hk => World.putObj_heap_other hk) (zo5 _ (hr.low _ _ _ hb rfl hp)) (znc hab)
   obtain ⟨w', h1, h2⟩ := zql hst.rel h hds { fr with defers := [] ++ cds } fs hm rfl
   exact ⟨w', .head hs h1, hst.trans h2⟩
  ·simp at h

/-- A loop's parameters. -/
theorem zsy {n : Nat} : ∀ {ts : List Tmp} {l : List SV} {vs : List Value} {σ σ' : Tree SV} {tm : Array Value}, ztw n ts l σ = some σ' → concs m l = some vs → zku m σ tm → tm.size = n →
  zku m σ' ((ts.zip vs).foldl (fun tmps (t, a) => tmps.setIfInBounds t a) tm) ∧ ((ts.zip vs).foldl (fun tmps (t, a) => tmps.setIfInBounds t a) tm).size = n
 | [], [], vs, σ, σ', tm, h, hv, ht, hn => by
  simp only [ztw, Option.some.injEq] at h
  subst h
  exact ⟨ht, hn⟩
 | t :: ts, s :: l, vs, σ, σ', tm, h, hv, ht, hn => by
  obtain ⟨v, r, h1, h2, rfl⟩ := zi3 hv
  simp only [ztw] at h
  split at h
  ·rename_i hb
   have := Nat.le_of_ble_eq_true hb
   have q := zsy (tm := tm.setIfInBounds t v) h h2 (ht.put (by omega) h1) (by simpa using hn)
   exact q
  ·simp at h
 | [], _ :: _, vs, σ, σ', tm, h, hv, ht, hn => by simp [ztw] at h
 | _ :: _, [], vs, σ, σ', tm, h, hv, ht, hn => by simp [ztw] at h

end
end Go.Ev

