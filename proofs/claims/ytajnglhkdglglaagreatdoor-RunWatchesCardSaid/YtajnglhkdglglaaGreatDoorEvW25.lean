/- A part of the small machine. -/
import Derived.Test.YtajnglhkdglglaaGreatDoorEvV26
set_option linter.unusedVariables false
/- The small machine. -/
namespace Go.Ev
open Go.RowKit
variable {P : Program}

inductive SItem where
 | code (c : Code)
 | inBlock (id : Nat)
 | inLoop (c : Code)
 | inScope (c : Code)
 | ops (all : Array Oper) (rem : List Oper)
 | beginRound
 | inRange (l : Pos)
 | endRange (l : Pos)
 | late (all : Array Oper) (i : Nat)

/-- Whose frame it is; the blocks for rounds' deferred calls that it has laid; the loop that it is a round of. -/
structure SCx where
 fn : FuncId
 ds : List Pos
 rd : Option Pos

inductive zdd where
 | mk (cx : SCx) (n : Nat) (tmps : Tree SV) (todo : List SItem)

inductive Res where
 | bad
 | go (f : zdd) (cs : List zdd) (M : Mem)
 | done (v : SV) (M : Mem)

noncomputable def zhb (id : Nat) (k : List SItem) : Option (List SItem) :=
 List.rec none (fun x k ih => SItem.rec (fun _ => ih) (fun i => Bool.rec ih (some k) (Nat.beq i id)) (fun _ => ih) (fun _ => ih) (fun _ _ => ih) ih (fun _ => ih) (fun _ => ih) (fun _ _ => ih) x) k

noncomputable def znz (M : Mem) (P : Program) (σ : Tree SV) : List ResultVar → Option (List SV)
 | [] => some []
 | .tmp t :: l => match σ.get (Pos.ofNat t) with
  | none => none
  | some s => match znz M P σ l with
   | none => none
   | some r => some (s :: r)
 | .cell a t :: l => match σ.get (Pos.ofNat a) with
  | none => none
  | some s => match zil P t s M with
   | .val s _ => match znz M P σ l with
    | none => none
    | some r => some (s :: r)
   | _ => none

noncomputable def zp8 (l : List SV) : SV := match l with
 | [s] => s
 | l => .tuple l

/-- Operation i, if all others behind it wait for it. -/
noncomputable def zj2 (all : Array Oper) (i : Nat) : Option Oper :=
 match all[i]? with
 | none => none
 | some o => match (List.range all.size).all fun j => Nat.ble j i || zn9 (zeg all.toList) i j with
  | true => some o
  | false => none
theorem zld {all : Array Oper} {i : Nat} {o : Oper} (h : zj2 all i = some o) : all[i]? = some o ∧ ∀ j, i < j → j < all.size → Kc all i j := by
 unfold zj2 at h
 split at h
 ·simp at h
 ·rename_i o' ho
  split at h
  ·rename_i hb
   simp only [Option.some.injEq] at h
   subst h
   refine ⟨ho, fun j hj hs => ?_⟩
   rw [List.all_eq_true] at hb
   have := hb j (List.mem_range.2 hs)
   rw [Bool.or_eq_true] at this
   rcases this with e | e
   ·have := Nat.le_of_ble_eq_true e; omega
   ·exact zdx hs e
  ·simp at h

/-- The frame that called goes on with v. -/
noncomputable def zji (v : SV) (cs : List zdd) (M : Mem) : Res :=
 match cs with
 | .mk cx n σ (.ops all (o :: r) :: k) :: cs => match zgb σ n o.dst v with
  | some σ => .go (.mk cx n σ (.ops all r :: k)) cs M
  | none => .bad
 | .mk cx n σ (.inRange l :: k) :: cs => .go (.mk cx n σ (.endRange l :: k)) cs M
 | .mk cx n σ (.late all i :: k) :: cs => match zj2 all i with
  | some o => match zgb σ n o.dst v with
   | some σ => .go (.mk cx n σ (.late all (Nat.succ i) :: k)) cs M
   | none => .bad
  | none => .bad
 | _ => .bad
noncomputable def zl4 (v : SV) (cs : List zdd) (M : Mem) : Res :=
 match cs with
 | [] => .done v M
 | c :: cs => zji v (c :: cs) M

/-- The blocks for rounds' deferred calls are shut. -/
noncomputable def zkd : List Pos → Mem → Option Mem
 | [], M => some M
 | b :: ds, M => match M.t.get b with
  | some .defd => match above M b with
   | true => zkd ds (zy4 M b none)
   | false => none
  | _ => none

noncomputable def zjo (M : Mem) (l : Pos) : Option Vo := match above M l with
 | true => zk7 M l
 | false => none

/-- A round ends. -/
noncomputable def zj6 (l : Pos) (jump : Option Code) (cs : List zdd) (M : Mem) : Res :=
 match zjo M l with
 | none => .bad
 | some L => zji (.bool jump.isNone) cs (zy4 M l (some (.loop { L with st := if jump.isNone then .ready else .done, pend := jump })))

noncomputable def zvo (P : Program) (cx : SCx) (jump : Option Code) (σ : Tree SV) (cs : List zdd) (M : Mem) : Res :=
 match cx.rd with
 | some l => zj6 l jump cs M
 | none => match P.funcs[cx.fn]? with
  | none => .bad
  | some F => match zkd cx.ds M with
   | none => .bad
   | some M => match znz M P σ F.results.toList with
    | none => .bad
    | some l => zl4 (zp8 l) cs M

noncomputable def zlt (i : Nat) (σ : Tree SV) : List SV → Tree SV
 | [] => σ
 | s :: l => zlt (Nat.succ i) (σ.put (some s) (Pos.ofNat i)) l

noncomputable def Xx (P : Program) (f : FuncId) (as : List SV) : Option zdd :=
 match P.funcs[f]? with
 | none => none
 | some F => match F.body, Nat.ble (len as) F.ntmps with
  | some c, true => some (.mk ⟨f, [], none⟩ F.ntmps (zlt 0 .leaf as) [.code c])
  | _, _ => none

noncomputable def zqk (n : Nat) : List Tmp → List SV → Tree SV → Option (Tree SV)
 | t :: ts, s :: l, σ => match Nat.ble (Nat.succ t) n with
  | true => zqk n ts l (σ.put (some s) (Pos.ofNat t))
  | false => none
 | [], [], σ => some σ
 | _, _, _ => none

/-- A round begins. -/
noncomputable def zpg (l : Pos) (as : List SV) (c : zdd) (cs : List zdd) (M : Mem) : Res :=
 match zk7 M l with
 | none => .bad
 | some L => match zqk L.n L.ps as L.tmps with
  | none => .bad
  | some σ => .go (.mk ⟨L.fn, [], some l⟩ L.n σ [.code L.assign, .beginRound, .code L.body]) (c :: cs) M

noncomputable def zsr (I : Jg) (P : Program) (cx : SCx) (n : Nat) (σ : Tree SV) (all : Array Oper) (o : Oper) (r : List Oper) (k : List SItem) (cs : List zdd) (M : Mem) : Res :=
 match zdw all σ o with
 | none => .bad
 | some false => match zgb σ n o.dst (.tuple []) with
  | some σ => .go (.mk cx n σ (.ops all r :: k)) cs M
  | none => .bad
 | some true => match exec P M σ o with
  | .bad => .bad
  | .val v M => match zgb σ n o.dst v with
   | some σ => .go (.mk cx n σ (.ops all r :: k)) cs M
   | none => .bad
  | .enter f as M => match I f as M with
   | some (v, M) => match zgb σ n o.dst v with
    | some σ => .go (.mk cx n σ (.ops all r :: k)) cs M
    | none => .bad
   | none => match Xx P f as with
    | some g => .go g (.mk cx n σ (.ops all (o :: r) :: k) :: cs) M
    | none => .bad
  | .round l as M => zpg l as (.mk cx n σ (.ops all (o :: r) :: k)) cs M

/-- The same, between items. -/
noncomputable def opG (I : Jg) (P : Program) (cx : SCx) (n : Nat) (σ : Tree SV) (all : Array Oper) (o : Oper) (a b : SItem) (k : List SItem) (cs : List zdd) (M : Mem) : Res :=
 match zdw all σ o with
 | none => .bad
 | some false => match zgb σ n o.dst (.tuple []) with
  | some σ => .go (.mk cx n σ (b :: k)) cs M
  | none => .bad
 | some true => match exec P M σ o with
  | .bad => .bad
  | .val v M => match zgb σ n o.dst v with
   | some σ => .go (.mk cx n σ (b :: k)) cs M
   | none => .bad
  | .enter f as M => match I f as M with
   | some (v, M) => match zgb σ n o.dst v with
    | some σ => .go (.mk cx n σ (b :: k)) cs M
    | none => .bad
   | none => match Xx P f as with
    | some g => .go g (.mk cx n σ (a :: k) :: cs) M
    | none => .bad
  | .round l as M => zpg l as (.mk cx n σ (a :: k)) cs M
theorem zwk (I : Jg) (P : Program) (cx : SCx) (n : Nat) (σ : Tree SV) (all : Array Oper) (o : Oper) (r : List Oper) (k : List SItem) (cs : List zdd) (M : Mem) : zsr I P cx n σ all o r k cs M = opG I P cx n σ all o (.ops all (o :: r)) (.ops all r) k cs M := rfl

noncomputable def zwa (cx : SCx) (n : Nat) (all : Array Oper) (r : List Oper) (k : List SItem) (cs : List zdd) (M : Mem) (x : Option (Tree SV)) : Res :=
 Option.rec .bad (fun σ => .go (.mk cx n σ (.ops all r :: k)) cs M) x
noncomputable def zln (cx : SCx) (n : Nat) (σ : Tree SV) (all : Array Oper) (d : Option Tmp) (r : List Oper) (k : List SItem) (cs : List zdd) (v : SV) (M : Mem) : Res :=
 zwa cx n all r k cs M (zgb σ n d v)
noncomputable def znu (P : Program) (cx : SCx) (n : Nat) (σ : Tree SV) (all : Array Oper) (o : Oper) (r : List Oper) (k : List SItem) (cs : List zdd) (f : FuncId) (as : List SV) (M : Mem) : Res :=
 Option.rec .bad (fun g => .go g (.mk cx n σ (.ops all (o :: r) :: k) :: cs) M) (Xx P f as)
noncomputable def zxx (cx : SCx) (n : Nat) (σ : Tree SV) (all : Array Oper) (d : Option Tmp) (r : List Oper) (k : List SItem) (cs : List zdd) (x : SV × Mem) : Res :=
 Prod.rec (fun v M => zln cx n σ all d r k cs v M) x
noncomputable def zjs (I : Jg) (P : Program) (cx : SCx) (n : Nat) (σ : Tree SV) (all : Array Oper) (o : Oper) (r : List Oper) (k : List SItem) (cs : List zdd) (f : FuncId) (as : List SV) (M : Mem) : Res :=
 Option.rec (znu P cx n σ all o r k cs f as M) (zxx cx n σ all o.dst r k cs) (I f as M)
noncomputable def znv (cx : SCx) (n : Nat) (σ : Tree SV) (all : Array Oper) (o : Oper) (r : List Oper) (k : List SItem) (cs : List zdd) (l : Pos) (as : List SV) (M : Mem) : Res :=
 zpg l as (.mk cx n σ (.ops all (o :: r) :: k)) cs M
noncomputable def zwl (I : Jg) (P : Program) (cx : SCx) (n : Nat) (σ : Tree SV) (all : Array Oper) (o : Oper) (r : List Oper) (k : List SItem) (cs : List zdd) (x : Out) : Res :=
 Out.rec .bad (zln cx n σ all o.dst r k cs) (zjs I P cx n σ all o r k cs) (znv cx n σ all o r k cs) x
noncomputable def zyr (I : Jg) (P : Program) (cx : SCx) (n : Nat) (σ : Tree SV) (all : Array Oper) (o : Oper) (r : List Oper) (k : List SItem) (cs : List zdd) (M : Mem) (b : Bool) : Res :=
 Bool.rec (zln cx n σ all o.dst r k cs (.tuple []) M) (zwl I P cx n σ all o r k cs (exec P M σ o)) b
noncomputable def opS (I : Jg) (P : Program) (cx : SCx) (n : Nat) (σ : Tree SV) (all : Array Oper) (o : Oper) (r : List Oper) (k : List SItem) (cs : List zdd) (M : Mem) : Res :=
 Option.rec .bad (zyr I P cx n σ all o r k cs M) (zdw all σ o)

theorem znw (I : Jg) (P : Program) (cx : SCx) (n : Nat) (σ : Tree SV) (all : Array Oper) (o : Oper) (r : List Oper) (k : List SItem) (cs : List zdd) (M : Mem) : opS I P cx n σ all o r k cs M = zsr I P cx n σ all o r k cs M := by
 have hv : ∀ v M, zln cx n σ all o.dst r k cs v M = match zgb σ n o.dst v with
   | some σ => .go (.mk cx n σ (.ops all r :: k)) cs M
   | none => .bad := by
  intro v M
  unfold zln zwa
  cases zgb σ n o.dst v <;> rfl
 unfold opS zsr
 cases zdw all σ o with
 | none => rfl
 | some b =>
  cases b with
  | false => exact hv _ _
  | true =>
   show zwl I P cx n σ all o r k cs (exec P M σ o) = _
   simp only
   cases exec P M σ o with
   | bad => rfl
   | val v M' => exact hv _ _
   | enter f as M' =>
    show zjs I P cx n σ all o r k cs f as M' = _
    unfold zjs
    simp only
    cases I f as M' with
    | none =>
     show znu P cx n σ all o r k cs f as M' = _
     unfold znu
     simp only
     cases Xx P f as <;> rfl
    | some x => exact hv x.1 x.2
   | round l as M' => rfl

/-- A loop over a function begins. -/
noncomputable def zpe (P : Program) (cx : SCx) (n : Nat) (σ : Tree SV) (g : Operand) (ps : Array Tmp) (assign body : Code) (k : List SItem) (cs : List zdd) (M : Mem) : Res :=
 match arg M σ g with
 | some (.fn (.func gf) first captured) => match Ts P gf with
  | false => .bad
  | true => match cx.rd with
   | none => match Xx P gf (app (app first [.yield M.next.succ]) captured) with
    | none => .bad
    | some f => .go f (.mk ⟨cx.fn, M.next :: cx.ds, none⟩ n σ (.inRange M.next.succ :: k) :: cs)
     ⟨(M.t.put (some .defd) M.next).put (some (.loop ⟨.ready, none, cx.fn, n, σ, ps.toList, assign, body, M.next⟩)) M.next.succ, M.next.succ.succ, M.floor⟩
   | some l0 => match zk7 M l0 with
    | none => .bad
    | some L0 => match Xx P gf (app (app first [.yield M.next]) captured) with
     | none => .bad
     | some f => .go f (.mk cx n σ (.inRange M.next :: k) :: cs)
      ⟨M.t.put (some (.loop ⟨.ready, none, cx.fn, n, σ, ps.toList, assign, body, L0.df⟩)) M.next, M.next.succ, M.floor⟩
 | _ => .bad

/-- The function that was ranged over has returned. -/
noncomputable def zym (cx : SCx) (n : Nat) (σ : Tree SV) (l : Pos) (k : List SItem) (cs : List zdd) (M : Mem) : Res :=
 match zjo M l with
 | none => .bad
 | some L => match L.st with
  | .busy => .bad
  | _ => .go (.mk cx n σ (match L.pend with | none => k | some c => .code c :: k)) cs (zy4 M l (some (.loop { L with st := .exhausted })))

noncomputable def zoj (cx : SCx) (n : Nat) (σ : Tree SV) (k : List SItem) (cs : List zdd) (M : Mem) : Res :=
 match cx.rd with
 | none => .bad
 | some l => match zjo M l with
  | none => .bad
  | some L => match L.st with
   | .ready => .go (.mk cx n σ k) cs (zy4 M l (some (.loop { L with st := .busy })))
   | _ => .bad

/-- A plan of a region that draws. -/
def zz3 (ops : Array Oper) (ms : List Nat) (i : Nat) : Bool := match ops[i]? with
 | none => true
 | some o => (List.range ops.size).any fun r => !Nat.beq r i && zn9 ms r i && (match ops[r]? with
  | none => false
  | some p => zh1 (zdn ops p) o.dst)
def zx8 (ops : Array Oper) (E : List Nat) (i : Nat) : Bool := match ops[i]? with
 | none => false
 | some o => !zrl E i && (zf3 o).all (zrl E)
noncomputable def zp6 (P : Program) (ops : Array Oper) (ms : List Nat) : Nat → Bool → List Nat → List Nat → List PE
 | 0, _, _, _ => []
 | f + 1, late, E, Q =>
  match (List.range ops.size).find? (fun i => zx8 ops E i && (match ops[i]? with | none => false | some o => zf0 P o.op) && (late || !zz3 ops ms i)) with
  | some i => .fl i :: zp6 P ops ms f late (i :: E) (i :: Q)
  | none => match (List.range ops.size).filter (zx8 ops E) with
   | [i] => .an i (Q.filter fun q => !zn9 ms q i) :: zp6 P ops ms f late (i :: E) (Q.filter fun q => !zn9 ms q i)
   | _ => match late with
    | true => []
    | false => .sync :: zp6 P ops ms f true E []
noncomputable def Gy (P : Program) (ops : Array Oper) : Option (List PE) :=
 match zf1 ops && zg6 P ops (zeg ops.toList) (zp6 P ops (zeg ops.toList) (2 * ops.size + 2) false [] []) [] [] with
 | true => some (zp6 P ops (zeg ops.toList) (2 * ops.size + 2) false [] [])
 | false => none

def zm4 (ops : Array Oper) (ms : List Nat) (late : Bool) : Nat → Nat
 | 0 => 0
 | i + 1 => match (List.range i).all (fun k => zn9 ms k i || (late && zgp ops k)) with
  | true => zm4 ops ms late i
  | false => i + 1
def zv7 (ops : Array Oper) (ms : List Nat) (N : Nat) : Bool := Nat.ble N ops.size && (List.range ops.size).all fun i => Nat.blt i N || (List.range i).all fun k => zn9 ms k i || (Nat.blt k N && zgp ops k)
def zyw (ops : Array Oper) (ms : List Nat) : Nat := match zv7 ops ms (zm4 ops ms true ops.size) with
 | true => zm4 ops ms true ops.size
 | false => zm4 ops ms false ops.size

/-- The number of the pure operations, if the region is such. -/
noncomputable def zy2 (ops : Array Oper) : Option Nat :=
 match zf1 ops && zmu ops (zeg ops.toList) && zv7 ops (zeg ops.toList) (zyw ops (zeg ops.toList)) with
 | true => some (zyw ops (zeg ops.toList))
 | false => none
theorem zwm {ops : Array Oper} {N : Nat} (h : zy2 ops = some N) : zf1 ops = true ∧ Yj ops ∧ N ≤ ops.size ∧ ∀ i, N ≤ i → i < ops.size → ∀ k, k < i → Kc ops k i ∨ (k < N ∧ zgp ops k = true) := by
 unfold zy2 at h
 split at h
 ·rename_i hb
  simp only [Option.some.injEq] at h
  rw [h] at hb
  rw [Bool.and_eq_true, Bool.and_eq_true] at hb
  obtain ⟨⟨h1, h2⟩, h3⟩ := hb
  unfold zv7 at h3
  rw [Bool.and_eq_true, List.all_eq_true] at h3
  refine ⟨h1, zj4 h2, Nat.le_of_ble_eq_true h3.1, fun i hi hi' k hk => ?_⟩
  have := h3.2 i (List.mem_range.2 hi')
  rw [Bool.or_eq_true, List.all_eq_true] at this
  rcases this with e | e
  ·have := Nat.lt_of_succ_le (Nat.le_of_ble_eq_true e)
   omega
  ·have := e k (List.mem_range.2 hk)
   rw [Bool.or_eq_true, Bool.and_eq_true] at this
   rcases this with e | e
   ·exact .inl (zdx hi' e)
   ·exact .inr ⟨Nat.lt_of_succ_le (Nat.le_of_ble_eq_true e.1), e.2⟩
 ·simp at h

theorem zp9 {ops : Array Oper} {plan : List PE} (h : Gy P ops = some plan) : zf1 ops = true ∧ zg6 P ops (zeg ops.toList) plan [] [] = true := by
 unfold Gy at h
 split at h
 ·rename_i hb
  simp only [Option.some.injEq] at h
  subst h
  simpa using hb
 ·simp at h

/-- The number of the first operations of a region that are pure, where the others follow in their order. -/
noncomputable def zyu (ops : Array Oper) : Option Nat :=
 match zf1 ops && zmu ops (zeg ops.toList) && (Nat.ble (zm4 ops (zeg ops.toList) false ops.size) ops.size && (List.range ops.size).all fun i => Nat.blt i (zm4 ops (zeg ops.toList) false ops.size) || (List.range i).all fun k => zn9 (zeg ops.toList) k i) with
 | true => some (zm4 ops (zeg ops.toList) false ops.size)
 | false => none
theorem zv2 {ops : Array Oper} {N : Nat} (h : zyu ops = some N) : zf1 ops = true ∧ Yj ops ∧ N ≤ ops.size ∧ ∀ i, N ≤ i → i < ops.size → ∀ k, k < i → Kc ops k i := by
 unfold zyu at h
 split at h
 ·rename_i hb
  simp only [Option.some.injEq] at h
  rw [h] at hb
  rw [Bool.and_eq_true, Bool.and_eq_true, Bool.and_eq_true, List.all_eq_true] at hb
  obtain ⟨⟨h1, h2⟩, h3, h4⟩ := hb
  refine ⟨h1, zj4 h2, Nat.le_of_ble_eq_true h3, fun i hi hi' k hk => ?_⟩
  have := h4 i (List.mem_range.2 hi')
  rw [Bool.or_eq_true, List.all_eq_true] at this
  rcases this with e | e
  ·have := Nat.lt_of_succ_le (Nat.le_of_ble_eq_true e)
   omega
  ·exact zdx hi' (e k (List.mem_range.2 hk))
 ·simp at h
noncomputable def zok (D : Jg) (P : Program) (cx : SCx) (n : Nat) (σ : Tree SV) (k : List SItem) (cs : List zdd) (M : Mem) (ops : Array Oper) : Res :=
 match zyu ops with
  | some N => match zgq D P n ops (ops.toList.take N) σ M with
   | some (σ, M1) => .go (.mk cx n σ (.ops ops (ops.toList.drop N) :: k)) cs (zex M.floor M1)
   | none => .bad
  | none => .bad
noncomputable def zhi (D : Jg) (P : Program) (cx : SCx) (n : Nat) (σ : Tree SV) (k : List SItem) (cs : List zdd) (M : Mem) (ops : Array Oper) : Res :=
 match Gy P ops with
  | some plan => match zmf D P n ops plan σ M with
   | some (σ, M) => .go (.mk cx n σ k) cs M
   | none => zok D P cx n σ k cs M ops
  | none => match zy2 ops with
   | some N => match zgq D P n ops (ops.toList.take N) σ M with
    | some (σ1, M1) => match zye D P n ops (ops.toList.drop N) σ1 (zex M.floor M1) with
     | some (σ, M) => .go (.mk cx n σ k) cs M
     | none => zok D P cx n σ k cs M ops
    | none => .bad
   | none => .bad

noncomputable def zna (D : Jg) (P : Program) (cx : SCx) (n : Nat) (σ : Tree SV) (c : Code) (k : List SItem) (cs : List zdd) (M : Mem) : Res :=
 match c with
 | .skip => .go (.mk cx n σ k) cs M
 | .label _ => .go (.mk cx n σ k) cs M
 | .seq a b => .go (.mk cx n σ (.code a :: .code b :: k)) cs M
 | .cond x a b => match arg M σ x with
  | some (.bool true) => .go (.mk cx n σ (.code a :: k)) cs M
  | some (.bool false) => .go (.mk cx n σ (.code b :: k)) cs M
  | _ => .bad
 | .block id c => .go (.mk cx n σ (.code c :: .inBlock id :: k)) cs M
 | .loop c => .go (.mk cx n σ (.code c :: .inLoop c :: k)) cs M
 | .scope c => .go (.mk cx n σ (.code c :: .inScope c :: k)) cs M
 | .exit id => match zhb id k with
  | some k => .go (.mk cx n σ k) cs M
  | none => match cx.rd with
   | none => .bad
   | some l => zj6 l (some (.exit id)) cs M
 | .ret => zvo P cx (some .ret) σ cs M
 | .rangeFunc g ps assign body => zpe P cx n σ g ps assign body k cs M
 | .region _ ops false => .go (.mk cx n σ (.ops ops ops.toList :: k)) cs M
 | .region _ ops true => zhi D P cx n σ k cs M ops
 | _ => .bad

noncomputable def zzr (D : Jg) (P : Program) (cx : SCx) (n : Nat) (σ : Tree SV) (k : List SItem) (cs : List zdd) (M : Mem) (_ : Nat) (ops : Array Oper) (d : Bool) : Res :=
 Bool.rec (.go (.mk cx n σ (.ops ops ops.toList :: k)) cs M) (zhi D P cx n σ k cs M ops) d
noncomputable def zvu (cx : SCx) (n : Nat) (σ : Tree SV) (k : List SItem) (cs : List zdd) (M : Mem) (x : Operand) (a b : Code) : Res :=
 match arg M σ x with
  | some (.bool true) => .go (.mk cx n σ (.code a :: k)) cs M
  | some (.bool false) => .go (.mk cx n σ (.code b :: k)) cs M
  | _ => .bad
noncomputable def zvv (cx : SCx) (n : Nat) (σ : Tree SV) (k : List SItem) (cs : List zdd) (M : Mem) (id : Nat) : Res :=
 match zhb id k with
  | some k => .go (.mk cx n σ k) cs M
  | none => match cx.rd with
   | none => .bad
   | some l => zj6 l (some (.exit id)) cs M
noncomputable def cGo (cx : SCx) (n : Nat) (σ : Tree SV) (cs : List zdd) (M : Mem) (k : List SItem) : Res := .go (.mk cx n σ k) cs M
noncomputable def zvw (D : Jg) (P : Program) (cx : SCx) (n : Nat) (σ : Tree SV) (c : Code) (k : List SItem) (cs : List zdd) (M : Mem) : Res :=
 Code.rec (motive := fun _ => Res) (cGo cx n σ cs M k) (zzr D P cx n σ k cs M) (fun a b _ _ => cGo cx n σ cs M (.code a :: .code b :: k)) (fun x a b _ _ => zvu cx n σ k cs M x a b)
  (fun id c _ => cGo cx n σ cs M (.code c :: .inBlock id :: k)) (fun c _ => cGo cx n σ cs M (.code c :: .inLoop c :: k)) (fun g ps assign body _ _ => zpe P cx n σ g ps assign body k cs M)
  (zvv cx n σ k cs M) (fun c _ => cGo cx n σ cs M (.code c :: .inScope c :: k)) (fun _ => cGo cx n σ cs M k) (fun _ => .bad) (zvo P cx (some .ret) σ cs M) (fun _ => .bad) c
theorem zth (D : Jg) (P : Program) (cx : SCx) (n : Nat) (σ : Tree SV) (c : Code) (k : List SItem) (cs : List zdd) (M : Mem) : zvw D P cx n σ c k cs M = zna D P cx n σ c k cs M := by
 cases c with
 | region id ops d => cases d <;> rfl
 | _ => rfl

noncomputable def zzu (I : Jg) (P : Program) (cx : SCx) (n : Nat) (σ : Tree SV) (k : List SItem) (cs : List zdd) (M : Mem) (all : Array Oper) (l : List Oper) : Res :=
 List.rec (cGo cx n σ cs M k) (fun o r _ => opS I P cx n σ all o r k cs M) l
noncomputable def zzh (I D : Jg) (P : Program) (cx : SCx) (n : Nat) (σ : Tree SV) (cs : List zdd) (M : Mem) (it : SItem) (k : List SItem) : Res :=
 SItem.rec (motive := fun _ => Res) (fun c => zvw D P cx n σ c k cs M) (fun _ => cGo cx n σ cs M k) (fun c => cGo cx n σ cs M (.code c :: .inLoop c :: k)) (fun _ => cGo cx n σ cs M k) (zzu I P cx n σ k cs M)
  (zoj cx n σ k cs M) (fun _ => .bad) (fun l => zym cx n σ l k cs M) (fun _ _ => .bad) it
noncomputable def zo1 (I D : Jg) (P : Program) (f : zdd) (cs : List zdd) (M : Mem) : Res :=
 zdd.rec (fun cx n σ todo => List.rec (zvo P cx none σ cs M) (fun it k _ => zzh I D P cx n σ cs M it k) todo) f

/-- Operations one behind the other, as long as none of them calls. -/
noncomputable def opK (I : Jg) (P : Program) (cx : SCx) (n : Nat) (all : Array Oper) (k : List SItem) (cs : List zdd) (o : Oper) (r : List Oper) (ih : Tree SV → Mem → Res) (σ : Tree SV) (M : Mem) : Res :=
 Option.rec .bad (fun b => Bool.rec (Option.rec .bad (fun σ => ih σ M) (zgb σ n o.dst (.tuple []))) (Out.rec .bad (fun v M => Option.rec .bad (fun σ => ih σ M) (zgb σ n o.dst v)) (zjs I P cx n σ all o r k cs) (znv cx n σ all o r k cs) (exec P M σ o)) b) (zdw all σ o)
noncomputable def opL (I : Jg) (P : Program) (cx : SCx) (n : Nat) (all : Array Oper) (k : List SItem) (cs : List zdd) (l : List Oper) : Tree SV → Mem → Res :=
 List.rec (fun σ M => .go (.mk cx n σ k) cs M) (fun o r ih => opK I P cx n all k cs o r ih) l

theorem zwj (I : Jg) (P : Program) (cx : SCx) (n : Nat) (all : Array Oper) (k : List SItem) (cs : List zdd) (o : Oper) (r : List Oper) (σ : Tree SV) (M : Mem) :
  (∃ σ' M', opS I P cx n σ all o r k cs M = .go (.mk cx n σ' (.ops all r :: k)) cs M' ∧ opL I P cx n all k cs (o :: r) σ M = opL I P cx n all k cs r σ' M') ∨ opL I P cx n all k cs (o :: r) σ M = opS I P cx n σ all o r k cs M := by
 have e : opL I P cx n all k cs (o :: r) σ M = opK I P cx n all k cs o r (opL I P cx n all k cs r) σ M := rfl
 rw [e]
 unfold opK opS
 cases zdw all σ o with
 | none => exact .inr rfl
 | some b =>
  cases b with
  | false =>
   show (∃ σ' M', zln cx n σ all o.dst r k cs (.tuple []) M = _ ∧ Option.rec (motive := fun _ => Res) .bad (fun σ => opL I P cx n all k cs r σ M) (zgb σ n o.dst (.tuple [])) = _) ∨ Option.rec (motive := fun _ => Res) .bad (fun σ => opL I P cx n all k cs r σ M) (zgb σ n o.dst (.tuple [])) = zln cx n σ all o.dst r k cs (.tuple []) M
   unfold zln zwa
   cases zgb σ n o.dst (.tuple []) with
   | none => exact .inr rfl
   | some σ' => exact .inl ⟨σ', M, rfl, rfl⟩
  | true =>
   show (∃ σ' M', zwl I P cx n σ all o r k cs (exec P M σ o) = _ ∧ Out.rec (motive := fun _ => Res) .bad (fun v M => Option.rec (motive := fun _ => Res) .bad (fun σ => opL I P cx n all k cs r σ M) (zgb σ n o.dst v)) (zjs I P cx n σ all o r k cs) (znv cx n σ all o r k cs) (exec P M σ o) = _) ∨
    Out.rec (motive := fun _ => Res) .bad (fun v M => Option.rec (motive := fun _ => Res) .bad (fun σ => opL I P cx n all k cs r σ M) (zgb σ n o.dst v)) (zjs I P cx n σ all o r k cs) (znv cx n σ all o r k cs) (exec P M σ o) = zwl I P cx n σ all o r k cs (exec P M σ o)
   cases exec P M σ o with
   | bad => exact .inr rfl
   | val v M' =>
    show (∃ σ' M'', zln cx n σ all o.dst r k cs v M' = _ ∧ Option.rec (motive := fun _ => Res) .bad (fun σ => opL I P cx n all k cs r σ M') (zgb σ n o.dst v) = _) ∨ Option.rec (motive := fun _ => Res) .bad (fun σ => opL I P cx n all k cs r σ M') (zgb σ n o.dst v) = zln cx n σ all o.dst r k cs v M'
    unfold zln zwa
    cases zgb σ n o.dst v with
    | none => exact .inr rfl
    | some σ' => exact .inl ⟨σ', M', rfl, rfl⟩
   | enter f as M' => exact .inr rfl
   | round l as M' => exact .inr rfl

noncomputable def zzg (I D : Jg) (P : Program) (cx : SCx) (n : Nat) (σ : Tree SV) (cs : List zdd) (M : Mem) (it : SItem) (k : List SItem) : Res :=
 SItem.rec (motive := fun _ => Res) (fun c => zvw D P cx n σ c k cs M) (fun _ => cGo cx n σ cs M k) (fun c => cGo cx n σ cs M (.code c :: .inLoop c :: k)) (fun _ => cGo cx n σ cs M k) (fun all l => opL I P cx n all k cs l σ M)
  (zoj cx n σ k cs M) (fun _ => .bad) (fun l => zym cx n σ l k cs M) (fun _ _ => .bad) it
noncomputable def zzk (I D : Jg) (P : Program) (f : zdd) (cs : List zdd) (M : Mem) : Res :=
 zdd.rec (fun cx n σ todo => List.rec (zvo P cx none σ cs M) (fun it k _ => zzg I D P cx n σ cs M it k) todo) f

/- WHAT STANDS FOR WHAT -/

def ztb (m : Map) : Option Pos → Option Nat → Prop
 | none, none => True
 | some l, some r => ∃ p, m l = some p ∧ p.block = r
 | _, _ => False

structure zme (m : Map) (s : SCx) (c : Cx) : Prop where
 fn : c.fn = s.fn
 ds : ze1 (fun b (d : Deferred) => ∃ p, m b = some p ∧ d = { target := .collected p.block, args := #[] }) s.ds c.ds
 rd : ztb m s.rd c.rd

theorem ztb.ext {m m' : Map} (h : Ext m m') {a : Option Pos} {b : Option Nat} (hr : ztb m a b) : ztb m' a b := by
 cases a <;> cases b <;> simp only [ztb] at hr ⊢
 obtain ⟨p, h1, h2⟩ := hr
 exact ⟨p, h _ _ h1, h2⟩

theorem zme.ext {m m' : Map} (h : Ext m m') {s : SCx} {c : Cx} (hr : zme m s c) : zme m' s c :=
 ⟨hr.fn, ze1.mono (fun _ _ ⟨p, h1, h2⟩ => ⟨p, h _ _ h1, h2⟩) hr.ds, hr.rd.ext h⟩

def zfv (m : Map) : SItem → Item → Prop
 | .code c, .code d => c = d
 | .inBlock i, .inBlock j => i = j
 | .inLoop c, .inLoop d => c = d
 | .inScope c, .inScope d => c = d
 | .ops all rem, .inRegion ops is => all = ops ∧ ∃ i, rem = all.toList.drop i ∧ is = (List.range all.size).drop i
 | .beginRound, .beginRound => True
 | .inRange l, .inRangeFunc r => ∃ p, m l = some p ∧ p.block = r
 | .endRange l, .endRangeFunc r => ∃ p, m l = some p ∧ p.block = r
 | .late all i, .inRegion ops is => all = ops ∧ Yj all ∧ ∃ S, Vd all S is ∧ (∀ k, k ∈ S ↔ k < i) ∧ ∀ k ∈ S, ∀ l, Kc all l k → l ∈ S
 | _, _ => False

theorem zfv.ext {m m' : Map} (h : Ext m m') {s : SItem} {i : Item} (hr : zfv m s i) : zfv m' s i := by
 cases s <;> cases i <;> simp only [zfv] at hr ⊢ <;> first | exact hr | (obtain ⟨p, h1, h2⟩ := hr; exact ⟨p, h _ _ h1, h2⟩)

def zfu (m : Map) : zdd → Frame → Prop
 | .mk cx n σ k, fr => ∃ c tm todo, fr = mkF c tm todo ∧ zme m cx c ∧ zfg m σ tm ∧ tm.size = n ∧ ze1 (zfv m) k todo

theorem zfu.ext {m m' : Map} (h : Ext m m') {f : zdd} {fr : Frame} (hr : zfu m f fr) : zfu m' f fr := by
 cases f with
 | mk cx n σ k =>
  obtain ⟨c, tm, todo, rfl, hc, ht, hn, hk⟩ := hr
  exact ⟨c, tm, todo, rfl, hc.ext h, ht.ext h, hn, ze1.mono (fun _ _ => zfv.ext h) hk⟩

theorem zrg {m : Map} {id : Nat} : ∀ {k : List SItem} {t : List Item}, ze1 (zfv m) k t → match zhb id k with
  | some k' => ∃ t', exitTo id t = some t' ∧ ze1 (zfv m) k' t'
  | none => exitTo id t = none
 | [], _, .nil => by
  show exitTo id [] = none
  simp [exitTo]
 | x :: k, _, .cons (b := y) (k := l) hx hk => by
  have ih := zrg (id := id) hk
  have eqv : zhb id (x :: k) = SItem.rec (motive := fun _ => Option (List SItem)) (fun _ => zhb id k) (fun i => Bool.rec (zhb id k) (some k) (Nat.beq i id)) (fun _ => zhb id k) (fun _ => zhb id k) (fun _ _ => zhb id k) (zhb id k) (fun _ => zhb id k) (fun _ => zhb id k) (fun _ _ => zhb id k) x := rfl
  cases x with
  | inBlock i =>
   cases y <;> simp only [zfv] at hx
   subst hx
   have eqv' : zhb id (.inBlock i :: k) = Bool.rec (motive := fun _ => Option (List SItem)) (zhb id k) (some k) (Nat.beq i id) := rfl
   rw [eqv']
   cases hb : Nat.beq i id with
   | true =>
    have := Nat.eq_of_beq_eq_true hb
    subst this
    exact ⟨l, by simp [exitTo], hk⟩
   | false =>
    have hne : (i == id) = false := by
     rw [beq_eq_false_iff_ne]
     intro e; subst e; simp at hb
    show match zhb id k with
     | some k' => ∃ t', exitTo id (.inBlock i :: l) = some t' ∧ ze1 (zfv m) k' t'
     | none => exitTo id (.inBlock i :: l) = none
    rw [show exitTo id (.inBlock i :: l) = exitTo id l by simp [exitTo, hne]]
    exact ih
  | _ =>
   cases y <;> simp only [zfv] at hx
   all_goals
    show match zhb id k with
     | some k' => ∃ t', exitTo id (_ :: l) = some t' ∧ ze1 (zfv m) k' t'
     | none => exitTo id (_ :: l) = none
    simp only [exitTo]
    exact ih

end Go.Ev

/- Loops over functions: what their steps do to memory. -/
namespace Go.Ev
open Go.RowKit
variable {P : Program} {I D : Jg}

section
variable {B : Nat} {m : Map} {M : Mem} {w : World}

theorem zk2 {r : Nat} (o : Obj) (h : B ≤ r) : Below B w (w.putObj r o) :=
 ⟨rfl, rfl, rfl, by simp, fun k hk => World.putObj_heap_other (by omega)⟩

theorem zg0 {l : Pos} {L : Vo} (h : zjo M l = some L) : zk7 M l = some L ∧ M.floor ≤ l.num := by
 unfold zjo at h
 split at h
 ·rename_i ha; exact ⟨h, zhw ha⟩
 ·simp at h

theorem znn (hr : MRel B m M w) {l : Pos} {p : Pl} {L : Vo} (hL : zjo M l = some L) (hp : m l = some p) {L' : Vo} {R' : Loop} (hrel : zks m L' R') :
  zdc B m M w m ⟨M.t.put (some (.loop L')) l, M.next, M.floor⟩ (w.putObj p.block (.loop R')) :=
 zdc.update hr l _ _ p (zlh (zg0 hL).1) rfl hp (fun k hk => World.putObj_heap_other hk) (zk2 _ (hr.low _ _ _ (zlh (zg0 hL).1) rfl hp)) rfl
  ⟨R', World.putObj_heap_same (hr.bound _ _ hp), hrel⟩ (zg0 hL).2

/-- What lies under a name is no longer looked at. -/
theorem zdc.erase (hr : MRel B m M w) {w' : World} (b : Pos) (x : SObj) (p : Pl) (hx : M.t.get b = some x) (hown : x.own = true) (hp : m b = some p)
  (hold : ∀ k, k ≠ p.block → w'.heap[k]? = w.heap[k]?) (hb : Below B w w') (hfl : M.floor ≤ b.num) : zdc B m M w m ⟨M.t.put none b, M.next, M.floor⟩ w' := by
 have f : ∀ {c y}, Tree.get c (M.t.put none b) = some y → b ≠ c ∧ M.t.get c = some y := by
  intro c y h
  by_cases hb : b = c
  ·subst hb; simp only [Tree.get_put_same] at h; simp at h
  ·simp only [Tree.get_put_other _ _ hb] at h; exact ⟨hb, h⟩
 refine ⟨⟨?_, ?_, ?_, ?_, ?_, Nat.le_trans hr.base hb.size, ?_, hr.flo⟩, fun _ _ => rfl, ?_, Nat.le_refl _, hb, ?_, ?_, ?_, rfl, fun c y hy => (f hy).2, fun c q hc hq _ => absurd hq (by rw [(hr.fresh c hc).1]; simp)⟩
 ·intro c y q hy hq
  obtain ⟨h1, h2⟩ := f hy
  have hne : q.block ≠ p.block := fun he => h1 (hr.inj b c x y p q hx h2 (.inl hown) hp hq he.symm)
  rw [hold _ hne]
  exact hr.objs c y q h2 hq
 ·intro c c' y y' q q' hy hy' how hq hq' he
  exact hr.inj c c' y y' q q' (f hy).2 (f hy').2 how hq hq' he
 ·intro c hc
  have hc' : M.next.num ≤ c.num := hc
  refine ⟨(hr.fresh c hc').1, ?_⟩
  by_cases h : b = c
  ·subst h; exact Tree.get_put_same _ _ _
  ·simp only [Tree.get_put_other _ _ h]; exact (hr.fresh c hc').2
 ·intro c q hq
  have := hr.bound c q hq
  have := hb.size
  omega
 ·intro c y q hy hyo hq
  exact hr.low c y q (f hy).2 hyo hq
 ·intro c y hy
  exact hr.glob c y (f hy).2
 ·intro c hc hm
  have hne : b ≠ c := by intro h; subst h; rw [hp] at hm; exact absurd hm (by simp)
  simp only [Tree.get_put_other _ _ hne]
 ·intro k _ hk
  exact hold k fun e => hk ⟨b, x, p, hx, hown, hp, e.symm⟩
 ·rintro k _ ⟨c, y, q, hy, hyo, hq, rfl⟩
  exact ⟨c, y, q, (f hy).2, hyo, hq, rfl⟩
 ·intro c hc
  have hne : b ≠ c := by intro h; subst h; omega
  simp only [Tree.get_put_other _ _ hne]

/-- A new block. -/
theorem zdc.lay (hr : MRel B m M w) (o : SObj) (x : Obj) (hown : o.own = true) (ho : ∀ m', Ext m m' → zg1 m' ⟨w.heap.size, 0, 0⟩ o (some x)) :
  zdc B m M w (fun b => if b = M.next then some ⟨w.heap.size, 0, 0⟩ else m b) ⟨M.t.put (some o) M.next, M.next.succ, M.floor⟩ (w.alloc x) := by
 have hnew := World.alloc_heap_new w x
 refine zdc.fresh hr M.t ⟨w.heap.size, 0, 0⟩ o (fun _ _ h => h) (fun _ _ _ => rfl) (fun _ _ => rfl) (fun b y q hy hq => ?_) (Below.alloc (Below.refl _ _) hr.base _) (by show _ < (w.heap.push x).size; simp) hr.base hown (fun m' hm' => by rw [hnew]; exact ho m' hm')
  (fun k hk _ => Below.heap_alloc _ _ _ hk) (fun h => absurd h (by simp))
 have hlt := hr.bound b q hq
 exact ⟨by show q.block ≠ w.heap.size; omega, Below.heap_alloc _ _ _ hlt⟩

theorem zdc.laid (hr : MRel B m M w) (o : SObj) (x : Obj) (hown : o.own = true) (ho : ∀ m', Ext m m' → zg1 m' ⟨w.heap.size, 0, 0⟩ o (some x)) :
  ∃ m', zdc B m M w m' ⟨M.t.put (some o) M.next, M.next.succ, M.floor⟩ (w.alloc x) ∧ m' M.next = some ⟨w.heap.size, 0, 0⟩ := ⟨_, zdc.lay hr o x hown ho, by simp⟩

/-- The blocks for rounds' deferred calls are shut. -/
theorem zmy : ∀ {ds : List Pos} {M M' : Mem} {w : World} {cds : List Deferred}, MRel B m M w → zkd ds M = some M' →
  ze1 (fun b (d : Deferred) => ∃ p, m b = some p ∧ d = { target := .collected p.block, args := #[] }) ds cds →
  ∀ (fr : Frame) (fs : List Frame), fr.mode = .returning → fr.defers = cds → ∃ w', Steps P (lone fr fs w) (lone { fr with defers := [] } fs w') ∧ zdc B m M w m M' w'
 | [], M, M', w, _, hr, h, .nil, fr, fs, hm, hd => by
  simp only [zkd, Option.some.injEq] at h
  subst h
  refine ⟨w, ?_, .refl hr⟩
  rw [show ({ fr with defers := [] } : Frame) = fr by cases fr; simp_all]
  exact .refl _ _
 | b :: ds, M, M', w, _, hr, h, .cons (b := d) (k := cds) ⟨p, hp, hdd⟩ hds, fr, fs, hm, hd => by
  simp only [zkd] at h
  split at h
  ·rename_i hb
   have hab : above M b = true := by
    cases hh : above M b with
    | true => rfl
    | false => rw [hh] at h; simp at h
   rw [hab] at h
   simp only at h
   have hobj : w.heap[p.block]? = some (.deferred (some [])) := hr.objs b _ p hb hp
   have htake := run_takeDeferred (P := P) hobj
   have hs := step_collected (P := P) (cs := fs) (by rw [hm]; simp) hd (by rw [hdd]) htake
   have hst : zdc B m M w m ⟨M.t.put none b, M.next, M.floor⟩ (w.putObj p.block (.deferred none)) :=
    zdc.erase hr b _ p hb rfl hp (fun k hk => World.putObj_heap_other hk) (zk2 _ (hr.low _ _ _ hb rfl hp)) (zhw hab)
   obtain ⟨w', h1, h2⟩ := zmy hst.rel h hds { fr with defers := [] ++ cds } fs hm rfl
   exact ⟨w', .head hs h1, hst.trans h2⟩
  ·simp at h

/-- A loop's parameters. -/
theorem zpd {n : Nat} : ∀ {ts : List Tmp} {l : List SV} {vs : List Value} {σ σ' : Tree SV} {tm : Array Value}, zqk n ts l σ = some σ' → concs m l = some vs → zfg m σ tm → tm.size = n →
  zfg m σ' ((ts.zip vs).foldl (fun tmps (t, a) => tmps.setIfInBounds t a) tm) ∧ ((ts.zip vs).foldl (fun tmps (t, a) => tmps.setIfInBounds t a) tm).size = n
 | [], [], vs, σ, σ', tm, h, hv, ht, hn => by
  simp only [zqk, Option.some.injEq] at h
  subst h
  exact ⟨ht, hn⟩
 | t :: ts, s :: l, vs, σ, σ', tm, h, hv, ht, hn => by
  obtain ⟨v, r, h1, h2, rfl⟩ := zdf hv
  simp only [zqk] at h
  split at h
  ·rename_i hb
   have := Nat.le_of_ble_eq_true hb
   have q := zpd (tm := tm.setIfInBounds t v) h h2 (ht.put (by omega) h1) (by simpa using hn)
   exact q
  ·simp at h
 | [], _ :: _, vs, σ, σ', tm, h, hv, ht, hn => by simp [zqk] at h
 | _ :: _, [], vs, σ, σ', tm, h, hv, ht, hn => by simp [zqk] at h

end
end Go.Ev

