/- The small machine. -/
import Derived.Test.YtpebjkgogohhpaaGreatDoorEvV26
namespace Go.Ev
open Go.RowKit
variable {P : Program}

inductive SItem where
  | code (c : Code)
  | inBlock (id : Nat)
  | inLoop (c : Code)
  | inScope (c : Code)
  | ops (all : Array Oper) (rem : List Oper)
  | beginRound
  | inRange (l : Pos)
  | endRange (l : Pos)

/-- Whose frame it is; the blocks for rounds' deferred calls that it has laid; the loop that it is a round of. -/
structure SCx where
  fn : FuncId
  ds : List Pos
  rd : Option Pos

inductive SFrame where
  | mk (cx : SCx) (n : Nat) (tmps : Tree SV) (todo : List SItem)

inductive Res where
  | bad
  | go (f : SFrame) (cs : List SFrame) (M : Mem)
  | done (v : SV) (M : Mem)

noncomputable def exitS (id : Nat) (k : List SItem) : Option (List SItem) :=
  List.rec none (fun x k ih => SItem.rec (fun _ => ih) (fun i => Bool.rec ih (some k) (Nat.beq i id)) (fun _ => ih) (fun _ => ih) (fun _ _ => ih) ih (fun _ => ih) (fun _ => ih) x) k

noncomputable def resS (M : Mem) (P : Program) (σ : Tree SV) : List ResultVar → Option (List SV)
  | [] => some []
  | .tmp t :: l => match σ.get (Pos.ofNat t) with
    | none => none
    | some s => match resS M P σ l with
      | none => none
      | some r => some (s :: r)
  | .cell a t :: l => match σ.get (Pos.ofNat a) with
    | none => none
    | some s => match xLoad P t s M with
      | .val s _ => match resS M P σ l with
        | none => none
        | some r => some (s :: r)
      | _ => none

noncomputable def oneOf (l : List SV) : SV := match l with
  | [s] => s
  | l => .tuple l

/-- The frame that called goes on with v. -/
noncomputable def finishC (v : SV) (cs : List SFrame) (M : Mem) : Res :=
  match cs with
  | .mk cx n σ (.ops all (o :: r) :: k) :: cs => match putD σ n o.dst v with
    | some σ => .go (.mk cx n σ (.ops all r :: k)) cs M
    | none => .bad
  | .mk cx n σ (.inRange l :: k) :: cs => .go (.mk cx n σ (.endRange l :: k)) cs M
  | _ => .bad
noncomputable def finishS (v : SV) (cs : List SFrame) (M : Mem) : Res :=
  match cs with
  | [] => .done v M
  | c :: cs => finishC v (c :: cs) M

/-- The blocks for rounds' deferred calls are shut. -/
noncomputable def shutS : List Pos → Mem → Option Mem
  | [], M => some M
  | b :: ds, M => match M.t.get b with
    | some .defd => match above M b with
      | true => shutS ds ⟨M.t.put none b, M.next, M.floor⟩
      | false => none
    | _ => none

noncomputable def loopOwn (M : Mem) (l : Pos) : Option LoopS := match above M l with
  | true => loopOf M l
  | false => none

/-- A round ends. -/
noncomputable def roundEnd (l : Pos) (jump : Option Code) (cs : List SFrame) (M : Mem) : Res :=
  match loopOwn M l with
  | none => .bad
  | some L => finishC (.bool jump.isNone) cs ⟨M.t.put (some (.loop { L with st := if jump.isNone then .ready else .done, pend := jump })) l, M.next, M.floor⟩

noncomputable def retS (P : Program) (cx : SCx) (jump : Option Code) (σ : Tree SV) (cs : List SFrame) (M : Mem) : Res :=
  match cx.rd with
  | some l => roundEnd l jump cs M
  | none => match P.funcs[cx.fn]? with
    | none => .bad
    | some F => match shutS cx.ds M with
      | none => .bad
      | some M => match resS M P σ F.results.toList with
        | none => .bad
        | some l => finishS (oneOf l) cs M

noncomputable def putArgs (i : Nat) (σ : Tree SV) : List SV → Tree SV
  | [] => σ
  | s :: l => putArgs (Nat.succ i) (σ.put (some s) (Pos.ofNat i)) l

noncomputable def enterS (P : Program) (f : FuncId) (as : List SV) : Option SFrame :=
  match P.funcs[f]? with
  | none => none
  | some F => match F.body, Nat.ble (len as) F.ntmps with
    | some c, true => some (.mk ⟨f, [], none⟩ F.ntmps (putArgs 0 .leaf as) [.code c])
    | _, _ => none

noncomputable def putPs (n : Nat) : List Tmp → List SV → Tree SV → Option (Tree SV)
  | t :: ts, s :: l, σ => match Nat.ble (Nat.succ t) n with
    | true => putPs n ts l (σ.put (some s) (Pos.ofNat t))
    | false => none
  | [], [], σ => some σ
  | _, _, _ => none

/-- A round begins. -/
noncomputable def roundS (l : Pos) (as : List SV) (c : SFrame) (cs : List SFrame) (M : Mem) : Res :=
  match loopOf M l with
  | none => .bad
  | some L => match putPs L.n L.ps as L.tmps with
    | none => .bad
    | some σ => .go (.mk ⟨L.fn, [], some l⟩ L.n σ [.code L.assign, .beginRound, .code L.body]) (c :: cs) M

noncomputable def opS (I : Known) (P : Program) (cx : SCx) (n : Nat) (σ : Tree SV) (all : Array Oper) (o : Oper) (r : List Oper) (k : List SItem) (cs : List SFrame) (M : Mem) : Res :=
  match wantS all σ o with
  | none => .bad
  | some false => match putD σ n o.dst (.tuple []) with
    | some σ => .go (.mk cx n σ (.ops all r :: k)) cs M
    | none => .bad
  | some true => match exec P M σ o with
    | .bad => .bad
    | .val v M => match putD σ n o.dst v with
      | some σ => .go (.mk cx n σ (.ops all r :: k)) cs M
      | none => .bad
    | .enter f as M => match I f as M with
      | some (v, M) => match putD σ n o.dst v with
        | some σ => .go (.mk cx n σ (.ops all r :: k)) cs M
        | none => .bad
      | none => match enterS P f as with
        | some g => .go g (.mk cx n σ (.ops all (o :: r) :: k) :: cs) M
        | none => .bad
    | .round l as M => roundS l as (.mk cx n σ (.ops all (o :: r) :: k)) cs M

/-- A loop over a function begins. -/
noncomputable def rangeS (P : Program) (cx : SCx) (n : Nat) (σ : Tree SV) (g : Operand) (ps : Array Tmp) (assign body : Code) (k : List SItem) (cs : List SFrame) (M : Mem) : Res :=
  match arg M σ g with
  | some (.fn (.func gf) first captured) => match callable P gf with
    | false => .bad
    | true => match cx.rd with
      | none => match enterS P gf (app (app first [.yield M.next.succ]) captured) with
        | none => .bad
        | some f => .go f (.mk ⟨cx.fn, M.next :: cx.ds, none⟩ n σ (.inRange M.next.succ :: k) :: cs)
          ⟨(M.t.put (some .defd) M.next).put (some (.loop ⟨.ready, none, cx.fn, n, σ, ps.toList, assign, body, M.next⟩)) M.next.succ, M.next.succ.succ, M.floor⟩
      | some l0 => match loopOf M l0 with
        | none => .bad
        | some L0 => match enterS P gf (app (app first [.yield M.next]) captured) with
          | none => .bad
          | some f => .go f (.mk cx n σ (.inRange M.next :: k) :: cs)
            ⟨M.t.put (some (.loop ⟨.ready, none, cx.fn, n, σ, ps.toList, assign, body, L0.df⟩)) M.next, M.next.succ, M.floor⟩
  | _ => .bad

/-- The function that was ranged over has returned. -/
noncomputable def endS (cx : SCx) (n : Nat) (σ : Tree SV) (l : Pos) (k : List SItem) (cs : List SFrame) (M : Mem) : Res :=
  match loopOwn M l with
  | none => .bad
  | some L => match L.st with
    | .busy => .bad
    | _ => .go (.mk cx n σ (match L.pend with | none => k | some c => .code c :: k)) cs ⟨M.t.put (some (.loop { L with st := .exhausted })) l, M.next, M.floor⟩

noncomputable def beginS (cx : SCx) (n : Nat) (σ : Tree SV) (k : List SItem) (cs : List SFrame) (M : Mem) : Res :=
  match cx.rd with
  | none => .bad
  | some l => match loopOwn M l with
    | none => .bad
    | some L => match L.st with
      | .ready => .go (.mk cx n σ k) cs ⟨M.t.put (some (.loop { L with st := .busy })) l, M.next, M.floor⟩
      | _ => .bad

/-- A plan of a region that draws. -/
def antiB (ops : Array Oper) (ms : List Nat) (i : Nat) : Bool := match ops[i]? with
  | none => true
  | some o => (List.range ops.size).any fun r => !Nat.beq r i && befB ms r i && (match ops[r]? with
    | none => false
    | some p => inter (readsOf ops p) o.dst)
def readyB (ops : Array Oper) (E : List Nat) (i : Nat) : Bool := match ops[i]? with
  | none => false
  | some o => !hasN E i && (predsOf o).all (hasN E)
noncomputable def mkPlan (P : Program) (ops : Array Oper) (ms : List Nat) : Nat → Bool → List Nat → List Nat → List PE
  | 0, _, _, _ => []
  | f + 1, late, E, Q =>
    match (List.range ops.size).find? (fun i => readyB ops E i && (match ops[i]? with | none => false | some o => floatOp P o.op) && (late || !antiB ops ms i)) with
    | some i => .fl i :: mkPlan P ops ms f late (i :: E) (i :: Q)
    | none => match (List.range ops.size).filter (readyB ops E) with
      | [i] => .an i (Q.filter fun q => !befB ms q i) :: mkPlan P ops ms f late (i :: E) (Q.filter fun q => !befB ms q i)
      | _ => match late with
        | true => []
        | false => .sync :: mkPlan P ops ms f true E []
noncomputable def planOf (P : Program) (ops : Array Oper) : Option (List PE) :=
  match forward ops && validP P ops (masks ops.toList) (mkPlan P ops (masks ops.toList) (2 * ops.size + 2) false [] []) [] [] with
  | true => some (mkPlan P ops (masks ops.toList) (2 * ops.size + 2) false [] [])
  | false => none

def tailN (ms : List Nat) : Nat → Nat
  | 0 => 0
  | i + 1 => match (List.range i).all (fun k => befB ms k i) with
    | true => tailN ms i
    | false => i + 1
def tailOK (ops : Array Oper) (ms : List Nat) (N : Nat) : Bool := Nat.ble N ops.size && (List.range ops.size).all fun i => Nat.blt i N || (List.range i).all fun k => befB ms k i

/-- The number of the pure operations, if the region is such. -/
noncomputable def pureP (ops : Array Oper) : Option Nat :=
  match forward ops && pureOK ops (masks ops.toList) && tailOK ops (masks ops.toList) (tailN (masks ops.toList) ops.size) with
  | true => some (tailN (masks ops.toList) ops.size)
  | false => none
theorem pureP_ok {ops : Array Oper} {N : Nat} (h : pureP ops = some N) : forward ops = true ∧ PureOK ops ∧ N ≤ ops.size ∧ ∀ i, N ≤ i → i < ops.size → ∀ k, k < i → Before ops k i := by
  unfold pureP at h
  split at h
  · rename_i hb
    simp only [Option.some.injEq] at h
    rw [h] at hb
    rw [Bool.and_eq_true, Bool.and_eq_true] at hb
    obtain ⟨⟨h1, h2⟩, h3⟩ := hb
    unfold tailOK at h3
    rw [Bool.and_eq_true, List.all_eq_true] at h3
    refine ⟨h1, pureOK_ok h2, Nat.le_of_ble_eq_true h3.1, fun i hi hi' k hk => ?_⟩
    have := h3.2 i (List.mem_range.2 hi')
    rw [Bool.or_eq_true, List.all_eq_true] at this
    rcases this with e | e
    · have := Nat.lt_of_succ_le (Nat.le_of_ble_eq_true e)
      omega
    · exact befB_before hi' (e k (List.mem_range.2 hk))
  · simp at h

theorem planOf_ok {ops : Array Oper} {plan : List PE} (h : planOf P ops = some plan) : forward ops = true ∧ validP P ops (masks ops.toList) plan [] [] = true := by
  unfold planOf at h
  split at h
  · rename_i hb
    simp only [Option.some.injEq] at h
    subst h
    simpa using hb
  · simp at h

noncomputable def codeS (D : Known) (P : Program) (cx : SCx) (n : Nat) (σ : Tree SV) (c : Code) (k : List SItem) (cs : List SFrame) (M : Mem) : Res :=
  match c with
  | .skip => .go (.mk cx n σ k) cs M
  | .label _ => .go (.mk cx n σ k) cs M
  | .seq a b => .go (.mk cx n σ (.code a :: .code b :: k)) cs M
  | .cond x a b => match arg M σ x with
    | some (.bool true) => .go (.mk cx n σ (.code a :: k)) cs M
    | some (.bool false) => .go (.mk cx n σ (.code b :: k)) cs M
    | _ => .bad
  | .block id c => .go (.mk cx n σ (.code c :: .inBlock id :: k)) cs M
  | .loop c => .go (.mk cx n σ (.code c :: .inLoop c :: k)) cs M
  | .scope c => .go (.mk cx n σ (.code c :: .inScope c :: k)) cs M
  | .exit id => match exitS id k with
    | some k => .go (.mk cx n σ k) cs M
    | none => match cx.rd with
      | none => .bad
      | some l => roundEnd l (some (.exit id)) cs M
  | .ret => retS P cx (some .ret) σ cs M
  | .rangeFunc g ps assign body => rangeS P cx n σ g ps assign body k cs M
  | .region _ ops false => .go (.mk cx n σ (.ops ops ops.toList :: k)) cs M
  | .region _ ops true => match planOf P ops with
    | some plan => match drawS D P n ops plan σ M with
      | some (σ, M) => .go (.mk cx n σ k) cs M
      | none => .bad
    | none => match pureP ops with
      | some N => match pureS D P n ops (ops.toList.take N) σ M with
        | some (σ, M1) => match seqS D P n ops (ops.toList.drop N) σ (unlift M.floor M1) with
          | some (σ, M) => .go (.mk cx n σ k) cs M
          | none => .bad
        | none => .bad
      | none => .bad
  | _ => .bad

noncomputable def stepS (I D : Known) (P : Program) (f : SFrame) (cs : List SFrame) (M : Mem) : Res :=
  match f with
  | .mk cx n σ todo => match todo with
    | [] => retS P cx none σ cs M
    | .code c :: k => codeS D P cx n σ c k cs M
    | .inBlock _ :: k => .go (.mk cx n σ k) cs M
    | .inScope _ :: k => .go (.mk cx n σ k) cs M
    | .inLoop c :: k => .go (.mk cx n σ (.code c :: .inLoop c :: k)) cs M
    | .beginRound :: k => beginS cx n σ k cs M
    | .inRange _ :: _ => .bad
    | .endRange l :: k => endS cx n σ l k cs M
    | .ops _ [] :: k => .go (.mk cx n σ k) cs M
    | .ops all (o :: r) :: k => opS I P cx n σ all o r k cs M

/-- 2^k steps. -/
noncomputable def runS (I D : Known) (P : Program) (k : Nat) : SFrame → List SFrame → Mem → Res :=
  Nat.rec (fun f cs M => stepS I D P f cs M) (fun _ ih f cs M => Res.rec .bad (fun f cs M => ih f cs M) (fun v M => .done v M) (ih f cs M)) k

theorem runS_succ (I D : Known) (k : Nat) (f : SFrame) (cs : List SFrame) (M : Mem) :
    runS I D P (k + 1) f cs M = match runS I D P k f cs M with | .bad => .bad | .go f cs M => runS I D P k f cs M | .done v M => .done v M := by
  show Res.rec (motive := fun _ => Res) .bad (fun f cs M => runS I D P k f cs M) (fun v M => .done v M) (runS I D P k f cs M) = _
  cases runS I D P k f cs M <;> rfl

/- WHAT STANDS FOR WHAT -/

def RdRel (m : Map) : Option Pos → Option Nat → Prop
  | none, none => True
  | some l, some r => ∃ p, m l = some p ∧ p.block = r
  | _, _ => False

structure CxRel (m : Map) (s : SCx) (c : Cx) : Prop where
  fn : c.fn = s.fn
  ds : All2 (fun b (d : Deferred) => ∃ p, m b = some p ∧ d = { target := .collected p.block, args := #[] }) s.ds c.ds
  rd : RdRel m s.rd c.rd

theorem RdRel.ext {m m' : Map} (h : Ext m m') {a : Option Pos} {b : Option Nat} (hr : RdRel m a b) : RdRel m' a b := by
  cases a <;> cases b <;> simp only [RdRel] at hr ⊢
  obtain ⟨p, h1, h2⟩ := hr
  exact ⟨p, h _ _ h1, h2⟩

theorem CxRel.ext {m m' : Map} (h : Ext m m') {s : SCx} {c : Cx} (hr : CxRel m s c) : CxRel m' s c :=
  ⟨hr.fn, All2.mono (fun _ _ ⟨p, h1, h2⟩ => ⟨p, h _ _ h1, h2⟩) hr.ds, hr.rd.ext h⟩

def IRel (m : Map) : SItem → Item → Prop
  | .code c, .code d => c = d
  | .inBlock i, .inBlock j => i = j
  | .inLoop c, .inLoop d => c = d
  | .inScope c, .inScope d => c = d
  | .ops all rem, .inRegion ops is => all = ops ∧ ∃ i, rem = all.toList.drop i ∧ is = (List.range all.size).drop i
  | .beginRound, .beginRound => True
  | .inRange l, .inRangeFunc r => ∃ p, m l = some p ∧ p.block = r
  | .endRange l, .endRangeFunc r => ∃ p, m l = some p ∧ p.block = r
  | _, _ => False

theorem IRel.ext {m m' : Map} (h : Ext m m') {s : SItem} {i : Item} (hr : IRel m s i) : IRel m' s i := by
  cases s <;> cases i <;> simp only [IRel] at hr ⊢ <;> first | exact hr | (obtain ⟨p, h1, h2⟩ := hr; exact ⟨p, h _ _ h1, h2⟩)

def FRel (m : Map) : SFrame → Frame → Prop
  | .mk cx n σ k, fr => ∃ c tm todo, fr = mkF c tm todo ∧ CxRel m cx c ∧ TRel m σ tm ∧ tm.size = n ∧ All2 (IRel m) k todo

theorem FRel.ext {m m' : Map} (h : Ext m m') {f : SFrame} {fr : Frame} (hr : FRel m f fr) : FRel m' f fr := by
  cases f with
  | mk cx n σ k =>
    obtain ⟨c, tm, todo, rfl, hc, ht, hn, hk⟩ := hr
    exact ⟨c, tm, todo, rfl, hc.ext h, ht.ext h, hn, All2.mono (fun _ _ => IRel.ext h) hk⟩

theorem All2.length {α β : Type} {R : α → β → Prop} : ∀ {l : List α} {k : List β}, All2 R l k → l.length = k.length
  | _, _, .nil => rfl
  | _, _, .cons _ h => by simp [All2.length h]

theorem exitS_to {m : Map} {id : Nat} : ∀ {k : List SItem} {t : List Item}, All2 (IRel m) k t → match exitS id k with
    | some k' => ∃ t', exitTo id t = some t' ∧ All2 (IRel m) k' t'
    | none => exitTo id t = none
  | [], _, .nil => by
    show exitTo id [] = none
    simp [exitTo]
  | x :: k, _, .cons (b := y) (k := l) hx hk => by
    have ih := exitS_to (id := id) hk
    have eqv : exitS id (x :: k) = SItem.rec (motive := fun _ => Option (List SItem)) (fun _ => exitS id k) (fun i => Bool.rec (exitS id k) (some k) (Nat.beq i id)) (fun _ => exitS id k) (fun _ => exitS id k) (fun _ _ => exitS id k) (exitS id k) (fun _ => exitS id k) (fun _ => exitS id k) x := rfl
    cases x with
    | inBlock i =>
      cases y <;> simp only [IRel] at hx
      subst hx
      have eqv' : exitS id (.inBlock i :: k) = Bool.rec (motive := fun _ => Option (List SItem)) (exitS id k) (some k) (Nat.beq i id) := rfl
      rw [eqv']
      cases hb : Nat.beq i id with
      | true =>
        have := Nat.eq_of_beq_eq_true hb
        subst this
        exact ⟨l, by simp [exitTo], hk⟩
      | false =>
        have hne : (i == id) = false := by
          rw [beq_eq_false_iff_ne]
          intro e; subst e; simp at hb
        show match exitS id k with
          | some k' => ∃ t', exitTo id (.inBlock i :: l) = some t' ∧ All2 (IRel m) k' t'
          | none => exitTo id (.inBlock i :: l) = none
        rw [show exitTo id (.inBlock i :: l) = exitTo id l by simp [exitTo, hne]]
        exact ih
    | _ =>
      cases y <;> simp only [IRel] at hx
      all_goals
        show match exitS id k with
          | some k' => ∃ t', exitTo id (_ :: l) = some t' ∧ All2 (IRel m) k' t'
          | none => exitTo id (_ :: l) = none
        simp only [exitTo]
        exact ih

end Go.Ev
