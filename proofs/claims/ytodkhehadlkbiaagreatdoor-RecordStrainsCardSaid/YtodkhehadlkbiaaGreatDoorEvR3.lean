/- A part of the small machine. -/
import Derived.Test.YtodkhehadlkbiaaGreatDoorEvW12
/- The small machine as a logic: what a function's frame comes to, operation by operation, from what is known of its temporaries and of memory. -/
namespace Go.Ev
open Go.RowKit
variable {P : Program}

theorem beq_ne {u t : Nat} (h : ¬ u = t) : Nat.beq u t = false := by
  cases hb : Nat.beq u t with
  | false => rfl
  | true => exact absurd (Nat.eq_of_beq_eq_true hb) h

/-- What is known of the temporaries. -/
abbrev Env := List (Nat × SV)
def lk (t : Nat) : Env → Option SV
  | [] => none
  | (u, s) :: r => bif Nat.beq u t then some s else lk t r
noncomputable def treeOf : Env → Tree SV
  | [] => .leaf
  | (u, s) :: r => (treeOf r).put (some s) (Pos.ofNat u)

theorem treeOf_get (t : Nat) : ∀ e : Env, (treeOf e).get (Pos.ofNat t) = lk t e
  | [] => Tree.get_leaf _
  | (u, s) :: r => by
    by_cases h : u = t
    · subst h
      simp [treeOf, lk, Tree.get_put_same]
    · have hb : Nat.beq u t = false := beq_ne h
      rw [treeOf, Tree.get_put_other _ _ (fun e => h (Pos.ofNat_inj e)), treeOf_get t r]
      simp [lk, hb]

/-- What becomes of memory in a stretch of a run. -/
structure Led (B : Nat) (m : Map) (M : Mem) (w : World) (m' : Map) (M' : Mem) (w' : World) : Prop where
  rel : MRel B m' M' w'
  same : ∀ b, b.num < M.next.num → m' b = m b
  next : M.next.num ≤ M'.next.num
  below : Below B w w'
  under : ∀ b o, b.num < M.floor → M'.t.get b = some o → M.t.get b = some o
  floor : M'.floor = M.floor
  born : ∀ k, k < w.heap.size → Owned m' M' k → Owned m M k
  news : ∀ b p, M.next.num ≤ b.num → m' b = some p → p.block < w.heap.size → Owned m M p.block

theorem Stepped.led {B m M w m' M' w'} (h : Stepped B m M w m' M' w') : Led B m M w m' M' w' :=
  ⟨h.rel, h.same, h.next, h.below, fun b o hb ho => by rw [← h.under b hb]; exact ho, h.floor, h.born, h.news⟩
theorem Led.refl {B m M w} (hr : MRel B m M w) : Led B m M w m M w := (Stepped.refl hr).led
theorem Led.trans {B m M w m1 M1 w1 m2 M2 w2} (h1 : Led B m M w m1 M1 w1) (h2 : Led B m1 M1 w1 m2 M2 w2) : Led B m M w m2 M2 w2 := by
  refine ⟨h2.rel, fun b hb => ?_, Nat.le_trans h1.next h2.next, h1.below.trans h2.below, fun b o hb ho => ?_, h2.floor.trans h1.floor, fun k hk ho => ?_, fun b p hb hp hlt => ?_⟩
  · rw [h2.same b (by have := h1.next; omega), h1.same b hb]
  · exact h1.under b o hb (h2.under b o (by rw [h1.floor]; exact hb) ho)
  · exact h1.born k hk (h2.born k (by have := h1.below.size; omega) ho)
  · by_cases hb1 : b.num < M1.next.num
    · exact h1.news b p hb (by rw [← h2.same b hb1]; exact hp) hlt
    · exact h1.born _ hlt (h2.news b p (by omega) hp (by have := h1.below.size; omega))
theorem Led.ext {B m M w m' M' w'} (hr : MRel B m M w) (h : Led B m M w m' M' w') : Ext m m' := hr.ext h.same

/-- A frame of fn comes to a return, with Q of what is returned and of memory. -/
def Run (P : Program) (B : Nat) (fn : FuncId) (n : Nat) (Q : SV → Mem → Prop) (e : Env) (k : List SItem) (M : Mem) : Prop :=
  P.follows .mixedOrders = true → ∀ (m : Map) (w : World) (tm : Array Value) (todo : List Item) (cs : List Frame),
    MRel B m M w → TRel m (treeOf e) tm → tm.size = n → All2 (IRel m) k todo →
    ∃ fr w' m' M' s x, Steps P (lone (mkF ⟨fn, [], none⟩ tm todo) cs w) (lone fr cs w') ∧ Led B m M w m' M' w' ∧ fr.fn = fn ∧ fr.leaving P w' (.returned x) ∧ conc m' s = some x ∧ Q s M'

section
variable {B : Nat} {fn : FuncId} {n : Nat} {Q : SV → Mem → Prop} {e : Env} {k : List SItem} {M : Mem}

theorem Run.imp {Q' : SV → Mem → Prop} (h : Run P B fn n Q e k M) (hq : ∀ s M', Q s M' → Q' s M') : Run P B fn n Q' e k M := by
  intro hmix m w tm todo cs hr ht hn hk
  obtain ⟨fr, w', m', M', s, x, h1, h2, h3, h4, h5, h6⟩ := h hmix m w tm todo cs hr ht hn hk
  exact ⟨fr, w', m', M', s, x, h1, h2, h3, h4, h5, hq _ _ h6⟩

theorem Run.of_step {D : Known} {σ' : Tree SV} {k' : List SItem} {M' : Mem} {e' : Env} (hD : Sound P B D) (h : stepOld noneKnown D P (.mk ⟨fn, [], none⟩ n (treeOf e) k) [] M = .go (.mk ⟨fn, [], none⟩ n σ' k') [] M')
    (he : ∀ t s, lk t e' = some s → σ'.get (Pos.ofNat t) = some s) (next : Run P B fn n Q e' k' M') : Run P B fn n Q e k M := by
  intro hmix m w tm todo cs hr ht hn hk
  have hg := stepOld_goes (I := noneKnown) (D := D) hr (sound_none P B) hD hmix (cs0 := cs) (bt := fn) (f := .mk ⟨fn, [], none⟩ n (treeOf e) k) (fr := mkF ⟨fn, [], none⟩ tm todo)
    ⟨⟨fn, [], none⟩, tm, todo, rfl, ⟨rfl, .nil, trivial⟩, ht, hn, hk⟩ (All2.nil (R := FRel m)) rfl
  rw [h] at hg
  obtain ⟨fr, frs, w1, m1, hs, hst, hf, hc, hb⟩ := hg
  cases hc
  obtain ⟨cc, tm', todo', rfl, hcx, ht', hn', hk'⟩ := hf
  have hcc : cc = ⟨fn, [], none⟩ := by
    obtain ⟨f, ds, rd⟩ := cc
    obtain ⟨h1, h2, h3⟩ := hcx
    cases h2
    simp only at h1
    subst h1
    cases rd with
    | none => rfl
    | some r => exact h3.elim
  subst hcc
  obtain ⟨fr, w2, m2, M2, s, x, hs2, hl, rest⟩ := next hmix m1 w1 tm' todo' cs hst.rel (fun t s hts => ht' t s (he t s (by rw [← treeOf_get]; exact hts))) hn' hk'
  exact ⟨fr, w2, m2, M2, s, x, hs.trans hs2, hst.led.trans hl, rest⟩

theorem Run.of_done {D : Known} {v : SV} {M' : Mem} (hD : Sound P B D) (h : stepOld noneKnown D P (.mk ⟨fn, [], none⟩ n (treeOf e) k) [] M = .done v M') (hq : Q v M') : Run P B fn n Q e k M := by
  intro hmix m w tm todo cs hr ht hn hk
  have hg := stepOld_goes (I := noneKnown) (D := D) hr (sound_none P B) hD hmix (cs0 := cs) (bt := fn) (f := .mk ⟨fn, [], none⟩ n (treeOf e) k) (fr := mkF ⟨fn, [], none⟩ tm todo)
    ⟨⟨fn, [], none⟩, tm, todo, rfl, ⟨rfl, .nil, trivial⟩, ht, hn, hk⟩ (All2.nil (R := FRel m)) rfl
  rw [h] at hg
  obtain ⟨fr, w1, m1, x, hs, hst, hv, hl, hb⟩ := hg
  exact ⟨fr, w1, m1, M', v, x, hs, hst.led, hb, hl, hv, hq⟩

/-- Less is known of the temporaries. -/
theorem Run.env {e' : Env} (h : ∀ t s, lk t e' = some s → lk t e = some s) (next : Run P B fn n Q e' k M) : Run P B fn n Q e k M := by
  intro hmix m w tm todo cs hr ht hn hk
  exact next hmix m w tm todo cs hr (fun t s hts => ht t s (by rw [treeOf_get] at hts ⊢; exact h t s hts)) hn hk

def pick (ks : List Nat) (e : Env) : Env := match ks with
  | [] => []
  | t :: r => match lk t e with
    | some s => (t, s) :: pick r e
    | none => pick r e

theorem lk_pick {t : Nat} {s : SV} {e : Env} : ∀ {ks : List Nat}, lk t (pick ks e) = some s → lk t e = some s
  | [], h => by simp [pick, lk] at h
  | u :: r, h => by
    unfold pick at h
    split at h
    · rename_i x hx
      by_cases hu : u = t
      · subst hu
        simp only [lk, Nat.beq_refl, cond_true] at h
        rw [hx]; exact h
      · have hb : Nat.beq u t = false := beq_ne hu
        simp only [lk, hb, cond_false] at h
        exact lk_pick h
    · exact lk_pick h

theorem Run.pick (ks : List Nat) (next : Run P B fn n Q (pick ks e) k M) : Run P B fn n Q e k M := Run.env (fun _ _ => lk_pick) next

/- CONTROL -/
theorem sound0 (P : Program) (B : Nat) : Sound P B noneKnown := sound_none P B

theorem Run.seq {a b : Code} (next : Run P B fn n Q e (.code a :: .code b :: k) M) : Run P B fn n Q e (.code (.seq a b) :: k) M :=
  .of_step (sound0 P B) (σ' := treeOf e) rfl (fun t s h => by rw [treeOf_get]; exact h) next
theorem Run.skip (next : Run P B fn n Q e k M) : Run P B fn n Q e (.code .skip :: k) M :=
  .of_step (sound0 P B) (σ' := treeOf e) rfl (fun t s h => by rw [treeOf_get]; exact h) next
theorem Run.label {l : Nat} (next : Run P B fn n Q e k M) : Run P B fn n Q e (.code (.label l) :: k) M :=
  .of_step (sound0 P B) (σ' := treeOf e) rfl (fun t s h => by rw [treeOf_get]; exact h) next
theorem Run.block {i : Nat} {c : Code} (next : Run P B fn n Q e (.code c :: .inBlock i :: k) M) : Run P B fn n Q e (.code (.block i c) :: k) M :=
  .of_step (sound0 P B) (σ' := treeOf e) rfl (fun t s h => by rw [treeOf_get]; exact h) next
theorem Run.loop {c : Code} (next : Run P B fn n Q e (.code c :: .inLoop c :: k) M) : Run P B fn n Q e (.code (.loop c) :: k) M :=
  .of_step (sound0 P B) (σ' := treeOf e) rfl (fun t s h => by rw [treeOf_get]; exact h) next
theorem Run.scope {c : Code} (next : Run P B fn n Q e (.code c :: .inScope c :: k) M) : Run P B fn n Q e (.code (.scope c) :: k) M :=
  .of_step (sound0 P B) (σ' := treeOf e) rfl (fun t s h => by rw [treeOf_get]; exact h) next
theorem Run.inBlock {i : Nat} (next : Run P B fn n Q e k M) : Run P B fn n Q e (.inBlock i :: k) M :=
  .of_step (sound0 P B) (σ' := treeOf e) rfl (fun t s h => by rw [treeOf_get]; exact h) next
theorem Run.inScope {c : Code} (next : Run P B fn n Q e k M) : Run P B fn n Q e (.inScope c :: k) M :=
  .of_step (sound0 P B) (σ' := treeOf e) rfl (fun t s h => by rw [treeOf_get]; exact h) next
theorem Run.inLoop {c : Code} (next : Run P B fn n Q e (.code c :: .inLoop c :: k) M) : Run P B fn n Q e (.inLoop c :: k) M :=
  .of_step (sound0 P B) (σ' := treeOf e) rfl (fun t s h => by rw [treeOf_get]; exact h) next
theorem Run.exit {i : Nat} {k' : List SItem} (h : exitS i k = some k') (next : Run P B fn n Q e k' M) : Run P B fn n Q e (.code (.exit i) :: k) M := by
  refine .of_step (sound0 P B) (σ' := treeOf e) (k' := k') (M' := M) ?_ (fun t s h => by rw [treeOf_get]; exact h) next
  show cExit ⟨fn, [], none⟩ n (treeOf e) k [] M i = _
  unfold cExit
  rw [h]
theorem Run.region {i : Nat} {ops : Array Oper} (next : Run P B fn n Q e (.ops ops ops.toList :: k) M) : Run P B fn n Q e (.code (.region i ops false) :: k) M :=
  .of_step (sound0 P B) (σ' := treeOf e) rfl (fun t s h => by rw [treeOf_get]; exact h) next
theorem Run.opsEnd {all : Array Oper} (next : Run P B fn n Q e k M) : Run P B fn n Q e (.ops all [] :: k) M :=
  .of_step (sound0 P B) (σ' := treeOf e) rfl (fun t s h => by rw [treeOf_get]; exact h) next

/-- An operand. -/
noncomputable def ar (e : Env) (x : Operand) : Option SV := match x with
  | .tmp t => lk t e
  | .const v => ofV v
  | .global _ => none
  | .func f => some (.fn (.func f) [] [])

theorem ar_arg {x : Operand} {s : SV} (h : ar e x = some s) (M : Mem) : arg M (treeOf e) x = some s := by
  cases x with
  | tmp t => exact (treeOf_get t e).trans h
  | const v => exact h
  | global g => simp [ar] at h
  | func f => exact h

theorem Run.cond {x : Operand} {a b : Code} {c : Bool} (h : ar e x = some (.bool c)) (next : Run P B fn n Q e (.code (bif c then a else b) :: k) M) : Run P B fn n Q e (.code (.cond x a b) :: k) M := by
  refine .of_step (sound0 P B) (σ' := treeOf e) (k' := .code (bif c then a else b) :: k) (M' := M) ?_ (fun t s h => by rw [treeOf_get]; exact h) next
  show cCond ⟨fn, [], none⟩ n (treeOf e) k [] M x a b = _
  unfold cCond
  rw [ar_arg h]
  cases c <;> rfl

theorem Run.condT {x : Operand} {a b : Code} (h : ar e x = some (.bool true)) (next : Run P B fn n Q e (.code a :: k) M) : Run P B fn n Q e (.code (.cond x a b) :: k) M := Run.cond h next
theorem Run.condF {x : Operand} {a b : Code} (h : ar e x = some (.bool false)) (next : Run P B fn n Q e (.code b :: k) M) : Run P B fn n Q e (.code (.cond x a b) :: k) M := Run.cond h next

/-- RETURN -/
theorem Run.ret {F : Func} {l : List SV} (hF : P.funcs[fn]? = some F) (hres : resS M P (treeOf e) F.results.toList = some l) (hq : Q (oneOf l) M) : Run P B fn n Q e (.code .ret :: k) M := by
  refine .of_done (sound0 P B) ?_ hq
  show retS P ⟨fn, [], none⟩ (some .ret) (treeOf e) [] M = _
  unfold retS
  simp only [hF, shutS, hres]
  rfl
theorem Run.fall {F : Func} {l : List SV} (hF : P.funcs[fn]? = some F) (hres : resS M P (treeOf e) F.results.toList = some l) (hq : Q (oneOf l) M) : Run P B fn n Q e [] M := by
  refine .of_done (sound0 P B) ?_ hq
  show retS P ⟨fn, [], none⟩ none (treeOf e) [] M = _
  unfold retS
  simp only [hF, shutS, hres]
  rfl
theorem res_nil : resS M P (treeOf e) [] = some [] := rfl
theorem res_tmp {t : Tmp} {s : SV} {r : List ResultVar} {l : List SV} (h : lk t e = some s) (hr : resS M P (treeOf e) r = some l) : resS M P (treeOf e) (.tmp t :: r) = some (s :: l) := by
  simp only [resS, treeOf_get, h, hr]
theorem res_cell {a : Tmp} {t : TypeId} {p s : SV} {M' : Mem} {r : List ResultVar} {l : List SV} (h : lk a e = some p) (hl : xLoad P t p M = .val s M') (hr : resS M P (treeOf e) r = some l) : resS M P (treeOf e) (.cell a t :: r) = some (s :: l) := by
  simp only [resS, treeOf_get, h, hl, hr]

/- OPERATIONS -/
theorem wantS_none {all : Array Oper} {σ : Tree SV} {d : Option Tmp} {op : Op} {ty : TypeId} {pos : String} {af : Array Edge} : wantS all σ ⟨d, op, ty, pos, af, none⟩ = some true := rfl
theorem wantS_guard {all : Array Oper} {d : Option Tmp} {op : Op} {ty : TypeId} {pos : String} {af : Array Edge} {j : Nat} {want b : Bool} {t : Tmp} (h : (all[j]?).bind (·.dst) = some t) (hb : lk t e = some (.bool b)) :
    wantS all (treeOf e) ⟨d, op, ty, pos, af, some (j, want)⟩ = some (b == want) := by
  unfold wantS
  simp only [h, treeOf_get, hb]

theorem wantS_yes {all : Array Oper} {d : Option Tmp} {op : Op} {ty : TypeId} {pos : String} {af : Array Edge} {j : Nat} {want : Bool} {t : Tmp} (h : (all[j]?).bind (·.dst) = some t) (hb : lk t e = some (.bool want)) :
    wantS all (treeOf e) ⟨d, op, ty, pos, af, some (j, want)⟩ = some true := by
  rw [wantS_guard h hb]; simp
theorem wantS_not {all : Array Oper} {d : Option Tmp} {op : Op} {ty : TypeId} {pos : String} {af : Array Edge} {j : Nat} {want b : Bool} {t : Tmp} (h : (all[j]?).bind (·.dst) = some t) (hb : lk t e = some (.bool b)) (hne : (b == want) = false) :
    wantS all (treeOf e) ⟨d, op, ty, pos, af, some (j, want)⟩ = some false := by
  rw [wantS_guard h hb, hne]
theorem wantS_skip {all : Array Oper} {d : Option Tmp} {op : Op} {ty : TypeId} {pos : String} {af : Array Edge} {j : Nat} {want : Bool} {t : Tmp} (h : (all[j]?).bind (·.dst) = some t) (hb : lk t e = some (.tuple [])) :
    wantS all (treeOf e) ⟨d, op, ty, pos, af, some (j, want)⟩ = some false := by
  unfold wantS
  simp only [h, treeOf_get, hb]

theorem Run.opG {all : Array Oper} {r : List Oper} {d : Tmp} {op : Op} {ty : TypeId} {pos : String} {af : Array Edge} {g : Option (Nat × Bool)} {v : SV} {M' : Mem}
    (hw : wantS all (treeOf e) ⟨some d, op, ty, pos, af, g⟩ = some true) (hx : execO P M (treeOf e) op = .val v M') (hd : Nat.ble (Nat.succ d) n = true)
    (next : Run P B fn n Q ((d, v) :: e) (.ops all r :: k) M') : Run P B fn n Q e (.ops all (⟨some d, op, ty, pos, af, g⟩ :: r) :: k) M := by
  refine .of_step (sound0 P B) (σ' := (treeOf e).put (some v) (Pos.ofNat d)) (k' := .ops all r :: k) (M' := M') ?_ (fun t s h => by rw [← treeOf_get] at h; exact h) next
  show opS noneKnown P ⟨fn, [], none⟩ n (treeOf e) all ⟨some d, op, ty, pos, af, g⟩ r k [] M = _
  rw [opS_old]
  unfold opOld
  have hx' : exec P M (treeOf e) ⟨some d, op, ty, pos, af, g⟩ = .val v M' := hx
  simp only [hw, hx', putD, hd]

theorem Run.op {all : Array Oper} {r : List Oper} {d : Tmp} {op : Op} {ty : TypeId} {pos : String} {af : Array Edge} {v : SV} {M' : Mem}
    (hx : execO P M (treeOf e) op = .val v M') (hd : Nat.ble (Nat.succ d) n = true)
    (next : Run P B fn n Q ((d, v) :: e) (.ops all r :: k) M') : Run P B fn n Q e (.ops all (⟨some d, op, ty, pos, af, none⟩ :: r) :: k) M := .opG wantS_none hx hd next

theorem Run.op0 {all : Array Oper} {r : List Oper} {op : Op} {ty : TypeId} {pos : String} {af : Array Edge} {g : Option (Nat × Bool)} {v : SV} {M' : Mem}
    (hw : wantS all (treeOf e) ⟨none, op, ty, pos, af, g⟩ = some true) (hx : execO P M (treeOf e) op = .val v M')
    (next : Run P B fn n Q e (.ops all r :: k) M') : Run P B fn n Q e (.ops all (⟨none, op, ty, pos, af, g⟩ :: r) :: k) M := by
  refine .of_step (sound0 P B) (σ' := treeOf e) (k' := .ops all r :: k) (M' := M') ?_ (fun t s h => by rw [← treeOf_get] at h; exact h) next
  show opS noneKnown P ⟨fn, [], none⟩ n (treeOf e) all ⟨none, op, ty, pos, af, g⟩ r k [] M = _
  rw [opS_old]
  unfold opOld
  have hx' : exec P M (treeOf e) ⟨none, op, ty, pos, af, g⟩ = .val v M' := hx
  simp only [hw, hx', putD]

/-- An operation whose guard says no. -/
theorem Run.no {all : Array Oper} {r : List Oper} {d : Tmp} {op : Op} {ty : TypeId} {pos : String} {af : Array Edge} {g : Option (Nat × Bool)}
    (hw : wantS all (treeOf e) ⟨some d, op, ty, pos, af, g⟩ = some false) (hd : Nat.ble (Nat.succ d) n = true)
    (next : Run P B fn n Q ((d, .tuple []) :: e) (.ops all r :: k) M) : Run P B fn n Q e (.ops all (⟨some d, op, ty, pos, af, g⟩ :: r) :: k) M := by
  refine .of_step (sound0 P B) (σ' := (treeOf e).put (some (.tuple [])) (Pos.ofNat d)) (k' := .ops all r :: k) (M' := M) ?_ (fun t s h => by rw [← treeOf_get] at h; exact h) next
  show opS noneKnown P ⟨fn, [], none⟩ n (treeOf e) all ⟨some d, op, ty, pos, af, g⟩ r k [] M = _
  rw [opS_old]
  unfold opOld
  simp only [hw, putD, hd]

/-- A region that draws, without calls. -/
theorem Run.draw {i : Nat} {ops : Array Oper} {plan : List PE} {D : Known} {σ' : Tree SV} {M' : Mem} {e' : Env} (hD : Sound P B D) (hp : planOf P ops = some plan) (h : drawS D P n ops plan (treeOf e) M = some (σ', M'))
    (he : ∀ t s, lk t e' = some s → σ'.get (Pos.ofNat t) = some s) (next : Run P B fn n Q e' k M') : Run P B fn n Q e (.code (.region i ops true) :: k) M := by
  refine .of_step hD (σ' := σ') (k' := k) (M' := M') ?_ he next
  show cRegion D P ⟨fn, [], none⟩ n (treeOf e) k [] M ops = _
  unfold cRegion
  simp only [hp, h]

end
end Go.Ev

/- Calls: what a call comes to, whoever calls. -/
namespace Go.Ev
open Go.RowKit
variable {P : Program}

/-- A call of g with these arguments, in this memory, returns, with R of what is returned and of memory. -/
def CallsTo (P : Program) (g : FuncId) (xs : List SV) (M : Mem) (R : SV → Mem → Prop) : Prop :=
  P.follows .mixedOrders = true → ∀ (B : Nat) (m : Map) (w : World) (vs : Array Value), MRel B m M w → concs m xs = some vs.toList → ∀ (c : Frame) (cs : List Frame),
    ∃ m' w' M' s v, Led B m M w m' M' w' ∧ conc m' s = some v ∧ R s M' ∧ Steps P (lone (Frame.enter P g vs .normal) (c :: cs) w) (lone (c.finish v) cs w')

theorem CallsTo.imp {g : FuncId} {xs : List SV} {M : Mem} {R R' : SV → Mem → Prop} (h : CallsTo P g xs M R) (hr : ∀ s M', R s M' → R' s M') : CallsTo P g xs M R' := by
  intro hmix B m w vs hm ha c cs
  obtain ⟨m', w', M', s, v, h1, h2, h3, h4⟩ := h hmix B m w vs hm ha c cs
  exact ⟨m', w', M', s, v, h1, h2, hr _ _ h3, h4⟩

section
variable {B : Nat} {fn : FuncId} {n : Nat} {Q : SV → Mem → Prop} {e : Env} {k : List SItem} {M : Mem}

theorem Run.callG {all : Array Oper} {r : List Oper} {d : Tmp} {op : Op} {ty : TypeId} {pos : String} {af : Array Edge} {gd : Option (Nat × Bool)} {g : FuncId} {xs : List SV} {R : SV → Mem → Prop}
    (hw : wantS all (treeOf e) ⟨some d, op, ty, pos, af, gd⟩ = some true) (hx : execO P M (treeOf e) op = .enter g xs M) (hd : Nat.ble (Nat.succ d) n = true) (hc : CallsTo P g xs M R)
    (next : ∀ s M', R s M' → Run P B fn n Q ((d, s) :: e) (.ops all r :: k) M') : Run P B fn n Q e (.ops all (⟨some d, op, ty, pos, af, gd⟩ :: r) :: k) M := by
  intro hmix m w tm todo cs hr ht hn hk
  cases hk with
  | cons hi hk =>
  rename_i it todo
  cases it <;> simp only [IRel] at hi
  obtain ⟨rfl, i, hdrop, rfl⟩ := hi
  have hlt : i < all.size := by
    apply Classical.byContradiction
    intro hge
    rw [List.drop_eq_nil_of_le (by simp; omega)] at hdrop
    simp at hdrop
  have ho : all[i]? = some ⟨some d, op, ty, pos, af, gd⟩ := by
    have : (all.toList.drop i)[0]? = some ⟨some d, op, ty, pos, af, gd⟩ := by rw [← hdrop]; rfl
    simpa using this
  have hr' : r = all.toList.drop (i + 1) := by
    have := congrArg List.tail hdrop
    simpa using this
  have hrange : (List.range all.size).drop i = i :: (List.range all.size).drop (i + 1) := by
    rw [List.drop_eq_getElem_cons (by simpa using hlt)]
    simp
  rw [hrange]
  generalize hR : (List.range all.size).drop (i + 1) = rest
  have hw' := wantS_rel hw ht
  have hg := stepGR_op (P := P) (b := mkF ⟨fn, [], none⟩ tm []) (a := ⟨tm, []⟩) (k := todo) (cs := cs) (w := w) (ops := all) (i := i) (rest := rest) ho hw'
  have hx' : exec P M (treeOf e) ⟨some d, op, ty, pos, af, gd⟩ = .enter g xs M := hx
  have hdo := exec_does (P := P) hr ht ⟨some d, op, ty, pos, af, gd⟩
  rw [hx'] at hdo
  rw [Oper.semAt_eq _ _ _ (exec_nd (P := P) (M := M) (σ := treeOf e) (by rw [hx']; simp)), den_eval] at hg
  obtain ⟨vs, m1, w1, hrun, has, hst⟩ := hdo
  have henter : step P (lone (mkF ⟨fn, [], none⟩ tm (.inRegion all (i :: rest) :: todo)) cs w) = .next (lone (Frame.enter P g vs .normal) (mkF ⟨fn, [], none⟩ tm (.inRegion all (i :: rest) :: todo) :: cs) w1) := by
    refine step_lone_go ?_
    exact (congrArg GStep.bare hg).trans (by simp [stepG.apply, hrun, Frame.atR, mkF])
  obtain ⟨m2, w2, M2, s, v, hl, hv, hRs, hsteps⟩ := hc hmix B m1 w1 vs hst.rel has (mkF ⟨fn, [], none⟩ tm (.inRegion all (i :: rest) :: todo)) cs
  have e1 := hst.ext hr
  have e2 := hl.ext hst.rel
  obtain ⟨tm', hp, ht', hn'⟩ := putD_rel (n := n) (d := some d) (s := s) (σ' := (treeOf e).put (some s) (Pos.ofNat d)) (by simp [putD, hd]) ((ht.ext e1).ext e2) hn hv
  rw [mkF_finish ⟨fn, [], none⟩ tm tm' all i rest todo _ ho v hp] at hsteps
  obtain ⟨fr, w3, m3, M3, s3, x, hs3, hl3, rest3⟩ := next s M2 hRs hmix m2 w2 tm' (.inRegion all rest :: todo) cs hl.rel ht' hn' (.cons ⟨rfl, i + 1, hr', hR.symm⟩ (All2.mono (fun _ _ => IRel.ext e2) (All2.mono (fun _ _ => IRel.ext e1) hk)))
  exact ⟨fr, w3, m3, M3, s3, x, (Steps.head henter hsteps).trans hs3, (hst.led.trans hl).trans hl3, rest3⟩

theorem Run.call {all : Array Oper} {r : List Oper} {d : Tmp} {op : Op} {ty : TypeId} {pos : String} {af : Array Edge} {g : FuncId} {xs : List SV} {R : SV → Mem → Prop}
    (hx : execO P M (treeOf e) op = .enter g xs M) (hd : Nat.ble (Nat.succ d) n = true) (hc : CallsTo P g xs M R)
    (next : ∀ s M', R s M' → Run P B fn n Q ((d, s) :: e) (.ops all r :: k) M') : Run P B fn n Q e (.ops all (⟨some d, op, ty, pos, af, none⟩ :: r) :: k) M := .callG wantS_none hx hd hc next
end

/- TREES -/
namespace Tree
variable {α β : Type}
def mapT (f : α → Option β) : Tree α → Tree β
  | .leaf => .leaf
  | .node l v r => .node (mapT f l) (v.bind f) (mapT f r)
theorem get_mapT (f : α → Option β) : ∀ (t : Tree α) (p : Pos), get p (mapT f t) = (get p t).bind f
  | .leaf, p => by rw [mapT, get_leaf, get_leaf]; rfl
  | .node l v r, .one => rfl
  | .node l v r, .b0 p => get_mapT f l p
  | .node l v r, .b1 p => get_mapT f r p
def filtT : Tree α → (Pos → Bool) → Tree α
  | .leaf, _ => .leaf
  | .node l v r, q => .node (filtT l fun p => q (.b0 p)) (bif q .one then v else none) (filtT r fun p => q (.b1 p))
theorem get_filtT : ∀ (t : Tree α) (q : Pos → Bool) (p : Pos), get p (filtT t q) = bif q p then get p t else none
  | .leaf, q, p => by rw [filtT, get_leaf]; cases q p <;> rfl
  | .node l v r, q, .one => rfl
  | .node l v r, q, .b0 p => get_filtT l _ p
  | .node l v r, q, .b1 p => get_filtT r _ p
def unT : Tree α → Tree α → Tree α
  | .leaf, t => t
  | .node l v r, .leaf => .node l v r
  | .node l v r, .node l' v' r' => .node (unT l l') (v.or v') (unT r r')
theorem get_unT : ∀ (t u : Tree α) (p : Pos), get p (unT t u) = (get p t).or (get p u)
  | .leaf, t, p => by rw [unT, get_leaf]; rfl
  | .node l v r, .leaf, p => by rw [unT, get_leaf]; cases get p (.node l v r) <;> rfl
  | .node l v r, .node l' v' r', .one => rfl
  | .node l v r, .node l' v' r', .b0 p => get_unT l l' p
  | .node l v r, .node l' v' r', .b1 p => get_unT r r' p
end Tree

/-- A row that is only read. -/
def frz : SObj → Option SObj
  | .row _ _ c => some (.ro c)
  | .fix c => some (.fix c)
  | .ro c => some (.ro c)
  | _ => none
theorem frz_own {o o' : SObj} (h : frz o = some o') : o'.own = false := by
  cases o <;> simp [frz] at h <;> subst h <;> rfl

noncomputable def frozen (M : Mem) : Mem := ⟨Tree.mapT frz M.t, M.next, M.next.num⟩
theorem frozen_get (M : Mem) (b : Pos) : (frozen M).t.get b = (M.t.get b).bind frz := Tree.get_mapT _ _ _
theorem frozen_own {M : Mem} {b : Pos} {o : SObj} (h : (frozen M).t.get b = some o) : o.own = false := by
  rw [frozen_get, Option.bind_eq_some_iff] at h
  obtain ⟨x, _, hx⟩ := h
  exact frz_own hx
theorem frozen_not_owned {m : Map} {M : Mem} {j : Nat} (h : Owned m (frozen M) j) : False := by
  obtain ⟨c, x, q, hx, ho, _⟩ := h
  rw [frozen_own hx] at ho
  exact absurd ho (by simp)

theorem frozen_rel {B : Nat} {m : Map} {M : Mem} {w : World} (hr : MRel B m M w) : MRel w.heap.size m (frozen M) w := by
  refine ⟨fun b o p hb hp => ?_, fun b b' o o' p p' hb hb' how _ _ _ => ?_, fun b hb => ⟨(hr.fresh b hb).1, ?_⟩, hr.bound, fun b o p hb ho _ => ?_, Nat.le_refl _, fun b c hb => ?_, Nat.le_refl _⟩
  · rw [frozen_get, Option.bind_eq_some_iff] at hb
    obtain ⟨x, hx, hf⟩ := hb
    have hobj := hr.objs b x p hx hp
    cases x <;> simp only [frz, Option.some.injEq, reduceCtorEq] at hf <;> subst hf
    · obtain ⟨e, fz, pre, vs, post, h1, _, h2, h3, h4, _⟩ := hobj
      exact ⟨e, fz, pre, vs, post, h1, trivial, h2, h3, h4, fun t ht => by simp at ht⟩
    · exact hobj
    · exact hobj
  · rcases how with h | h
    · rw [frozen_own hb] at h; simp at h
    · rw [frozen_own hb'] at h; simp at h
  · rw [frozen_get, (hr.fresh b hb).2]; rfl
  · rw [frozen_own hb] at ho; simp at ho
  · rw [frozen_get, Option.bind_eq_some_iff] at hb
    obtain ⟨x, hx, hf⟩ := hb
    cases x <;> simp only [frz, Option.some.injEq, reduceCtorEq, SObj.fix.injEq] at hf
    subst hf
    exact hr.glob b _ hx

/-- The caller's memory, with what a call has made. -/
noncomputable def merged (M Me : Mem) : Mem := ⟨Tree.unT (Tree.filtT M.t fun b => decide (b.num < M.next.num)) (Tree.filtT Me.t fun b => decide (M.next.num ≤ b.num)), Me.next, M.floor⟩
theorem merged_old {M Me : Mem} {b : Pos} (h : b.num < M.next.num) : (merged M Me).t.get b = M.t.get b := by
  show Tree.get b (Tree.unT _ _) = _
  rw [Tree.get_unT, Tree.get_filtT, Tree.get_filtT]
  have h1 : decide (b.num < M.next.num) = true := decide_eq_true h
  have h2 : decide (M.next.num ≤ b.num) = false := decide_eq_false (by omega)
  rw [h1, h2]
  cases Tree.get b M.t <;> rfl
theorem merged_new {M Me : Mem} {b : Pos} (h : M.next.num ≤ b.num) : (merged M Me).t.get b = Me.t.get b := by
  show Tree.get b (Tree.unT _ _) = _
  rw [Tree.get_unT, Tree.get_filtT, Tree.get_filtT]
  have h1 : decide (b.num < M.next.num) = false := decide_eq_false (by omega)
  have h2 : decide (M.next.num ≤ b.num) = true := decide_eq_true h
  rw [h1, h2]
  rfl

theorem merged_led {B : Nat} {m m' : Map} {M Me : Mem} {w w' : World} (hr : MRel B m M w) (hl : Led w.heap.size m (frozen M) w m' Me w') : Led B m M w m' (merged M Me) w' := by
  have hsame : ∀ b, b.num < M.next.num → m' b = m b := hl.same
  have hext : Ext m m' := hr.ext hsame
  have hnext : M.next.num ≤ Me.next.num := hl.next
  have hnew : ∀ b p, M.next.num ≤ b.num → m' b = some p → w.heap.size ≤ p.block := by
    intro b p hb hp
    apply Classical.byContradiction
    intro h
    exact frozen_not_owned (hl.news b p hb hp (by omega))
  refine ⟨⟨fun b o p hb hp => ?_, fun b b' o o' p p' hb hb' how hp hp' he => ?_, fun b hb => ?_, hl.rel.bound, fun b o p hb ho hp => ?_, Nat.le_trans hr.base hl.below.size, fun b c hb => ?_, ?_⟩, hsame, hnext, hl.below.mono hr.base, fun b o hb hbo => ?_, rfl, fun j hj ho => ?_, fun b p hb hp hlt => ?_⟩
  · by_cases h : b.num < M.next.num
    · rw [merged_old h] at hb
      rw [hsame b h] at hp
      rw [hl.below.block _ (hr.bound b p hp)]
      exact (hr.objs b o p hb hp).ext hext
    · rw [merged_new (by omega)] at hb
      exact hl.rel.objs b o p hb hp
  · by_cases h : b.num < M.next.num <;> by_cases h' : b'.num < M.next.num
    · rw [merged_old h] at hb
      rw [merged_old h'] at hb'
      rw [hsame b h] at hp
      rw [hsame b' h'] at hp'
      exact hr.inj b b' o o' p p' hb hb' how hp hp' he
    · rw [hsame b h] at hp
      have := hr.bound b p hp
      have := hnew b' p' (by omega) hp'
      omega
    · rw [hsame b' h'] at hp'
      have := hr.bound b' p' hp'
      have := hnew b p (by omega) hp
      omega
    · rw [merged_new (by omega)] at hb hb'
      exact hl.rel.inj b b' o o' p p' hb hb' how hp hp' he
  · have hb' : Me.next.num ≤ b.num := hb
    rw [merged_new (by omega)]
    exact hl.rel.fresh b hb'
  · by_cases h : b.num < M.next.num
    · rw [merged_old h] at hb
      rw [hsame b h] at hp
      exact hr.low b o p hb ho hp
    · exact Nat.le_trans hr.base (hnew b p (by omega) hp)
  · by_cases h : b.num < M.next.num
    · rw [merged_old h] at hb
      rw [hsame b h]
      exact hr.glob b c hb
    · rw [merged_new (by omega)] at hb
      exact hl.rel.glob b c hb
  · exact Nat.le_trans hr.flo hnext
  · rw [merged_old (Nat.lt_of_lt_of_le hb hr.flo)] at hbo
    exact hbo
  · obtain ⟨b, x, q, hx, hxo, hq, rfl⟩ := ho
    by_cases h : b.num < M.next.num
    · rw [merged_old h] at hx
      rw [hsame b h] at hq
      exact ⟨b, x, q, hx, hxo, hq, rfl⟩
    · have := hnew b q (by omega) hq
      omega
  · have := hnew b p hb hp
    omega

/- A FUNCTION -/
def argE (i : Nat) (e : Env) : List SV → Env
  | [] => e
  | s :: l => argE (i + 1) ((i, s) :: e) l
theorem argE_tree : ∀ (l : List SV) (i : Nat) (e : Env), treeOf (argE i e l) = putArgs i (treeOf e) l
  | [], _, _ => rfl
  | s :: l, i, e => argE_tree l (i + 1) ((i, s) :: e)

theorem enter_ok {f : FuncId} {F : Func} {c : Code} {xs : List SV} (hF : P.funcs[f]? = some F) (hb : F.body = some c) (hn : Nat.ble xs.length F.ntmps = true) : enterS P f xs = some (.mk ⟨f, [], none⟩ F.ntmps (treeOf (argE 0 [] xs)) [.code c]) := by
  unfold enterS
  rw [hF]
  simp only [hb, len_eq, hn, argE_tree]
  rfl

/-- From the run of its frame to a call of a function. -/
theorem CallsTo.raw {f : FuncId} {F : Func} {c : Code} {xs : List SV} {M : Mem} {Q : SV → Mem → Prop} (hmix : P.follows .mixedOrders = true) (hF : P.funcs[f]? = some F) (hb : F.body = some c) (hn : Nat.ble xs.length F.ntmps = true)
    (h : ∀ B, Run P B f F.ntmps Q (argE 0 [] xs) [.code c] (frozen M)) {B : Nat} {m : Map} {w : World} {vs : Array Value} (hr : MRel B m M w) (has : concs m xs = some vs.toList) (cf : Frame) (cs : List Frame) :
    ∃ w' m' Me s x, Led w.heap.size m (frozen M) w m' Me w' ∧ conc m' s = some x ∧ Q s Me ∧ Steps P (lone (Frame.enter P f vs .normal) (cf :: cs) w) (lone (cf.finish x) cs w') := by
  have hfr := enter_rel (enter_ok hF hb hn) has
  obtain ⟨cc, tm, todo, hent, hcx, ht, hn', hk⟩ := hfr
  have hcc : cc = ⟨f, [], none⟩ := by
    obtain ⟨g, ds, rd⟩ := cc
    obtain ⟨h1, h2, h3⟩ := hcx
    cases h2
    simp only at h1
    subst h1
    cases rd with
    | none => rfl
    | some r => exact h3.elim
  subst hcc
  obtain ⟨fr, w', m', Me, s, x, hs, hl, _, hlv, hv, hq⟩ := h w.heap.size hmix m w tm todo (cf :: cs) (frozen_rel hr) ht hn' hk
  refine ⟨w', m', Me, s, x, hl, hv, hq, ?_⟩
  rw [hent]
  exact hs.trans (.one (step_leave_returned hlv))

theorem CallsTo.of_run {f : FuncId} {F : Func} {c : Code} {xs : List SV} {M : Mem} {Q R : SV → Mem → Prop} (hF : P.funcs[f]? = some F) (hb : F.body = some c) (hn : Nat.ble xs.length F.ntmps = true)
    (h : ∀ B, Run P B f F.ntmps Q (argE 0 [] xs) [.code c] (frozen M))
    (hR : ∀ s Me, Q s Me → (∀ b o, b.num < M.next.num → Me.t.get b = some o → (frozen M).t.get b = some o) → M.next.num ≤ Me.next.num → Me.floor = M.next.num → M.floor ≤ M.next.num → R s (merged M Me)) : CallsTo P f xs M R := by
  intro hmix B m w vs hr has cf cs
  obtain ⟨w', m', Me, s, x, hl, hv, hq, hs⟩ := CallsTo.raw hmix hF hb hn h hr has cf cs
  exact ⟨m', w', merged M Me, s, x, merged_led hr hl, hv, hR s Me hq (fun b o hb ho => hl.under b o hb ho) hl.next hl.floor hr.flo, hs⟩

/-- The same for a call xs a whole. -/
theorem Run.calls {f : FuncId} {F : Func} {c : Code} {xs : List SV} {vs : Array Value} {M : Mem} {m : Map} {w : World} {Q : SV → Mem → Prop} (hmix : P.follows .mixedOrders = true) (hF : P.funcs[f]? = some F) (hb : F.body = some c) (hn : Nat.ble xs.length F.ntmps = true)
    (hr : MRel w.heap.size m M w) (has : concs m xs = some vs.toList) (h : Run P w.heap.size f F.ntmps Q (argE 0 [] xs) [.code c] M) :
    Calls P f vs w fun e w' => ∃ m' M' s x, e = .returned x ∧ conc m' s = some x ∧ Q s M' ∧ Led w.heap.size m M w m' M' w' := by
  intro cs
  have hfr := enter_rel (enter_ok hF hb hn) has
  obtain ⟨cc, tm, todo, hent, hcx, ht, hn', hk⟩ := hfr
  have hcc : cc = ⟨f, [], none⟩ := by
    obtain ⟨g, ds, rd⟩ := cc
    obtain ⟨h1, h2, h3⟩ := hcx
    cases h2
    simp only at h1
    subst h1
    cases rd with
    | none => rfl
    | some r => exact h3.elim
  subst hcc
  obtain ⟨fr, w', m', Me, s, x, hs, hl, hfn, hlv, hv, hq⟩ := h hmix m w tm todo cs hr ht hn' hk
  rw [hent]
  exact ⟨.returned x, w', fr, ⟨m', Me, s, x, rfl, hv, hq, hl⟩, hs, hfn, hlv⟩

theorem Led.kept {B : Nat} {m : Map} {M : Mem} {w w' : World} (hr : MRel B m M w) (hb : Below w.heap.size w w') : Led B m M w m M w' :=
  ⟨hr.kept hb, fun _ _ => rfl, Nat.le_refl _, hb.mono hr.base, fun _ _ _ h => h, rfl, fun _ _ h => h, fun b p hbn hp _ => absurd hp (by rw [(hr.fresh b hbn).1]; simp)⟩

/-- A call without arguments that answers true. -/
theorem CallsTo.closed {f : FuncId} (hc : ∀ w, Calls P f #[] w fun e w' => e = .returned (.bool true) ∧ Below w.heap.size w w') (M : Mem) : CallsTo P f [] M fun s M' => s = .bool true ∧ M' = M := by
  intro _ B m w vs hr has c cs
  have hvs : vs = #[] := by
    have := concs_nil m
    rw [this] at has
    have := Option.some.inj has
    exact (Array.toList_eq_nil_iff.1 this.symm)
  subst hvs
  obtain ⟨e, w', fr, ⟨rfl, hb⟩, hcome, hfn, hl⟩ := hc w (c :: cs)
  exact ⟨m, w', M, .bool true, .bool true, .kept hr hb, rfl, ⟨rfl, rfl⟩, Steps.trans hcome (.one (step_leave_returned hl))⟩

end Go.Ev

/- What is known of memory, and the operations that read it. -/
namespace Go.Ev
open Go.RowKit
variable {P : Program}

/-- A row; one that is only read, here and later. -/
noncomputable def rd (M : Mem) (b : Pos) : Option (List SV) := if b.num < M.next.num then rowOf M b else none
noncomputable def ro (M : Mem) (b : Pos) : Option (List SV) := if b.num < M.next.num then (match M.t.get b with
  | some (.ro c) => some c
  | some (.fix c) => some c
  | _ => none) else none
theorem rd_row {M : Mem} {b : Pos} {c : List SV} (h : rd M b = some c) : rowOf M b = some c := by
  unfold rd at h
  split at h
  · exact h
  · simp at h
theorem ro_get {M : Mem} {b : Pos} {c : List SV} (h : ro M b = some c) : b.num < M.next.num ∧ (M.t.get b = some (.ro c) ∨ M.t.get b = some (.fix c)) := by
  unfold ro at h
  split at h
  · rename_i hb
    refine ⟨hb, ?_⟩
    split at h
    · rename_i x hx; simp only [Option.some.injEq] at h; subst h; exact .inl hx
    · rename_i x hx; simp only [Option.some.injEq] at h; subst h; exact .inr hx
    · simp at h
  · simp at h
theorem ro_mk {M : Mem} {b : Pos} {c : List SV} (hb : b.num < M.next.num) (h : M.t.get b = some (.ro c) ∨ M.t.get b = some (.fix c)) : ro M b = some c := by
  unfold ro
  rw [if_pos hb]
  rcases h with h | h <;> rw [h]
theorem rd_mk {M : Mem} {b : Pos} {c : List SV} (hb : b.num < M.next.num) (h : rowOf M b = some c) : rd M b = some c := by
  unfold rd
  rw [if_pos hb, h]
theorem ro_rd {M : Mem} {b : Pos} {c : List SV} (h : ro M b = some c) : rd M b = some c := by
  obtain ⟨hb, h⟩ := ro_get h
  refine rd_mk hb ?_
  unfold rowOf
  rcases h with h | h <;> rw [h]

/-- A row of the call's own. -/
structure Own (M : Mem) (b : Pos) (t : TypeId) (kk : RK) (c : List SV) : Prop where
  get : M.t.get b = some (.row t kk c)
  low : M.floor ≤ b.num
  lt : b.num < M.next.num
theorem Own.rd {M b t kk c} (h : Own M b t kk c) : Go.Ev.rd M b = some c := rd_mk h.lt (rowOf_row h.get)

/-- What was known is still known. -/
structure MemLe (M M' : Mem) : Prop where
  ro : ∀ b c, Go.Ev.ro M b = some c → Go.Ev.ro M' b = some c
  own : ∀ b t kk c, Own M b t kk c → Own M' b t kk c
  next : M.next.num ≤ M'.next.num
/-- .. of what is only read. -/
structure RoLe (M M' : Mem) : Prop where
  ro : ∀ b c, Go.Ev.ro M b = some c → Go.Ev.ro M' b = some c
  next : M.next.num ≤ M'.next.num
theorem MemLe.toRo {M M'} (h : MemLe M M') : RoLe M M' := ⟨h.ro, h.next⟩
theorem MemLe.refl (M : Mem) : MemLe M M := ⟨fun _ _ h => h, fun _ _ _ _ h => h, Nat.le_refl _⟩
theorem MemLe.trans {M1 M2 M3} (h : MemLe M1 M2) (h' : MemLe M2 M3) : MemLe M1 M3 := ⟨fun b c e => h'.ro b c (h.ro b c e), fun b t kk c e => h'.own b t kk c (h.own b t kk c e), Nat.le_trans h.next h'.next⟩

/-- An element of a list. -/
def idx {α : Type} (l : List α) (j : Int) : Option α := match j with
  | .ofNat i => l[i]?
  | .negSucc _ => none
theorem idx_some {α : Type} {l : List α} {j : Int} {a : α} (h : idx l j = some a) : ∃ i : Nat, j = i ∧ i < l.length ∧ l[i]? = some a := by
  cases j with
  | ofNat i => exact ⟨i, rfl, (List.getElem?_eq_some_iff.1 h).1, h⟩
  | negSucc i => simp [idx] at h

abbrev Rd := Pos → Option (List SV)
def RdLe (f g : Rd) : Prop := ∀ b c, f b = some c → g b = some c

/-- s is a slice (of elements of z cells) that holds l. -/
def Slc {α : Type} (f : Rd) (z : Nat) (R : List SV → α → Prop) (s : SV) (l : List α) : Prop :=
  (s = .nils ∧ l = []) ∨ ∃ b off c, ((∃ cap, l.length ≤ cap ∧ s = .slice b off l.length cap) ∨ s = .ope b off l.length z) ∧ f b = some c ∧ off + l.length * z ≤ c.length ∧ ∀ (i : Nat) (a : α), l[i]? = some a → R ((c.drop (off + i * z)).take z) a
/-- Elements that hold no places. -/
def FlatR {α : Type} (enc : α → List SV) (cs : List SV) (a : α) : Prop := cs = enc a
/-- A pointer to cells. -/
def PtrTo (f : Rd) (s : SV) (cs : List SV) : Prop := ∃ b off c, s = .ptr b off ∧ f b = some c ∧ off + cs.length ≤ c.length ∧ (c.drop off).take cs.length = cs

theorem Slc.mono {α : Type} {f g : Rd} {z : Nat} {R R' : List SV → α → Prop} {s : SV} {l : List α} (h : Slc f z R s l) (hf : RdLe f g) (hR : ∀ cs a, R cs a → R' cs a) : Slc g z R' s l := by
  rcases h with h | ⟨b, off, c, h1, h2, h3, h4⟩
  · exact .inl h
  · exact .inr ⟨b, off, c, h1, hf b c h2, h3, fun i a ha => hR _ _ (h4 i a ha)⟩
theorem PtrTo.mono {f g : Rd} {s : SV} {cs : List SV} (h : PtrTo f s cs) (hf : RdLe f g) : PtrTo g s cs := by
  obtain ⟨b, off, c, h1, h2, h3⟩ := h
  exact ⟨b, off, c, h1, hf b c h2, h3⟩
theorem rdLe_ro (M : Mem) : RdLe (ro M) (rd M) := fun _ _ h => ro_rd h
theorem MemLe.rdLe {M M' : Mem} (h : MemLe M M') : RdLe (Go.Ev.ro M) (Go.Ev.ro M') := h.ro
theorem RoLe.rdLe {M M' : Mem} (h : RoLe M M') : RdLe (Go.Ev.ro M) (Go.Ev.ro M') := h.ro
theorem rdLe_frozen (M : Mem) : RdLe (rd M) (ro (frozen M)) := by
  intro b c h
  unfold Go.Ev.rd at h
  split at h
  · rename_i hb
    refine ro_mk hb ?_
    rw [frozen_get]
    rcases rowOf_eq h with ⟨e, k, h1⟩ | h1 | h1 <;> rw [h1]
    · exact .inl rfl
    · exact .inr rfl
    · exact .inl rfl
  · simp at h
theorem ro_row {M : Mem} {b : Pos} {c : List SV} (h : ro M b = some c) : rowOf M b = some c := rd_row (ro_rd h)

theorem PtrTo.field {f : Rd} {s : SV} {cs ds : List SV} {o : Nat} (h : PtrTo f s cs) (hd : ds = cs.drop o) (ho : o ≤ cs.length) : ∃ b off, s = .ptr b off ∧ PtrTo f (.ptr b (off + o)) ds := by
  obtain ⟨b, off, c, h1, h2, h3, h4⟩ := h
  refine ⟨b, off, h1, b, off + o, c, rfl, h2, ?_, ?_⟩
  · subst hd; simp; omega
  · subst hd
    rw [← List.drop_drop]
    conv => rhs; rw [← h4]
    rw [List.drop_take]
    simp

section
variable {B : Nat} {fn : FuncId} {n : Nat} {Q : SV → Mem → Prop} {e : Env} {k : List SItem} {M : Mem}

/- WHAT OPERATIONS GIVE -/
theorem ex_move {x : Operand} {s : SV} (h : ar e x = some s) : execO P M (treeOf e) (.move x) = .val s M := by
  show eMove M (treeOf e) x = _
  unfold eMove
  rw [ar_arg h]
theorem ex_assign {x : Operand} {s : SV} (h : ar e x = some s) : execO P M (treeOf e) (.assign x) = .val s M := ex_move (P := P) h
theorem ex_bin {op : BinOp} {t u : TypeId} {x y : Operand} {a b : SV} (h : ar e x = some a) (h' : ar e y = some b) : execO P M (treeOf e) (.binOp op t x y u) = xBin3 P op t (cst x || cst y) a b M := by
  show eBin P M (treeOf e) op t x y u = _
  unfold eBin
  rw [ar_arg h, ar_arg h']
  first | rfl | done
theorem xBin_int {op : BinOp} {t : TypeId} {c : Bool} {kk : IntKind} {a b : Int} (h1 : op ≠ .shl) (h2 : op ≠ .shr) : xBin3 P op t c (.int kk a) (.int kk b) M = optOut M (intOp op kk a b) := by
  have e1 : kindBeq kk kk = true := by simp [kindBeq]
  cases op <;> first | (simp [xBin3, xBin2, xBin, e1]; done) | exact absurd rfl h1 | exact absurd rfl h2
variable {t u : TypeId} {x y : Operand} {kk : IntKind} {a b : Int}
theorem ex_add (h : ar e x = some (.int kk a)) (h' : ar e y = some (.int kk b)) : execO P M (treeOf e) (.binOp .add t x y u) = .val (.int kk (kk.wrap (a + b))) M := by
  rw [ex_bin h h', xBin_int (by simp) (by simp)]; simp [intOp, optOut, wrapZ_eq]
theorem ex_sub (h : ar e x = some (.int kk a)) (h' : ar e y = some (.int kk b)) : execO P M (treeOf e) (.binOp .sub t x y u) = .val (.int kk (kk.wrap (a - b))) M := by
  rw [ex_bin h h', xBin_int (by simp) (by simp)]; simp [intOp, optOut, wrapZ_eq]; rfl
theorem ex_mul (h : ar e x = some (.int kk a)) (h' : ar e y = some (.int kk b)) : execO P M (treeOf e) (.binOp .mul t x y u) = .val (.int kk (kk.wrap (a * b))) M := by
  rw [ex_bin h h', xBin_int (by simp) (by simp)]; simp [intOp, optOut, wrapZ_eq]
theorem ex_quo (h : ar e x = some (.int kk a)) (h' : ar e y = some (.int kk b)) (hb : b ≠ 0) : execO P M (treeOf e) (.binOp .quo t x y u) = .val (.int kk (kk.wrap (a.tdiv b))) M := by
  have e0 : eqZ b 0 = false := by rw [eqZ_eq]; simpa using hb
  rw [ex_bin h h', xBin_int (by simp) (by simp)]; simp [intOp, optOut, wrapZ_eq, e0]
theorem ex_rem (h : ar e x = some (.int kk a)) (h' : ar e y = some (.int kk b)) (hb : b ≠ 0) : execO P M (treeOf e) (.binOp .rem t x y u) = .val (.int kk (a.tmod b)) M := by
  have e0 : eqZ b 0 = false := by rw [eqZ_eq]; simpa using hb
  rw [ex_bin h h', xBin_int (by simp) (by simp)]; simp [intOp, optOut, e0]
theorem ex_eql (h : ar e x = some (.int kk a)) (h' : ar e y = some (.int kk b)) : execO P M (treeOf e) (.binOp .eql t x y u) = .val (.bool (a == b)) M := by
  rw [ex_bin h h', xBin_int (by simp) (by simp)]; simp [intOp, optOut, eqZ_eq]
theorem ex_neq (h : ar e x = some (.int kk a)) (h' : ar e y = some (.int kk b)) : execO P M (treeOf e) (.binOp .neq t x y u) = .val (.bool (!(a == b))) M := by
  rw [ex_bin h h', xBin_int (by simp) (by simp)]; simp [intOp, optOut, eqZ_eq]
theorem ex_lss (h : ar e x = some (.int kk a)) (h' : ar e y = some (.int kk b)) : execO P M (treeOf e) (.binOp .lss t x y u) = .val (.bool (decide (a < b))) M := by
  rw [ex_bin h h', xBin_int (by simp) (by simp)]; simp only [intOp, optOut, leZ_eq]; congr 2; rw [Bool.eq_iff_iff]; simp
theorem ex_leq (h : ar e x = some (.int kk a)) (h' : ar e y = some (.int kk b)) : execO P M (treeOf e) (.binOp .leq t x y u) = .val (.bool (decide (a ≤ b))) M := by
  rw [ex_bin h h', xBin_int (by simp) (by simp)]; simp only [intOp, optOut, leZ_eq]
theorem ex_gtr (h : ar e x = some (.int kk a)) (h' : ar e y = some (.int kk b)) : execO P M (treeOf e) (.binOp .gtr t x y u) = .val (.bool (decide (b < a))) M := by
  rw [ex_bin h h', xBin_int (by simp) (by simp)]; simp only [intOp, optOut, leZ_eq]; congr 2; rw [Bool.eq_iff_iff]; simp
theorem ex_geq (h : ar e x = some (.int kk a)) (h' : ar e y = some (.int kk b)) : execO P M (treeOf e) (.binOp .geq t x y u) = .val (.bool (decide (b ≤ a))) M := by
  rw [ex_bin h h', xBin_int (by simp) (by simp)]; simp only [intOp, optOut, leZ_eq]
theorem ex_shl {kj : IntKind} {j : Nat} (h : ar e x = some (.int kk a)) (h' : ar e y = some (.int kj (j : Int))) : execO P M (treeOf e) (.binOp .shl t x y u) = .val (.int kk (kk.wrap (a * 2 ^ (min j kk.bits)))) M := by
  rw [ex_bin h h']
  have : xBin3 P .shl t (cst x || cst y) (.int kk a) (.int kj (j : Int)) M = optOut M (shiftOp .shl kk a (j : Int)) := by simp [xBin3, xBin2, xBin]
  rw [this]
  have e1 : intNat (j : Int) = some j := rfl
  simp only [shiftOp, e1, optOut, wrapZ_eq]
  have : Int.mul a (Int.ofNat (Nat.pow 2 (Nat.min j kk.bits))) = a * 2 ^ (min j kk.bits) := by
    show a * ((2 ^ (min j kk.bits) : Nat) : Int) = _
    simp
  rw [this]
theorem ex_shr {kj : IntKind} {j : Nat} (h : ar e x = some (.int kk a)) (h' : ar e y = some (.int kj (j : Int))) : execO P M (treeOf e) (.binOp .shr t x y u) = .val (.int kk (a.fdiv (2 ^ (min j kk.bits)))) M := by
  rw [ex_bin h h']
  have : xBin3 P .shr t (cst x || cst y) (.int kk a) (.int kj (j : Int)) M = optOut M (shiftOp .shr kk a (j : Int)) := by simp [xBin3, xBin2, xBin]
  rw [this]
  have e1 : intNat (j : Int) = some j := rfl
  simp only [shiftOp, e1, optOut]
  have : Int.fdiv a (Int.ofNat (Nat.pow 2 (Nat.min j kk.bits))) = a.fdiv (2 ^ (min j kk.bits)) := by
    show a.fdiv ((2 ^ (min j kk.bits) : Nat) : Int) = _
    simp
  rw [this]
theorem ex_not {p : Bool} (h : ar e x = some (.bool p)) : execO P M (treeOf e) (.unOp .not t x) = .val (.bool (!p)) M := by
  show eUn M (treeOf e) .not t x = _
  unfold eUn
  rw [ar_arg h]
  cases p <;> rfl
theorem ex_neg (h : ar e x = some (.int kk a)) : execO P M (treeOf e) (.unOp .neg t x) = .val (.int kk (kk.wrap (-a))) M := by
  show eUn M (treeOf e) .neg t x = _
  unfold eUn
  rw [ar_arg h]
  show Out.val (.int kk (wrapZ kk (Int.sub 0 a))) M = _
  rw [wrapZ_eq]
  congr 3
  show 0 - a = -a
  omega
theorem ex_pickT {z : Operand} {s s' : SV} (hc : ar e x = some (.bool true)) (h : ar e y = some s) (h' : ar e z = some s') : execO P M (treeOf e) (.pick x y z) = .val s M := by
  show ePick M (treeOf e) x y z = _
  unfold ePick
  rw [ar_arg hc, ar_arg h, ar_arg h']
  rfl
theorem ex_pickF {z : Operand} {s s' : SV} (hc : ar e x = some (.bool false)) (h : ar e y = some s) (h' : ar e z = some s') : execO P M (treeOf e) (.pick x y z) = .val s' M := by
  show ePick M (treeOf e) x y z = _
  unfold ePick
  rw [ar_arg hc, ar_arg h, ar_arg h']
  rfl
theorem ex_extract {l : List SV} {j : Nat} {s : SV} (h : ar e x = some (.tuple l)) (hl : nth l j = some s) : execO P M (treeOf e) (.extract x j) = .val s M := by
  show eExtract M (treeOf e) x j = _
  unfold eExtract
  rw [ar_arg h]
  show xExtract j (.tuple l) M = _
  unfold xExtract
  simp only [hl]
theorem ex_field {l : List SV} {j : Nat} {s : SV} {v : TypeId × Nat} (h : ar e x = some (.agg l)) (hf : fieldOf P t j = some v) (hl : partS P v.1 l v.2 = some s) : execO P M (treeOf e) (.field t x j) = .val s M := by
  show eField P M (treeOf e) t x j = _
  unfold eField
  rw [ar_arg h]
  show xField P t j (.agg l) M = _
  unfold xField
  simp only [hf, hl]

noncomputable def ars (e : Env) : List Operand → Option (List SV)
  | [] => some []
  | x :: l => match ar e x, ars e l with
    | some s, some r => some (s :: r)
    | _, _ => none
theorem ars_args : ∀ {l : List Operand} {r : List SV}, ars e l = some r → ∀ M, args M (treeOf e) l = some r
  | [], r, h, M => h
  | x :: l, r, h, M => by
    unfold ars at h
    split at h
    · rename_i s r' hs hr
      simp only [Option.some.injEq] at h
      subst h
      show Option.rec (motive := fun _ => Option (List SV)) none (fun x => Option.rec none (fun r => some (x :: r)) (args M (treeOf e) l)) (arg M (treeOf e) x) = _
      rw [ar_arg hs, ars_args hr M]
    · simp at h

theorem ex_builtin {bi : Builtin} {xs : Array Operand} {ts : Array TypeId} {l : List SV} (h : ars e xs.toList = some l) : execO P M (treeOf e) (.call ⟨.builtin bi, xs, ts⟩) = xBuiltin P bi ts.toList l M := by
  show eBuiltin P M (treeOf e) xs ts bi = _
  unfold eBuiltin
  rw [ars_args h M]
  rfl
theorem ex_call {f : FuncId} {xs : Array Operand} {ts : Array TypeId} {l : List SV} (h : ars e xs.toList = some l) (hk : makeK P f = none) (hc : callable P f = true) : execO P M (treeOf e) (.call ⟨.value (.func f), xs, ts⟩) = .enter f l M := by
  show eValue P M (treeOf e) xs (.func f) = _
  unfold eValue
  rw [ars_args h M]
  show xCall2 P (.fn (.func f) [] []) l M = _
  unfold xCall2
  simp only [hk]
  unfold xCall
  simp only [hc, app_eq]
  simp

theorem ex_len {α : Type} {z : Nat} {R : List SV → α → Prop} {f : Rd} {s : SV} {l : List α} (h : ar e x = some s) (hs : Slc f z R s l) (hk : lenK P t = some .sl) : execO P M (treeOf e) (.call ⟨.builtin .len, #[x], #[u]⟩) = .val (.int .i64 l.length) M ∨ t ≠ u := by
  by_cases htu : t = u
  · left
    subst htu
    rw [ex_builtin (l := [s]) (by show (match ar e x, ars e [] with | some s, some r => some (s :: r) | _, _ => none) = _; rw [h]; rfl)]
    show xLen2 P t s M = _
    rcases hs with ⟨rfl, rfl⟩ | ⟨b, off, c, (⟨cap, _, rfl⟩ | rfl), _⟩ <;> simp [xLen2, xLen, hk, goI]
  · exact .inr htu
theorem ex_len' {α : Type} {z : Nat} {R : List SV → α → Prop} {f : Rd} {s : SV} {l : List α} (h : ar e x = some s) (hs : Slc f z R s l) (hk : lenK P t = some .sl) : execO P M (treeOf e) (.call ⟨.builtin .len, #[x], #[t]⟩) = .val (.int .i64 l.length) M :=
  (ex_len (u := t) h hs hk).resolve_right (by simp)
theorem ex_lenS {s : List UInt8} (h : ar e x = some (.str s)) (hk : lenK P t = some .str) : execO P M (treeOf e) (.call ⟨.builtin .len, #[x], #[t]⟩) = .val (.int .i64 s.length) M := by
  rw [ex_builtin (l := [.str s]) (by show (match ar e x, ars e [] with | some s, some r => some (s :: r) | _, _ => none) = _; rw [h]; rfl)]
  show xLen2 P t (.str s) M = _
  simp [xLen2, xLen, hk, goI, lenB_eq]
theorem ex_min (h : ar e x = some (.int kk a)) (h' : ar e y = some (.int kk b)) {ts : Array TypeId} : execO P M (treeOf e) (.call ⟨.builtin .min, #[x, y], ts⟩) = .val (.int kk (min a b)) M := by
  rw [ex_builtin (l := [.int kk a, .int kk b]) (by show (match ar e x, (match ar e y, ars e [] with | some s, some r => some (s :: r) | _, _ => none) with | some s, some r => some (s :: r) | _, _ => none) = _; rw [h, h']; rfl)]
  show optOut M (minL kk a [.int kk b]) = _
  simp only [minL, leZ_eq]
  by_cases hab : a ≤ b
  · simp [hab, optOut, Int.min_eq_left hab]
  · simp [hab, optOut, Int.min_eq_right (by omega : b ≤ a)]
theorem ex_max (h : ar e x = some (.int kk a)) (h' : ar e y = some (.int kk b)) {ts : Array TypeId} : execO P M (treeOf e) (.call ⟨.builtin .max, #[x, y], ts⟩) = .val (.int kk (max a b)) M := by
  rw [ex_builtin (l := [.int kk a, .int kk b]) (by show (match ar e x, (match ar e y, ars e [] with | some s, some r => some (s :: r) | _, _ => none) with | some s, some r => some (s :: r) | _, _ => none) = _; rw [h, h']; rfl)]
  show optOut M (maxL kk a [.int kk b]) = _
  simp only [maxL, leZ_eq]
  by_cases hab : b ≤ a
  · simp [hab, optOut, Int.max_eq_left hab]
  · simp [hab, optOut, Int.max_eq_right (by omega : a ≤ b)]

/-- Loads. -/
theorem ex_load {f : Rd} {s : SV} {v : SV} (h : ar e x = some s) (hp : PtrTo f s [v]) (hf : RdLe f (rowOf M)) (hz : aggSize P t = some none) : execO P M (treeOf e) (.load t x) = .val v M := by
  obtain ⟨b, off, c, rfl, h2, h3, h4⟩ := hp
  show eLoad P M (treeOf e) t x = _
  unfold eLoad
  rw [ar_arg h]
  show xLoad P t (.ptr b off) M = _
  unfold xLoad
  have hn : nth c off = some v := by
    rw [nth_eq]
    have := congrArg (fun l => l[0]?) h4
    simpa [List.getElem?_take, List.getElem?_drop] using this
  simp only [hf b c h2, hz, hn]
theorem ex_loadN {f : Rd} {s : SV} {cs : List SV} (h : ar e x = some s) (hp : PtrTo f s cs) (hf : RdLe f (rowOf M)) (hz : aggSize P t = some (some cs.length)) : execO P M (treeOf e) (.load t x) = .val (.agg cs) M := by
  obtain ⟨b, off, c, rfl, h2, h3, h4⟩ := hp
  show eLoad P M (treeOf e) t x = _
  unfold eLoad
  rw [ar_arg h]
  show xLoad P t (.ptr b off) M = _
  unfold xLoad
  have hle : Nat.ble (Nat.add off cs.length) (len c) = true := by rw [len_eq]; exact Nat.ble_eq_true_of_le h3
  simp only [hf b c h2, hz, hle, tk_eq, dp_eq, h4]

theorem rdLe_roRow (M : Mem) : RdLe (ro M) (rowOf M) := fun _ _ h => ro_row h
theorem Own.row {M b t kk c} (h : Own M b t kk c) : rowOf M b = some c := rowOf_row h.get
/-- A pointer into a row of the call's own. -/
theorem Own.ptr {M : Mem} {b : Pos} {t : TypeId} {kk : RK} {c : List SV} (h : Own M b t kk c) (off : Nat) {cs : List SV} (hl : off + cs.length ≤ c.length) (hc : (c.drop off).take cs.length = cs) : PtrTo (rowOf M) (.ptr b off) cs := ⟨b, off, c, rfl, h.row, hl, hc⟩
theorem rdLe_rfl {f : Rd} : RdLe f f := fun _ _ h => h

theorem ex_fieldAddr {j o off : Nat} {b : Pos} (h : ar e x = some (.ptr b off)) (hf : fieldOff P t j = some o) : execO P M (treeOf e) (.fieldAddr t x j) = .val (.ptr b (off + o)) M := by
  show eFieldA P M (treeOf e) t x j = _
  unfold eFieldA
  rw [ar_arg h]
  show xFieldAddr P t j (.ptr b off) M = _
  unfold xFieldAddr
  simp only [hf]
  rfl

/-- An element of a slice. -/
theorem ex_elem {α : Type} {z : Nat} {R : List SV → α → Prop} {f : Rd} {s : SV} {l : List α} {el : α} (h : ar e x = some s) (h' : ar e y = some (.int kk a)) (hs : Slc f z R s l) (hi : idx l a = some el) (hz : elems P t = some (.sl z)) :
    ∃ s' cs, execO P M (treeOf e) (.indexAddr t x y) = .val s' M ∧ PtrTo f s' cs ∧ R cs el ∧ cs.length = z := by
  obtain ⟨i, rfl, hlt, hel⟩ := idx_some hi
  have hn : natIn (i : Int) l.length = some i := by
    show Bool.rec none (some i) (Nat.ble (Nat.succ i) l.length) = some i
    rw [show Nat.ble (Nat.succ i) l.length = true from Nat.ble_eq_true_of_le hlt]
  rcases hs with ⟨rfl, rfl⟩ | ⟨b, off, c, hs, h2, h3, h4⟩
  · simp at hlt
  · have hle : (i + 1) * z ≤ l.length * z := Nat.mul_le_mul_right z hlt
    have hle2 : (i + 1) * z = i * z + z := Nat.succ_mul i z
    have hlen : ((c.drop (off + i * z)).take z).length = z := by simp; omega
    refine ⟨.ptr b (off + i * z), (c.drop (off + i * z)).take z, ?_, ⟨b, off + i * z, c, rfl, h2, by rw [hlen]; omega, by rw [hlen]⟩, h4 i el hel, hlen⟩
    show eIndexA P M (treeOf e) t x y = _
    unfold eIndexA
    rw [ar_arg h, ar_arg h']
    rcases hs with ⟨cap, _, rfl⟩ | rfl
    · show xIndexAddr P t (.slice b off l.length cap) (.int kk (i : Int)) M = _
      unfold xIndexAddr
      simp only [hz, hn]
      rfl
    · show xIndexAddr P t (.ope b off l.length z) (.int kk (i : Int)) M = _
      unfold xIndexAddr
      simp only [hz, hn]
      rfl

theorem Run.elem {α : Type} {z : Nat} {R : List SV → α → Prop} {f : Rd} {s : SV} {l : List α} {el : α} {all : Array Oper} {r : List Oper} {d : Tmp} {ty : TypeId} {pos : String} {af : Array Edge} {g : Option (Nat × Bool)}
    (hw : wantS all (treeOf e) ⟨some d, .indexAddr t x y, ty, pos, af, g⟩ = some true) (h : ar e x = some s) (h' : ar e y = some (.int kk a)) (hs : Slc f z R s l) (hi : idx l a = some el) (hz : elems P t = some (.sl z)) (hd : Nat.ble (Nat.succ d) n = true)
    (next : ∀ s' cs, PtrTo f s' cs → R cs el → cs.length = z → Run P B fn n Q ((d, s') :: e) (.ops all r :: k) M) : Run P B fn n Q e (.ops all (⟨some d, .indexAddr t x y, ty, pos, af, g⟩ :: r) :: k) M := by
  obtain ⟨s', cs, h1, h2, h3, h4⟩ := ex_elem (P := P) (M := M) h h' hs hi hz
  exact .opG hw h1 hd (next s' cs h2 h3 h4)

/-- A new variable. -/
theorem MRel.memLe_new {m : Map} {w : World} (hr : MRel B m M w) (o : SObj) : MemLe M ⟨M.t.put (some o) M.next, M.next.succ, M.floor⟩ := by
  have hne : ∀ b x, M.t.get b = some x → M.next ≠ b := by
    intro b x h he
    rw [← he, (hr.fresh M.next (Nat.le_refl _)).2] at h
    simp at h
  have hlt : ∀ b : Pos, b.num < M.next.num → b.num < M.next.succ.num := by intro b h; rw [Pos.num_succ]; omega
  refine ⟨fun b c h => ?_, fun b t kk c h => ⟨?_, h.low, hlt b h.lt⟩, by show M.next.num ≤ M.next.succ.num; rw [Pos.num_succ]; omega⟩
  · obtain ⟨hb, h⟩ := ro_get h
    refine ro_mk (hlt b hb) ?_
    rcases h with h | h
    · exact .inl (by show Tree.get b (M.t.put _ _) = _; rw [Tree.get_put_other _ _ (hne b _ h)]; exact h)
    · exact .inr (by show Tree.get b (M.t.put _ _) = _; rw [Tree.get_put_other _ _ (hne b _ h)]; exact h)
  · show Tree.get b (M.t.put _ _) = _
    rw [Tree.get_put_other _ _ (hne b _ h.get)]
    exact h.get

theorem Run.new {all : Array Oper} {r : List Oper} {d : Tmp} {op : Op} {ty : TypeId} {pos : String} {af : Array Edge} {g : Option (Nat × Bool)} {tt : TypeId} {kk : RK} {v : Pos → SV} {c : List SV}
    (hw : wantS all (treeOf e) ⟨some d, op, ty, pos, af, g⟩ = some true) (hx : execO P M (treeOf e) op = .val (v (nextOf M)) (newRowS tt kk M c)) (hd : Nat.ble (Nat.succ d) n = true)
    (next : ∀ b M', Own M' b tt kk c → MemLe M M' → M.next.num ≤ b.num → Run P B fn n Q ((d, v b) :: e) (.ops all r :: k) M') : Run P B fn n Q e (.ops all (⟨some d, op, ty, pos, af, g⟩ :: r) :: k) M := by
  intro hmix m w tm todo cs hr ht hn hk
  have hnr : newRowS tt kk M c = ⟨M.t.put (some (.row tt kk c)) M.next, M.next.succ, M.floor⟩ := by cases M; rfl
  refine (Run.opG hw hx hd (next (nextOf M) _ ?_ ?_ ?_)) hmix m w tm todo cs hr ht hn hk
  · rw [hnr, nextOf_eq]
    exact ⟨Tree.get_put_same _ _ _, hr.flo, by show M.next.num < M.next.succ.num; rw [Pos.num_succ]; omega⟩
  · rw [hnr]; exact hr.memLe_new _
  · rw [nextOf_eq]; exact Nat.le_refl _

theorem ex_box {s : SV} (h : ar e x = some s) : execO P M (treeOf e) (.box t x) = .val (.ptr (nextOf M) 0) (newRowS t .whole M (cellsOf s)) := by
  show eBox M (treeOf e) t x = _
  unfold eBox
  rw [ar_arg h]
  rfl
theorem ex_alloc {l : List SV} (h : zerosOf P t = some l) : execO P M (treeOf e) (.alloc t) = .val (.ptr (nextOf M) 0) (newRowS t .whole M l) := by
  show xAlloc P t M = _
  unfold xAlloc
  simp only [h]
  rfl

/-- A store into a row of the call's own. -/
theorem Run.store {all : Array Oper} {r : List Oper} {ty : TypeId} {pos : String} {af : Array Edge} {g : Option (Nat × Bool)} {bb : Pos} {off zz : Nat} {s : SV} {tt : TypeId} {rk : RK} {c c' : List SV}
    (hw : wantS all (treeOf e) ⟨none, .store t x y, ty, pos, af, g⟩ = some true) (h : ar e x = some (.ptr bb off)) (h' : ar e y = some s) (ho : Own M bb tt rk c) (hz : szOf P t = some zz) (hl : (cellsOf s).length = zz) (hk : frzOK rk off = true) (hle : off + zz ≤ c.length) (h1 : ones (cellsOf s) = true) (hc : c' = c.take off ++ (cellsOf s ++ c.drop (off + zz)))
    (next : ∀ M', Own M' bb tt rk c' → RoLe M M' → (∀ b t kk c, b ≠ bb → Own M b t kk c → Own M' b t kk c) → Run P B fn n Q e (.ops all r :: k) M') : Run P B fn n Q e (.ops all (⟨none, .store t x y, ty, pos, af, g⟩ :: r) :: k) M := by
  have hput : putCells M bb off (cellsOf s) = some ⟨M.t.put (some (.row tt rk c')) bb, M.next, M.floor⟩ := by
    unfold putCells
    have ha : above M bb = true := Nat.ble_eq_true_of_le ho.low
    have hb : Nat.ble (Nat.add off zz) c.length = true := Nat.ble_eq_true_of_le hle
    simp only [ho.get, ha, hk, h1, app_eq, tk_eq, dp_eq, len_eq, hl, hc, hb]
    rfl
  refine .op0 hw (v := .tuple []) (M' := ⟨M.t.put (some (.row tt rk c')) bb, M.next, M.floor⟩) ?_ (next _ ⟨Tree.get_put_same _ _ _, ho.low, ho.lt⟩ ⟨fun b cc hb => ?_, Nat.le_refl _⟩ fun b t kk cc hne hb => ⟨?_, hb.low, hb.lt⟩)
  · show eStore P M (treeOf e) t x y = _
    unfold eStore
    rw [ar_arg h, ar_arg h']
    show xStore P t (.ptr bb off) s M = _
    unfold xStore
    have hb : Nat.beq (len (cellsOf s)) zz = true := by rw [len_eq, hl]; exact Nat.beq_refl zz
    simp only [hz, hb, hput]
  · obtain ⟨hlt, hb⟩ := ro_get hb
    refine ro_mk hlt ?_
    have hne : bb ≠ b := by
      intro he
      subst he
      rw [ho.get] at hb
      simp at hb
    rcases hb with hb | hb
    · exact .inl (by show Tree.get b (M.t.put _ _) = _; rw [Tree.get_put_other _ _ hne]; exact hb)
    · exact .inr (by show Tree.get b (M.t.put _ _) = _; rw [Tree.get_put_other _ _ hne]; exact hb)
  · show Tree.get b (M.t.put _ _) = _
    rw [Tree.get_put_other _ _ (Ne.symm hne)]
    exact hb.get
end

/-- Values that hold no places. -/
def plain : SV → Bool
  | .bool _ => true
  | .int _ _ => true
  | .str _ => true
  | .nilp => true
  | .nils => true
  | .nilm => true
  | .nilf => true
  | .nili => true
  | .tuple l => plains l
  | .agg l => plains l
  | _ => false
where plains : List SV → Bool
  | [] => true
  | s :: l => plain s && plains l

mutual
theorem plain_conc : ∀ {s : SV}, plain s = true → ∀ m m' : Map, conc m s = conc m' s
  | .bool _, _, _, _ => rfl
  | .int _ _, _, _, _ => rfl
  | .str _, _, _, _ => rfl
  | .nilp, _, _, _ => rfl
  | .nils, _, _, _ => rfl
  | .nilm, _, _, _ => rfl
  | .nilf, _, _, _ => rfl
  | .nili, _, _, _ => rfl
  | .tuple l, h, m, m' => by simp only [conc]; rw [plains_conc (l := l) h m m']
  | .agg l, h, m, m' => by simp only [conc]; rw [plains_conc (l := l) h m m']
  | .ptr _ _, h, _, _ => by simp [plain] at h
  | .slice _ _ _ _, h, _, _ => by simp [plain] at h
  | .ope _ _ _ _, h, _, _ => by simp [plain] at h
  | .map _, h, _, _ => by simp [plain] at h
  | .fn _ _ _, h, _, _ => by simp [plain] at h
  | .yield _, h, _, _ => by simp [plain] at h
  | .iface _ _, h, _, _ => by simp [plain] at h
theorem plains_conc : ∀ {l : List SV}, plain.plains l = true → ∀ m m' : Map, concs m l = concs m' l
  | [], _, _, _ => rfl
  | s :: l, h, m, m' => by
    simp only [plain.plains, Bool.and_eq_true] at h
    simp only [concs]
    rw [plain_conc h.1 m m', plains_conc h.2 m m']
end

/-- A function that returns a value without places: memory is as before. -/
theorem CallsTo.plain {f : FuncId} {F : Func} {c : Code} {xs : List SV} {M : Mem} {s0 : SV} (hF : P.funcs[f]? = some F) (hb : F.body = some c) (hn : Nat.ble xs.length F.ntmps = true) (hp : Go.Ev.plain s0 = true)
    (h : ∀ B, Run P B f F.ntmps (fun s _ => s = s0) (argE 0 [] xs) [.code c] (frozen M)) : CallsTo P f xs M fun s M' => s = s0 ∧ M' = M := by
  intro hmix B m w vs hr has cf cs
  obtain ⟨w', m', Me, s, x, hl, hv, rfl, hs⟩ := CallsTo.raw hmix hF hb hn h hr has cf cs
  exact ⟨m, w', M, s, x, .kept hr hl.below, by rw [← hv]; exact plain_conc hp _ _, ⟨rfl, rfl⟩, hs⟩

end Go.Ev

