/- A part of the small machine. -/
import Derived.Test.YtoobfmfgbcohcabGreatDoorEvW12
set_option linter.unusedVariables false
/- The small machine as a logic over whole stacks of frames: what a run comes to, operation by operation, from what is known of temporaries and of memory. -/
namespace Go.Ev
open Go.RowKit
variable {P : Program}

theorem zzh {u t : Nat} (h : ¬ u = t) : Nat.beq u t = false := by
 cases hb : Nat.beq u t with
 | false => rfl
 | true => exact absurd (Nat.eq_of_beq_eq_true hb) h

/-- What is known of the temporaries. -/
abbrev Env := List (Nat × SV)
def lk (t : Nat) : Env → Option SV
 | [] => none
 | (u, s) :: r => bif Nat.beq u t then some s else lk t r
noncomputable def treeOf : Env → Tree SV
 | [] => .leaf
 | (u, s) :: r => (treeOf r).put (some s) (Pos.ofNat u)

theorem zi7 (t : Nat) : ∀ e : Env, (treeOf e).get (Pos.ofNat t) = lk t e
 | [] => Tree.get_leaf _
 | (u, s) :: r => by
  by_cases h : u = t
  ·subst h
   simp [treeOf, lk, Tree.get_put_same]
  ·have hb : Nat.beq u t = false := zzh h
   rw [treeOf, Tree.get_put_other _ _ (fun e => h (Pos.ofNat_inj e)), zi7 t r]
   simp [lk, hb]

/-- What does not hang on the world. -/
def WF (M : Mem) : Prop := (∀ b : Pos, M.next.num ≤ b.num → M.t.get b = none) ∧ M.floor ≤ M.next.num
theorem WF.fresh {M : Mem} (h : WF M) {b : Pos} {o : SObj} (hb : M.t.get b = some o) : b.num < M.next.num := by
 apply Classical.byContradiction
 intro hn
 rw [h.1 b (by omega)] at hb
 simp at hb
theorem WF.new {M : Mem} (h : WF M) (o : SObj) : WF ⟨M.t.put (some o) M.next, M.next.succ, M.floor⟩ := by
 refine ⟨fun b hb => ?_, ?_⟩
 ·have hb' : M.next.succ.num ≤ b.num := hb
  rw [Pos.num_succ] at hb'
  show Tree.get b (M.t.put _ _) = none
  rw [Tree.get_put_other _ _ (fun he => by subst he; omega)]
  exact h.1 b (by omega)
 ·show M.floor ≤ M.next.succ.num
  rw [Pos.num_succ]
  have := h.2
  omega
theorem MRel.wf {B m M w} (hr : MRel B m M w) : WF M := ⟨fun b hb => (hr.fresh b hb).2, hr.flo⟩

/-- f' knows less of its temporaries than f. -/
def FLe : zi2 → zi2 → Prop
 | .mk cx n σ k, .mk cx' n' σ' k' => cx = cx' ∧ n = n' ∧ k = k' ∧ ∀ t s, σ'.get (Pos.ofNat t) = some s → σ.get (Pos.ofNat t) = some s
theorem FLe.refl (f : zi2) : FLe f f := by cases f; exact ⟨rfl, rfl, rfl, fun _ _ h => h⟩
theorem FLe.rel {m : Map} {f f' : zi2} {fr : Frame} (h : FLe f f') (hf : zlo m f fr) : zlo m f' fr := by
 obtain ⟨cx, n, σ, k⟩ := f
 obtain ⟨cx', n', σ', k'⟩ := f'
 obtain ⟨rfl, rfl, rfl, hs⟩ := h
 obtain ⟨c, tm, todo, rfl, hc, ht, hn, hk⟩ := hf
 exact ⟨c, tm, todo, rfl, hc, fun t s e => ht t s (hs t s e), hn, hk⟩
theorem FLe.fn {f f' : zi2} (h : FLe f f') : f.fn = f'.fn := by
 obtain ⟨cx, n, σ, k⟩ := f
 obtain ⟨cx', n', σ', k'⟩ := f'
 obtain ⟨rfl, rfl, rfl, hs⟩ := h
 rfl
theorem zrf {m : Map} : ∀ {cs cs' : List zi2} {frs : List Frame}, zj3 FLe cs cs' → zj3 (zlo m) cs frs → zj3 (zlo m) cs' frs
 | _, _, _, .nil, .nil => .nil
 | _, _, _, .cons a b, .cons c d => .cons (a.rel c) (zrf b d)
theorem zr0 : ∀ {cs cs' : List zi2} (f : FuncId), zj3 FLe cs cs' → zpd f cs = zpd f cs'
 | _, _, _, .nil => rfl
 | _, _, _, .cons (a := x) (b := y) a b => by
  show zpd x.fn _ = zpd y.fn _
  rw [a.fn, zr0 _ b]
theorem zkz : ∀ cs : List zi2, zj3 FLe cs cs
 | [] => .nil
 | c :: cs => .cons (.refl c) (zkz cs)

/-- The stack comes to an end, and gives s. -/
def zus (P : Program) (f : zi2) (cs : List zi2) (M : Mem) (s : SV) (M' : Mem) : Prop :=
 P.follows .mixedOrders = true → ∀ (B : Nat) (m : Map) (w : World) (fr : Frame) (frs cs0 : List Frame), MRel B m M w → zlo m f fr → zj3 (zlo m) cs frs →
  ∃ fr' w' m' x, Steps P (lone fr (frs ++ cs0) w) (lone fr' cs0 w') ∧ zi0 B m M w m' M' w' ∧ conc m' s = some x ∧ fr'.leaving P w' (.returned x) ∧ fr'.fn = zpd f.fn cs
theorem zus.weak {f f' : zi2} {cs cs' : List zi2} {M : Mem} {s : SV} {M' : Mem} (h : zus P f' cs' M s M') (hf : FLe f f') (hc : zj3 FLe cs cs') : zus P f cs M s M' := by
 intro hmix B m w fr frs cs0 hr h1 h2
 obtain ⟨fr', w', m', x, g1, g2, g3, g4, g5⟩ := h hmix B m w fr frs cs0 hr (hf.rel h1) (zrf hc h2)
 exact ⟨fr', w', m', x, g1, g2, g3, g4, by rw [g5, ← hf.fn, ← zr0 _ hc]⟩
/-- What becomes of memory in any case. -/
structure Aft (M M' : Mem) : Prop where
 wf : WF M'
 floor : M'.floor = M.floor
 next : M.next.num ≤ M'.next.num
theorem Aft.refl {M : Mem} (h : WF M) : Aft M M := ⟨h, rfl, Nat.le_refl _⟩
theorem Aft.trans {M M' M'' : Mem} (h : Aft M M') (h' : Aft M' M'') : Aft M M'' := ⟨h'.wf, h'.floor.trans h.floor, Nat.le_trans h.next h'.next⟩
theorem WF.anew {M : Mem} (h : WF M) (o : SObj) : Aft M ⟨M.t.put (some o) M.next, M.next.succ, M.floor⟩ := ⟨h.new o, rfl, by show M.next.num ≤ M.next.succ.num; rw [Pos.num_succ]; omega⟩
theorem WF.set {M : Mem} (h : WF M) {b : Pos} (o : Option SObj) (hb : b.num < M.next.num) : WF (zzk M b o) := by
 refine ⟨fun c hc => ?_, h.2⟩
 have hc' : M.next.num ≤ c.num := hc
 show Tree.get c (M.t.put o b) = none
 rw [Tree.get_put_other _ _ (fun he => by subst he; omega)]
 exact h.1 c hc'
theorem WF.shut : ∀ {ds : List Pos} {M M1 : Mem}, zoj ds M = some M1 → WF M → Aft M M1
 | [], M, M1, h, hw => by
  simp only [zoj, Option.some.injEq] at h
  subst h
  exact .refl hw
 | b :: ds, M, M1, h, hw => by
  unfold zoj at h
  split at h
  ·rename_i hb
   split at h
   ·have h2 := WF.shut h (hw.set none (hw.fresh hb))
    exact ⟨h2.wf, h2.floor, h2.next⟩
   ·simp at h
  ·simp at h

/-- Whose frame runs, and which wait for it. -/
structure Fx where
 cx : SCx
 cs : List zi2
def Run (P : Program) (fx : Fx) (n : Nat) (Q : SV → Mem → Prop) (e : Env) (k : List SItem) (M : Mem) : Prop :=
 WF M → ∃ s M', Q s M' ∧ Aft M M' ∧ zus P (.mk fx.cx n (treeOf e) k) fx.cs M s M'

section
variable {fx : Fx} {n : Nat} {Q : SV → Mem → Prop} {e : Env} {k : List SItem} {M : Mem}

theorem Run.of_stepX {D : Known} {f' : zi2} {cs' : List zi2} {M1 : Mem} {fx' : Fx} {n' : Nat} {e' : Env} {k' : List SItem} (hD : P.follows .mixedOrders = true → ∀ B, Sound P B D)
  (h : zrc noneKnown D P (.mk fx.cx n (treeOf e) k) fx.cs M = .go f' cs' M1) (hwf : WF M → Aft M M1) (hf : FLe f' (.mk fx'.cx n' (treeOf e') k')) (hcs : zj3 FLe cs' fx'.cs) (next : Run P fx' n' Q e' k' M1) : Run P fx n Q e k M := by
 intro hw
 obtain ⟨s, M', hq, hw', hrun⟩ := next (hwf hw).wf
 refine ⟨s, M', hq, (hwf hw).trans hw', ?_⟩
 intro hmix B m w fr frs cs0 hr h1 h2
 have hg := zjy (I := noneKnown) (D := D) hr (sound_none P B) (hD hmix B) hmix (cs0 := cs0) h1 h2 rfl
 rw [h] at hg
 obtain ⟨fr1, c, w1, m1, hs, hst, hf1, hc1, hb⟩ := hg
 obtain ⟨fr2, w2, m2, x, g1, g2, g3, g4, g5⟩ := hrun hmix B m1 w1 fr1 c cs0 hst.rel (hf.rel hf1) (zrf hcs hc1)
 refine ⟨fr2, w2, m2, x, hs.trans g1, hst.trans g2, g3, g4, ?_⟩
 rw [g5, ← hf.fn, ← zr0 _ hcs, hb]

theorem Run.of_step {D : Known} {σ' : Tree SV} {k' : List SItem} {M' : Mem} {e' : Env} (hD : P.follows .mixedOrders = true → ∀ B, Sound P B D) (h : zrc noneKnown D P (.mk fx.cx n (treeOf e) k) fx.cs M = .go (.mk fx.cx n σ' k') fx.cs M')
  (he : ∀ t s, lk t e' = some s → σ'.get (Pos.ofNat t) = some s) (next : Run P fx n Q e' k' M') (hwf : WF M → Aft M M' := by exact fun h => Aft.refl h) : Run P fx n Q e k M :=
 .of_stepX hD h hwf ⟨rfl, rfl, rfl, fun t s hs => he t s (by rw [← zi7]; exact hs)⟩ (zkz _) next

theorem Run.of_done {D : Known} {v : SV} {M' : Mem} (hD : P.follows .mixedOrders = true → ∀ B, Sound P B D) (h : zrc noneKnown D P (.mk fx.cx n (treeOf e) k) fx.cs M = .done v M') (hwf : WF M → Aft M M') (hq : Q v M') : Run P fx n Q e k M := by
 intro hw
 refine ⟨v, M', hq, hwf hw, ?_⟩
 intro hmix B m w fr frs cs0 hr h1 h2
 have hg := zjy (I := noneKnown) (D := D) hr (sound_none P B) (hD hmix B) hmix (cs0 := cs0) h1 h2 rfl
 rw [h] at hg
 obtain ⟨fr1, w1, m1, x, hs, hst, hv, hl, hb⟩ := hg
 exact ⟨fr1, w1, m1, x, hs, hst, hv, hl, hb⟩

/-- Less is known of the temporaries. -/
theorem Run.env {e' : Env} (h : ∀ t s, lk t e' = some s → lk t e = some s) (next : Run P fx n Q e' k M) : Run P fx n Q e k M := by
 have hf : FLe (.mk fx.cx n (treeOf e) k) (.mk fx.cx n (treeOf e') k) := ⟨rfl, rfl, rfl, fun t s hs => by rw [zi7] at hs ⊢; exact h t s hs⟩
 intro hw
 obtain ⟨s, M', h1, h2, h3⟩ := next hw
 exact ⟨s, M', h1, h2, h3.weak hf (zkz _)⟩
/-- .. of those of the frames that wait. -/
theorem Run.low {cx : SCx} {cs cs' : List zi2} (h : zj3 FLe cs cs') (next : Run P ⟨cx, cs'⟩ n Q e k M) : Run P ⟨cx, cs⟩ n Q e k M := by
 intro hw
 obtain ⟨s, M', h1, h2, h3⟩ := next hw
 exact ⟨s, M', h1, h2, h3.weak (.refl _) h⟩

def pick (ks : List Nat) (e : Env) : Env := match ks with
 | [] => []
 | t :: r => match lk t e with
  | some s => (t, s) :: pick r e
  | none => pick r e

theorem zr5 {t : Nat} {s : SV} {e : Env} : ∀ {ks : List Nat}, lk t (pick ks e) = some s → lk t e = some s
 | [], h => by simp [pick, lk] at h
 | u :: r, h => by
  unfold pick at h
  split at h
  ·rename_i x hx
   by_cases hu : u = t
   ·subst hu
    simp only [lk, Nat.beq_refl, cond_true] at h
    rw [hx]; exact h
   ·have hb : Nat.beq u t = false := zzh hu
    simp only [lk, hb, cond_false] at h
    exact zr5 h
  ·exact zr5 h

theorem Run.pick (ks : List Nat) (next : Run P fx n Q (pick ks e) k M) : Run P fx n Q e k M := Run.env (fun _ _ => zr5) next
theorem fle_pick {cx : SCx} {n : Nat} {e e' : Env} {k : List SItem} (ks : List Nat) (he : Go.Ev.pick ks e = e') : FLe (.mk cx n (treeOf e) k) (.mk cx n (treeOf e') k) := by
 subst he
 exact ⟨rfl, rfl, rfl, fun t s hs => by rw [zi7] at hs ⊢; exact zr5 hs⟩

/- CONTROL -/
theorem sound0 : P.follows .mixedOrders = true → ∀ B, Sound P B noneKnown := fun _ B => sound_none P B

theorem Run.seq {a b : Code} (next : Run P fx n Q e (.code a :: .code b :: k) M) : Run P fx n Q e (.code (.seq a b) :: k) M :=
 .of_step sound0 (σ' := treeOf e) rfl (fun t s h => by rw [zi7]; exact h) next
theorem Run.skip (next : Run P fx n Q e k M) : Run P fx n Q e (.code .skip :: k) M :=
 .of_step sound0 (σ' := treeOf e) rfl (fun t s h => by rw [zi7]; exact h) next
theorem Run.block {i : Nat} {c : Code} (next : Run P fx n Q e (.code c :: .inBlock i :: k) M) : Run P fx n Q e (.code (.block i c) :: k) M :=
 .of_step sound0 (σ' := treeOf e) rfl (fun t s h => by rw [zi7]; exact h) next
theorem Run.loop {c : Code} (next : Run P fx n Q e (.code c :: .inLoop c :: k) M) : Run P fx n Q e (.code (.loop c) :: k) M :=
 .of_step sound0 (σ' := treeOf e) rfl (fun t s h => by rw [zi7]; exact h) next
theorem Run.inBlock {i : Nat} (next : Run P fx n Q e k M) : Run P fx n Q e (.inBlock i :: k) M :=
 .of_step sound0 (σ' := treeOf e) rfl (fun t s h => by rw [zi7]; exact h) next
theorem Run.inLoop {c : Code} (next : Run P fx n Q e (.code c :: .inLoop c :: k) M) : Run P fx n Q e (.inLoop c :: k) M :=
 .of_step sound0 (σ' := treeOf e) rfl (fun t s h => by rw [zi7]; exact h) next
theorem Run.exit {i : Nat} {k' : List SItem} (h : zm0 i k = some k') (next : Run P fx n Q e k' M) : Run P fx n Q e (.code (.exit i) :: k) M := by
 refine .of_step sound0 (σ' := treeOf e) (k' := k') (M' := M) ?_ (fun t s h => by rw [zi7]; exact h) next
 show y0c fx.cx n (treeOf e) k fx.cs M i = _
 unfold y0c
 rw [h]
theorem Run.region {i : Nat} {ops : Array Oper} (next : Run P fx n Q e (.ops ops ops.toList :: k) M) : Run P fx n Q e (.code (.region i ops false) :: k) M :=
 .of_step sound0 (σ' := treeOf e) rfl (fun t s h => by rw [zi7]; exact h) next
theorem Run.opsEnd {all : Array Oper} (next : Run P fx n Q e k M) : Run P fx n Q e (.ops all [] :: k) M :=
 .of_step sound0 (σ' := treeOf e) rfl (fun t s h => by rw [zi7]; exact h) next

/-- An operand. -/
noncomputable def ar (e : Env) (x : Operand) : Option SV := match x with
 | .tmp t => lk t e
 | .const v => ofV v
 | .global _ => none
 | .func f => some (.fn (.func f) [] [])

theorem zig {x : Operand} {s : SV} (h : ar e x = some s) (M : Mem) : arg M (treeOf e) x = some s := by
 cases x with
 | tmp t => exact (zi7 t e).trans h
 | const v => exact h
 | global g => simp [ar] at h
 | func f => exact h

theorem Run.cond {x : Operand} {a b : Code} {c : Bool} (h : ar e x = some (.bool c)) (next : Run P fx n Q e (.code (bif c then a else b) :: k) M) : Run P fx n Q e (.code (.cond x a b) :: k) M := by
 refine .of_step sound0 (σ' := treeOf e) (k' := .code (bif c then a else b) :: k) (M' := M) ?_ (fun t s h => by rw [zi7]; exact h) next
 show zzy fx.cx n (treeOf e) k fx.cs M x a b = _
 unfold zzy
 rw [zig h]
 cases c <;> rfl
theorem Run.condT {x : Operand} {a b : Code} (h : ar e x = some (.bool true)) (next : Run P fx n Q e (.code a :: k) M) : Run P fx n Q e (.code (.cond x a b) :: k) M := Run.cond h next
theorem Run.condF {x : Operand} {a b : Code} (h : ar e x = some (.bool false)) (next : Run P fx n Q e (.code b :: k) M) : Run P fx n Q e (.code (.cond x a b) :: k) M := Run.cond h next
theorem Run.condT' {x : Operand} {a b : Code} {c : Bool} (h : ar e x = some (.bool c)) (hc : c = true) (next : Run P fx n Q e (.code a :: k) M) : Run P fx n Q e (.code (.cond x a b) :: k) M := by subst hc; exact Run.condT h next
theorem Run.condF' {x : Operand} {a b : Code} {c : Bool} (h : ar e x = some (.bool c)) (hc : c = false) (next : Run P fx n Q e (.code b :: k) M) : Run P fx n Q e (.code (.cond x a b) :: k) M := by subst hc; exact Run.condF h next

/- OPERATIONS -/
theorem wantS_none {all : Array Oper} {σ : Tree SV} {d : Option Tmp} {op : Op} {ty : TypeId} {pos : String} {af : Array Edge} : zil all σ ⟨d, op, ty, pos, af, none⟩ = some true := rfl
theorem zpt {all : Array Oper} {d : Option Tmp} {op : Op} {ty : TypeId} {pos : String} {af : Array Edge} {j : Nat} {want b : Bool} {t : Tmp} (h : (all[j]?).bind (·.dst) = some t) (hb : lk t e = some (.bool b)) :
  zil all (treeOf e) ⟨d, op, ty, pos, af, some (j, want)⟩ = some (b == want) := by
 unfold zil
 simp only [h, zi7, hb]
theorem zws {all : Array Oper} {d : Option Tmp} {op : Op} {ty : TypeId} {pos : String} {af : Array Edge} {j : Nat} {want : Bool} {t : Tmp} (h : (all[j]?).bind (·.dst) = some t) (hb : lk t e = some (.bool want)) :
  zil all (treeOf e) ⟨d, op, ty, pos, af, some (j, want)⟩ = some true := by
 rw [zpt h hb]; simp
theorem zx2 {all : Array Oper} {d : Option Tmp} {op : Op} {ty : TypeId} {pos : String} {af : Array Edge} {j : Nat} {want b : Bool} {t : Tmp} (h : (all[j]?).bind (·.dst) = some t) (hb : lk t e = some (.bool b)) (hne : (b == want) = false) :
  zil all (treeOf e) ⟨d, op, ty, pos, af, some (j, want)⟩ = some false := by
 rw [zpt h hb, hne]
theorem wantS_skip {all : Array Oper} {d : Option Tmp} {op : Op} {ty : TypeId} {pos : String} {af : Array Edge} {j : Nat} {want : Bool} {t : Tmp} (h : (all[j]?).bind (·.dst) = some t) (hb : lk t e = some (.tuple [])) :
  zil all (treeOf e) ⟨d, op, ty, pos, af, some (j, want)⟩ = some false := by
 unfold zil
 simp only [h, zi7, hb]
theorem wantS_yes' {all : Array Oper} {d : Option Tmp} {op : Op} {ty : TypeId} {pos : String} {af : Array Edge} {j : Nat} {want c : Bool} {t : Tmp} (h : (all[j]?).bind (·.dst) = some t) (hb : lk t e = some (.bool c)) (hc : c = want) :
  zil all (treeOf e) ⟨d, op, ty, pos, af, some (j, want)⟩ = some true := by subst hc; exact zws h hb
theorem wantS_not' {all : Array Oper} {d : Option Tmp} {op : Op} {ty : TypeId} {pos : String} {af : Array Edge} {j : Nat} {want c : Bool} {t : Tmp} (h : (all[j]?).bind (·.dst) = some t) (hb : lk t e = some (.bool c)) (hc : c = !want) :
  zil all (treeOf e) ⟨d, op, ty, pos, af, some (j, want)⟩ = some false := by subst hc; exact zx2 h hb (by cases want <;> rfl)

/-- Where a result goes. -/
def putE (d : Option Tmp) (v : SV) (e : Env) : Env := match d with
 | none => e
 | some d => (d, v) :: e
def okD (d : Option Tmp) (n : Nat) : Bool := match d with
 | none => true
 | some d => Nat.ble (Nat.succ d) n
theorem zjk {d : Option Tmp} {n : Nat} {v : SV} (h : okD d n = true) : zlp (treeOf e) n d v = some (treeOf (putE d v e)) := by
 cases d with
 | none => rfl
 | some d =>
  have h' : Nat.ble (Nat.succ d) n = true := h
  simp only [zlp, h']
  rfl

theorem Run.opM {all : Array Oper} {r : List Oper} {d : Option Tmp} {op : Op} {ty : TypeId} {pos : String} {af : Array Edge} {g : Option (Nat × Bool)} {v : SV} {M' : Mem}
  (hw : zil all (treeOf e) ⟨d, op, ty, pos, af, g⟩ = some true) (hx : execO P M (treeOf e) op = .val v M') (hwf : WF M → Aft M M') (hd : okD d n = true)
  (next : Run P fx n Q (putE d v e) (.ops all r :: k) M') : Run P fx n Q e (.ops all (⟨d, op, ty, pos, af, g⟩ :: r) :: k) M := by
 refine .of_step sound0 (σ' := treeOf (putE d v e)) (k' := .ops all r :: k) (M' := M') ?_ (fun t s h => by rw [← zi7] at h; exact h) next hwf
 show opS noneKnown P fx.cx n (treeOf e) all ⟨d, op, ty, pos, af, g⟩ r k fx.cs M = _
 rw [zrn]
 unfold zvj
 have hx' : exec P M (treeOf e) ⟨d, op, ty, pos, af, g⟩ = .val v M' := hx
 simp only [hw, hx', zjk hd]
theorem Run.opG {all : Array Oper} {r : List Oper} {d : Option Tmp} {op : Op} {ty : TypeId} {pos : String} {af : Array Edge} {g : Option (Nat × Bool)} {v : SV}
  (hw : zil all (treeOf e) ⟨d, op, ty, pos, af, g⟩ = some true) (hx : execO P M (treeOf e) op = .val v M) (hd : okD d n = true)
  (next : Run P fx n Q (putE d v e) (.ops all r :: k) M) : Run P fx n Q e (.ops all (⟨d, op, ty, pos, af, g⟩ :: r) :: k) M := .opM hw hx Aft.refl hd next

/-- What an operation does, whatever else may be. -/
def ExG (P : Program) (M : Mem) (e : Env) (op : Op) (R : SV → Mem → Prop) : Prop := WF M → ∃ v M', execO P M (treeOf e) op = .val v M' ∧ Aft M M' ∧ R v M'
theorem Run.opX {all : Array Oper} {r : List Oper} {d : Option Tmp} {op : Op} {ty : TypeId} {pos : String} {af : Array Edge} {g : Option (Nat × Bool)} {R : SV → Mem → Prop}
  (hw : zil all (treeOf e) ⟨d, op, ty, pos, af, g⟩ = some true) (hd : okD d n = true) (hx : ExG P M e op R)
  (next : ∀ v M', R v M' → Run P fx n Q (putE d v e) (.ops all r :: k) M') : Run P fx n Q e (.ops all (⟨d, op, ty, pos, af, g⟩ :: r) :: k) M := by
 intro hw0
 obtain ⟨v, M', h1, h2, h3⟩ := hx hw0
 exact Run.opM hw h1 (fun _ => h2) hd (next v M' h3) hw0

/-- An operation whose guard says no. -/
theorem Run.no {all : Array Oper} {r : List Oper} {d : Option Tmp} {op : Op} {ty : TypeId} {pos : String} {af : Array Edge} {g : Option (Nat × Bool)}
  (hw : zil all (treeOf e) ⟨d, op, ty, pos, af, g⟩ = some false) (hd : okD d n = true)
  (next : Run P fx n Q (putE d (.tuple []) e) (.ops all r :: k) M) : Run P fx n Q e (.ops all (⟨d, op, ty, pos, af, g⟩ :: r) :: k) M := by
 refine .of_step sound0 (σ' := treeOf (putE d (.tuple []) e)) (k' := .ops all r :: k) (M' := M) ?_ (fun t s h => by rw [← zi7] at h; exact h) next
 show opS noneKnown P fx.cx n (treeOf e) all ⟨d, op, ty, pos, af, g⟩ r k fx.cs M = _
 rw [zrn]
 unfold zvj
 simp only [hw, zjk hd]

/- FRAMES THAT COME AND GO -/
def zy4 (i : Nat) (e : Env) : List SV → Env
 | [] => e
 | s :: l => zy4 (i + 1) ((i, s) :: e) l
theorem zs8 : ∀ (l : List SV) (i : Nat) (e : Env), treeOf (zy4 i e l) = zpr i (treeOf e) l
 | [], _, _ => rfl
 | s :: l, i, e => zs8 l (i + 1) ((i, s) :: e)
theorem znf {f : FuncId} {F : Func} {c : Code} {xs : List SV} (hF : P.funcs[f]? = some F) (hb : F.body = some c) (hn : Nat.ble xs.length F.ntmps = true) : enterS P f xs = some (.mk ⟨f, [], none⟩ F.ntmps (treeOf (zy4 0 [] xs)) [.code c]) := by
 unfold enterS
 rw [hF]
 simp only [hb, zio, hn, zs8]
 rfl

/-- A call is followed into the function that is called. -/
theorem Run.enter {all : Array Oper} {r : List Oper} {d : Option Tmp} {op : Op} {ty : TypeId} {pos : String} {af : Array Edge} {g : Option (Nat × Bool)} {f : FuncId} {F : Func} {c : Code} {xs : List SV}
  (hw : zil all (treeOf e) ⟨d, op, ty, pos, af, g⟩ = some true) (hx : execO P M (treeOf e) op = .enter f xs M) (hF : P.funcs[f]? = some F) (hb : F.body = some c) (hn : Nat.ble xs.length F.ntmps = true)
  (next : Run P ⟨⟨f, [], none⟩, .mk fx.cx n (treeOf e) (.ops all (⟨d, op, ty, pos, af, g⟩ :: r) :: k) :: fx.cs⟩ F.ntmps Q (zy4 0 [] xs) [.code c] M) : Run P fx n Q e (.ops all (⟨d, op, ty, pos, af, g⟩ :: r) :: k) M := by
 refine .of_stepX sound0 (f' := .mk ⟨f, [], none⟩ F.ntmps (treeOf (zy4 0 [] xs)) [.code c]) (cs' := .mk fx.cx n (treeOf e) (.ops all (⟨d, op, ty, pos, af, g⟩ :: r) :: k) :: fx.cs) (M1 := M) ?_ Aft.refl (.refl _) (zkz _) next
 show opS noneKnown P fx.cx n (treeOf e) all ⟨d, op, ty, pos, af, g⟩ r k fx.cs M = _
 rw [zrn]
 unfold zvj
 have hx' : exec P M (treeOf e) ⟨d, op, ty, pos, af, g⟩ = .enter f xs M := hx
 simp only [hw, hx', noneKnown, znf hF hb hn]

theorem res_nil : zrt M P (treeOf e) [] = some [] := rfl
theorem res_tmp {t : Tmp} {s : SV} {r : List ResultVar} {l : List SV} (h : lk t e = some s) (hr : zrt M P (treeOf e) r = some l) : zrt M P (treeOf e) (.tmp t :: r) = some (s :: l) := by
 simp only [zrt, zi7, h, hr]
theorem res_cell {a : Tmp} {t : TypeId} {p s : SV} {M' : Mem} {r : List ResultVar} {l : List SV} (h : lk a e = some p) (hl : zmq P t p M = .val s M') (hr : zrt M P (treeOf e) r = some l) : zrt M P (treeOf e) (.cell a t :: r) = some (s :: l) := by
 simp only [zrt, zi7, h, hl, hr]

section
variable {f : FuncId} {ds : List Pos} {F : Func} {l : List SV} {M1 : Mem}
theorem ztr (hF : P.funcs[f]? = some F) (hsh : zoj ds M = some M1) (hres : zrt M1 P (treeOf e) F.results.toList = some l) (j : Option Code) (cs : List zi2) : zzq P ⟨f, ds, none⟩ j (treeOf e) cs M = zou (zst l) cs M1 := by
 unfold zzq
 simp only [hF, hsh, hres]
/-- The last frame returns. -/
theorem Run.ret (hF : P.funcs[f]? = some F) (hsh : zoj ds M = some M1) (hres : zrt M1 P (treeOf e) F.results.toList = some l) (hq : Q (zst l) M1) : Run P ⟨⟨f, ds, none⟩, []⟩ n Q e (.code .ret :: k) M := by
 refine .of_done sound0 ?_ (WF.shut hsh) hq
 exact ztr hF hsh hres (some .ret) []
/- A frame returns to one that has called. -/
section
variable {cx' : SCx} {n' : Nat} {e' : Env} {all : Array Oper} {r : List Oper} {d : Option Tmp} {op : Op} {ty : TypeId} {pos : String} {af : Array Edge} {g : Option (Nat × Bool)} {k' : List SItem} {cs' : List zi2}
theorem zqc {v : SV} (hd : okD d n' = true) : zou v (.mk cx' n' (treeOf e') (.ops all (⟨d, op, ty, pos, af, g⟩ :: r) :: k') :: cs') M = .go (.mk cx' n' (treeOf (putE d v e')) (.ops all r :: k')) cs' M := by
 show znv v (.mk cx' n' (treeOf e') (.ops all (⟨d, op, ty, pos, af, g⟩ :: r) :: k') :: cs') M = _
 unfold znv
 simp only [zjk hd]
theorem Run.retTo (hF : P.funcs[f]? = some F) (hsh : zoj ds M = some M1) (hres : zrt M1 P (treeOf e) F.results.toList = some l) (hd : okD d n' = true) (next : Run P ⟨cx', cs'⟩ n' Q (putE d (zst l) e') (.ops all r :: k') M1) :
  Run P ⟨⟨f, ds, none⟩, .mk cx' n' (treeOf e') (.ops all (⟨d, op, ty, pos, af, g⟩ :: r) :: k') :: cs'⟩ n Q e (.code .ret :: k) M := by
 refine .of_stepX sound0 ?_ (WF.shut hsh) (.refl _) (zkz _) next
 exact (ztr hF hsh hres (some .ret) _).trans (zqc hd)
theorem Run.fallTo (hF : P.funcs[f]? = some F) (hsh : zoj ds M = some M1) (hres : zrt M1 P (treeOf e) F.results.toList = some l) (hd : okD d n' = true) (next : Run P ⟨cx', cs'⟩ n' Q (putE d (zst l) e') (.ops all r :: k') M1) :
  Run P ⟨⟨f, ds, none⟩, .mk cx' n' (treeOf e') (.ops all (⟨d, op, ty, pos, af, g⟩ :: r) :: k') :: cs'⟩ n Q e [] M := by
 refine .of_stepX sound0 ?_ (WF.shut hsh) (.refl _) (zkz _) next
 exact (ztr hF hsh hres none _).trans (zqc hd)
/- ROUNDS -/
end
end
end
end Go.Ev

/- What is known of memory, and what operations give: what the run owns is a list of things that lie apart. -/
namespace Go.Ev
open Go.RowKit
variable {P : Program}


/-- A row; one that is only read, here and later. -/
noncomputable def rd (M : Mem) (b : Pos) : Option (List SV) := if b.num < M.next.num then zj7 M b else none
noncomputable def ro (M : Mem) (b : Pos) : Option (List SV) := if b.num < M.next.num then (match M.t.get b with
 | some (.ro c) => some c
 | some (.fix c) => some c
 | _ => none) else none
theorem zzj {M : Mem} {b : Pos} {c : List SV} (h : rd M b = some c) : zj7 M b = some c := by
 unfold rd at h
 split at h
 ·exact h
 ·simp at h
theorem zzm {M : Mem} {b : Pos} {c : List SV} (h : ro M b = some c) : b.num < M.next.num ∧ (M.t.get b = some (.ro c) ∨ M.t.get b = some (.fix c)) := by
 unfold ro at h
 split at h
 ·rename_i hb
  refine ⟨hb, ?_⟩
  split at h
  ·rename_i x hx; simp only [Option.some.injEq] at h; subst h; exact .inl hx
  ·rename_i x hx; simp only [Option.some.injEq] at h; subst h; exact .inr hx
  ·simp at h
 ·simp at h
theorem zvx {M : Mem} {b : Pos} {c : List SV} (hb : b.num < M.next.num) (h : M.t.get b = some (.ro c) ∨ M.t.get b = some (.fix c)) : ro M b = some c := by
 unfold ro
 rw [if_pos hb]
 rcases h with h | h <;> rw [h]
theorem y10 {M : Mem} {b : Pos} {c : List SV} (hb : b.num < M.next.num) (h : zj7 M b = some c) : rd M b = some c := by
 unfold rd
 rw [if_pos hb, h]
theorem ro_rd {M : Mem} {b : Pos} {c : List SV} (h : ro M b = some c) : rd M b = some c := by
 obtain ⟨hb, h⟩ := zzm h
 refine y10 hb ?_
 unfold zj7
 rcases h with h | h <;> rw [h]

/-- What lies under a name, of the call's own. -/
structure Own (M : Mem) (b : Pos) (o : SObj) : Prop where
 get : M.t.get b = some o
 low : M.floor ≤ b.num
 lt : b.num < M.next.num
/-- What is only read stays. -/
def RoK (M M' : Mem) : Prop := (∀ b o, b.num < M.next.num → o.own = false → M.t.get b = some o → M'.t.get b = some o) ∧ M.next.num ≤ M'.next.num
theorem RoK.refl (M : Mem) : RoK M M := ⟨fun _ _ _ _ h => h, Nat.le_refl _⟩
theorem RoK.trans {M1 M2 M3 : Mem} (h : RoK M1 M2) (h' : RoK M2 M3) : RoK M1 M3 := ⟨fun b o hb ho hx => h'.1 b o (Nat.lt_of_lt_of_le hb h.2) ho (h.1 b o hb ho hx), Nat.le_trans h.2 h'.2⟩
theorem RoK.rd {M M' : Mem} (h : RoK M M') : ∀ b c, Go.Ev.ro M b = some c → Go.Ev.ro M' b = some c := by
 intro b c hb
 obtain ⟨hlt, hb⟩ := zzm hb
 refine zvx (Nat.lt_of_lt_of_le hlt h.2) ?_
 rcases hb with hb | hb
 ·exact .inl (h.1 b _ hlt rfl hb)
 ·exact .inr (h.1 b _ hlt rfl hb)
/-- What was known is zso known. -/
structure zse (M M' : Mem) : Prop where
 rok : RoK M M'
 own : ∀ b o, Own M b o → Own M' b o
theorem zse.ro {M M'} (h : zse M M') : ∀ b c, Go.Ev.ro M b = some c → Go.Ev.ro M' b = some c := h.rok.rd
theorem zse.refl (M : Mem) : zse M M := ⟨.refl M, fun _ _ h => h⟩
theorem Own.rd {M b t kk c} (h : Own M b (.row t kk c)) : Go.Ev.rd M b = some c := y10 h.lt (zlt h.get)

/-- An element of a list. -/
def idx {α : Type} (l : List α) (j : Int) : Option α := match j with
 | .ofNat i => l[i]?
 | .negSucc _ => none
theorem zux {α : Type} {l : List α} {j : Int} {a : α} (h : idx l j = some a) : ∃ i : Nat, j = i ∧ i < l.length ∧ l[i]? = some a := by
 cases j with
 | ofNat i => exact ⟨i, rfl, (List.getElem?_eq_some_iff.1 h).1, h⟩
 | negSucc i => simp [idx] at h

abbrev Rd := Pos → Option (List SV)
def RdLe (f g : Rd) : Prop := ∀ b c, f b = some c → g b = some c

/-- A slice of nothing: nil, or what is left behind the last element. -/
def y0z (z : Nat) (s : SV) : Prop := s = .nils ∨ (∃ b o p, s = .opz b o p z) ∨ ∃ a, s = .rawz a
/-- s is a slice (of elements of z cells) that holds l. -/
def Slc {α : Type} (f : Rd) (z : Nat) (R : List SV → α → Prop) (s : SV) (l : List α) : Prop :=
 (y0z z s ∧ l = []) ∨ ∃ b off c, ((∃ cap, l.length ≤ cap ∧ s = .slice b off l.length cap) ∨ s = .ope b off l.length z) ∧ f b = some c ∧ off + l.length * z ≤ c.length ∧ ∀ (i : Nat) (a : α), l[i]? = some a → R ((c.drop (off + i * z)).take z) a
/-- Elements that hold no places. -/
def FlatR {α : Type} (enc : α → List SV) (cs : List SV) (a : α) : Prop := cs = enc a
/-- A pointer to cells. -/
def zlk (f : Rd) (s : SV) (cs : List SV) : Prop := ∃ b off c, s = .ptr b off ∧ f b = some c ∧ off + cs.length ≤ c.length ∧ (c.drop off).take cs.length = cs

theorem Slc.mono {α : Type} {f g : Rd} {z : Nat} {R R' : List SV → α → Prop} {s : SV} {l : List α} (h : Slc f z R s l) (hf : RdLe f g) (hR : ∀ cs a, R cs a → R' cs a) : Slc g z R' s l := by
 rcases h with h | ⟨b, off, c, h1, h2, h3, h4⟩
 ·exact .inl h
 ·exact .inr ⟨b, off, c, h1, hf b c h2, h3, fun i a ha => hR _ _ (h4 i a ha)⟩
theorem zlk.mono {f g : Rd} {s : SV} {cs : List SV} (h : zlk f s cs) (hf : RdLe f g) : zlk g s cs := by
 obtain ⟨b, off, c, h1, h2, h3⟩ := h
 exact ⟨b, off, c, h1, hf b c h2, h3⟩
theorem zze {M : Mem} {b : Pos} {c : List SV} (h : ro M b = some c) : zj7 M b = some c := zzj (ro_rd h)

theorem zlk.field {f : Rd} {s : SV} {cs ds : List SV} {o : Nat} (h : zlk f s cs) (hd : ds = cs.drop o) (ho : o ≤ cs.length) : ∃ b off, s = .ptr b off ∧ zlk f (.ptr b (off + o)) ds := by
 obtain ⟨b, off, c, h1, h2, h3, h4⟩ := h
 refine ⟨b, off, h1, b, off + o, c, rfl, h2, ?_, ?_⟩
 ·subst hd; simp; omega
 ·subst hd
  rw [← List.drop_drop]
  conv => rhs; rw [← h4]
  rw [List.drop_take]
  simp

section
variable {n : Nat} {e : Env} {M : Mem}

/- WHAT OPERATIONS GIVE -/
theorem ex_move {x : Operand} {s : SV} (h : ar e x = some s) : execO P M (treeOf e) (.move x) = .val s M := by
 show zzd M (treeOf e) x = _
 unfold zzd
 rw [zig h]
theorem ex_assign {x : Operand} {s : SV} (h : ar e x = some s) : execO P M (treeOf e) (.assign x) = .val s M := ex_move (P := P) h
theorem ziv {op : BinOp} {t u : TypeId} {x y : Operand} {a b : SV} (h : ar e x = some a) (h' : ar e y = some b) : execO P M (treeOf e) (.binOp op t x y u) = zmg P op t (cst x || cst y) a b M := by
 show y1a P M (treeOf e) op t x y u = _
 unfold y1a
 rw [zig h, zig h']
 first | rfl | done
theorem zji {op : BinOp} {t : TypeId} {c : Bool} {kk : IntKind} {a b : Int} (h1 : op ≠ .shl) (h2 : op ≠ .shr) : zmg P op t c (.int kk a) (.int kk b) M = ziy M (zmo op kk a b) := by
 have e1 : zkr kk kk = true := by simp [zkr]
 cases op <;> first | (simp [zmg, zrm, y0k, e1]; done) | exact absurd rfl h1 | exact absurd rfl h2
variable {t u : TypeId} {x y : Operand} {kk : IntKind} {a b : Int}
theorem ex_add (h : ar e x = some (.int kk a)) (h' : ar e y = some (.int kk b)) : execO P M (treeOf e) (.binOp .add t x y u) = .val (.int kk (kk.wrap (a + b))) M := by
 rw [ziv h h', zji (by simp) (by simp)]; simp [zmo, ziy, zis]
theorem ex_sub (h : ar e x = some (.int kk a)) (h' : ar e y = some (.int kk b)) : execO P M (treeOf e) (.binOp .sub t x y u) = .val (.int kk (kk.wrap (a - b))) M := by
 rw [ziv h h', zji (by simp) (by simp)]; simp [zmo, ziy, zis]; rfl
theorem ex_mul (h : ar e x = some (.int kk a)) (h' : ar e y = some (.int kk b)) : execO P M (treeOf e) (.binOp .mul t x y u) = .val (.int kk (kk.wrap (a * b))) M := by
 rw [ziv h h', zji (by simp) (by simp)]; simp [zmo, ziy, zis]
theorem ex_quo (h : ar e x = some (.int kk a)) (h' : ar e y = some (.int kk b)) (hb : b ≠ 0) : execO P M (treeOf e) (.binOp .quo t x y u) = .val (.int kk (kk.wrap (a.tdiv b))) M := by
 have e0 : eqZ b 0 = false := by rw [zlm]; simpa using hb
 rw [ziv h h', zji (by simp) (by simp)]; simp [zmo, ziy, zis, e0]
theorem ex_rem (h : ar e x = some (.int kk a)) (h' : ar e y = some (.int kk b)) (hb : b ≠ 0) : execO P M (treeOf e) (.binOp .rem t x y u) = .val (.int kk (a.tmod b)) M := by
 have e0 : eqZ b 0 = false := by rw [zlm]; simpa using hb
 rw [ziv h h', zji (by simp) (by simp)]; simp [zmo, ziy, e0]
theorem ex_eql (h : ar e x = some (.int kk a)) (h' : ar e y = some (.int kk b)) : execO P M (treeOf e) (.binOp .eql t x y u) = .val (.bool (a == b)) M := by
 rw [ziv h h', zji (by simp) (by simp)]; simp [zmo, ziy, zlm]
theorem ex_neq (h : ar e x = some (.int kk a)) (h' : ar e y = some (.int kk b)) : execO P M (treeOf e) (.binOp .neq t x y u) = .val (.bool (!(a == b))) M := by
 rw [ziv h h', zji (by simp) (by simp)]; simp [zmo, ziy, zlm]
theorem ex_lss (h : ar e x = some (.int kk a)) (h' : ar e y = some (.int kk b)) : execO P M (treeOf e) (.binOp .lss t x y u) = .val (.bool (decide (a < b))) M := by
 rw [ziv h h', zji (by simp) (by simp)]; simp only [zmo, ziy, zln]; congr 2; rw [Bool.eq_iff_iff]; simp
theorem ex_leq (h : ar e x = some (.int kk a)) (h' : ar e y = some (.int kk b)) : execO P M (treeOf e) (.binOp .leq t x y u) = .val (.bool (decide (a ≤ b))) M := by
 rw [ziv h h', zji (by simp) (by simp)]; simp only [zmo, ziy, zln]
theorem ex_gtr (h : ar e x = some (.int kk a)) (h' : ar e y = some (.int kk b)) : execO P M (treeOf e) (.binOp .gtr t x y u) = .val (.bool (decide (b < a))) M := by
 rw [ziv h h', zji (by simp) (by simp)]; simp only [zmo, ziy, zln]; congr 2; rw [Bool.eq_iff_iff]; simp
theorem ex_geq (h : ar e x = some (.int kk a)) (h' : ar e y = some (.int kk b)) : execO P M (treeOf e) (.binOp .geq t x y u) = .val (.bool (decide (b ≤ a))) M := by
 rw [ziv h h', zji (by simp) (by simp)]; simp only [zmo, ziy, zln]
theorem ex_not {p : Bool} (h : ar e x = some (.bool p)) : execO P M (treeOf e) (.unOp .not t x) = .val (.bool (!p)) M := by
 show eUn M (treeOf e) .not t x = _
 unfold eUn
 rw [zig h]
 cases p <;> rfl
theorem ex_neg (h : ar e x = some (.int kk a)) : execO P M (treeOf e) (.unOp .neg t x) = .val (.int kk (kk.wrap (-a))) M := by
 show eUn M (treeOf e) .neg t x = _
 unfold eUn
 rw [zig h]
 show Out.val (.int kk (zok kk (Int.sub 0 a))) M = _
 rw [zis]
 congr 3
 show 0 - a = -a
 omega
theorem zv6 {z : Operand} {s s' : SV} (hc : ar e x = some (.bool true)) (h : ar e y = some s) (h' : ar e z = some s') : execO P M (treeOf e) (.pick x y z) = .val s M := by
 show zwo M (treeOf e) x y z = _
 unfold zwo
 rw [zig hc, zig h, zig h']
 rfl
theorem zut {z : Operand} {s s' : SV} (hc : ar e x = some (.bool false)) (h : ar e y = some s) (h' : ar e z = some s') : execO P M (treeOf e) (.pick x y z) = .val s' M := by
 show zwo M (treeOf e) x y z = _
 unfold zwo
 rw [zig hc, zig h, zig h']
 rfl
theorem ex_extract {l : List SV} {j : Nat} {s : SV} (h : ar e x = some (.tuple l)) (hl : nth l j = some s) : execO P M (treeOf e) (.extract x j) = .val s M := by
 show zr2 M (treeOf e) x j = _
 unfold zr2
 rw [zig h]
 show zj6 j (.tuple l) M = _
 unfold zj6
 simp only [hl]
noncomputable def ars (e : Env) : List Operand → Option (List SV)
 | [] => some []
 | x :: l => match ar e x, ars e l with
  | some s, some r => some (s :: r)
  | _, _ => none
theorem zlb : ∀ {l : List Operand} {r : List SV}, ars e l = some r → ∀ M, args M (treeOf e) l = some r
 | [], r, h, M => h
 | x :: l, r, h, M => by
  unfold ars at h
  split at h
  ·rename_i s r' hs hr
   simp only [Option.some.injEq] at h
   subst h
   show Option.rec (motive := fun _ => Option (List SV)) none (fun x => Option.rec none (fun r => some (x :: r)) (args M (treeOf e) l)) (arg M (treeOf e) x) = _
   rw [zig hs, zlb hr M]
  ·simp at h

theorem zk7 {bi : Builtin} {xs : Array Operand} {ts : Array TypeId} {l : List SV} (h : ars e xs.toList = some l) : execO P M (treeOf e) (.call ⟨.builtin bi, xs, ts⟩) = zj5 P bi ts.toList l M := by
 show zs0 P M (treeOf e) xs ts bi = _
 unfold zs0
 rw [zlb h M]
 rfl
theorem ex_call {f : FuncId} {xs : Array Operand} {ts : Array TypeId} {l : List SV} (h : ars e xs.toList = some l) (hk : makeK P f = none) (hc : callable P f = true) : execO P M (treeOf e) (.call ⟨.value (.func f), xs, ts⟩) = .enter f l M := by
 show zpv P M (treeOf e) xs (.func f) = _
 unfold zpv
 rw [zlb h M]
 show zmj P (.fn (.func f) [] []) l M = _
 unfold zmj
 simp only [hk]
 unfold zte
 simp only [hc, zj1]
 simp

theorem y0s {α : Type} {z : Nat} {R : List SV → α → Prop} {f : Rd} {s : SV} {l : List α} (h : ar e x = some s) (hs : Slc f z R s l) (hk : lenK P t = some .sl) : execO P M (treeOf e) (.call ⟨.builtin .len, #[x], #[u]⟩) = .val (.int .i64 l.length) M ∨ t ≠ u := by
 by_cases htu : t = u
 ·left
  subst htu
  rw [zk7 (l := [s]) (by show (match ar e x, ars e [] with | some s, some r => some (s :: r) | _, _ => none) = _; rw [h]; rfl)]
  show zrp P t s M = _
  rcases hs with ⟨rfl | ⟨_, _, _, rfl⟩ | ⟨_, rfl⟩, rfl⟩ | ⟨b, off, c, (⟨cap, _, rfl⟩ | rfl), _⟩ <;> simp [zrp, zzs, hk, goI]
 ·exact .inr htu
theorem ex_len' {α : Type} {z : Nat} {R : List SV → α → Prop} {f : Rd} {s : SV} {l : List α} (h : ar e x = some s) (hs : Slc f z R s l) (hk : lenK P t = some .sl) : execO P M (treeOf e) (.call ⟨.builtin .len, #[x], #[t]⟩) = .val (.int .i64 l.length) M :=
 (y0s (u := t) h hs hk).resolve_right (by simp)
theorem ex_lenS {s : List UInt8} (h : ar e x = some (.str s)) (hk : lenK P t = some .str) : execO P M (treeOf e) (.call ⟨.builtin .len, #[x], #[t]⟩) = .val (.int .i64 s.length) M := by
 rw [zk7 (l := [.str s]) (by show (match ar e x, ars e [] with | some s, some r => some (s :: r) | _, _ => none) = _; rw [h]; rfl)]
 show zrp P t (.str s) M = _
 simp [zrp, zzs, hk, goI, zks]
/-- Loads. -/
theorem zzt {f : Rd} {s : SV} {v : SV} (h : ar e x = some s) (hp : zlk f s [v]) (hf : RdLe f (zj7 M)) (hz : aggSize P t = some none) : execO P M (treeOf e) (.load t x) = .val v M := by
 obtain ⟨b, off, c, rfl, h2, h3, h4⟩ := hp
 show zwv P M (treeOf e) t x = _
 unfold zwv
 rw [zig h]
 show zmq P t (.ptr b off) M = _
 unfold zmq
 have hn : nth c off = some v := by
  rw [zqe]
  have := congrArg (fun l => l[0]?) h4
  simpa [List.getElem?_take, List.getElem?_drop] using this
 simp only [hf b c h2, hz, hn]
theorem zy5 {f : Rd} {s : SV} {cs : List SV} (h : ar e x = some s) (hp : zlk f s cs) (hf : RdLe f (zj7 M)) (hz : aggSize P t = some (some cs.length)) : execO P M (treeOf e) (.load t x) = .val (.agg cs) M := by
 obtain ⟨b, off, c, rfl, h2, h3, h4⟩ := hp
 show zwv P M (treeOf e) t x = _
 unfold zwv
 rw [zig h]
 show zmq P t (.ptr b off) M = _
 unfold zmq
 have hle : Nat.ble (Nat.add off cs.length) (len c) = true := by rw [zio]; exact Nat.ble_eq_true_of_le h3
 simp only [hf b c h2, hz, hle, zki, zkj, h4]

theorem Own.row {M b t kk c} (h : Own M b (.row t kk c)) : zj7 M b = some c := zlt h.get
theorem rdLe_rfl {f : Rd} : RdLe f f := fun _ _ h => h

theorem ex_fieldAddr {j o off : Nat} {b : Pos} (h : ar e x = some (.ptr b off)) (hf : fieldOff P t j = some o) : execO P M (treeOf e) (.fieldAddr t x j) = .val (.ptr b (off + o)) M := by
 show ztq P M (treeOf e) t x j = _
 unfold ztq
 rw [zig h]
 show zjg P t j (.ptr b off) M = _
 unfold zjg
 simp only [hf]
 rfl

theorem y0y {s : SV} (h : ar e x = some s) : execO P M (treeOf e) (.box t x) = .val (.ptr (zk1 M) 0) (ziz t .whole M (cellsOf s)) := by
 show y1g M (treeOf e) t x = _
 unfold y1g
 rw [zig h]
 rfl
theorem ex_alloc {l : List SV} (h : zerosOf P t = some l) : execO P M (treeOf e) (.alloc t) = .val (.ptr (zk1 M) 0) (ziz t .whole M l) := by
 show zqd P t M = _
 unfold zqd
 simp only [h]
 rfl

end

/-- Values that hold no places. -/
def plain : SV → Bool
 | .bool _ => true
 | .int _ _ => true
 | .str _ => true
 | .nilp => true
 | .nils => true
 | .nilm => true
 | .nilf => true
 | .nili => true
 | .tuple l => plains l
 | .agg l => plains l
 | _ => false
where plains : List SV → Bool
 | [] => true
 | s :: l => plain s && plains l

mutual
theorem zqb : ∀ {s : SV}, plain s = true → ∀ m m' : Map, conc m s = conc m' s
 | .bool _, _, _, _ => rfl
 | .int _ _, _, _, _ => rfl
 | .str _, _, _, _ => rfl
 | .nilp, _, _, _ => rfl
 | .nils, _, _, _ => rfl
 | .nilm, _, _, _ => rfl
 | .nilf, _, _, _ => rfl
 | .nili, _, _, _ => rfl
 | .tuple l, h, m, m' => by simp only [conc]; rw [zl5 (l := l) h m m']
 | .agg l, h, m, m' => by simp only [conc]; rw [zl5 (l := l) h m m']
 | .ptr _ _, h, _, _ => by simp [plain] at h
 | .slice _ _ _ _, h, _, _ => by simp [plain] at h
 | .ope _ _ _ _, h, _, _ => by simp [plain] at h
 | .opz _ _ _ _, h, _, _ => by simp [plain] at h
 | .rawz _, h, _, _ => by simp [plain] at h
 | .map _, h, _, _ => by simp [plain] at h
 | .fn _ _ _, h, _, _ => by simp [plain] at h
 | .yield _, h, _, _ => by simp [plain] at h
 | .iface _ _, h, _, _ => by simp [plain] at h
theorem zl5 : ∀ {l : List SV}, plain.plains l = true → ∀ m m' : Map, concs m l = concs m' l
 | [], _, _, _ => rfl
 | s :: l, h, m, m' => by
  simp only [plain.plains, Bool.and_eq_true] at h
  simp only [concs]
  rw [zqb h.1 m m', zl5 h.2 m m']
end


/- PLAIN WORDS -/
theorem btf (b : Bool) : b = true ∨ b = false := by cases b <;> simp
def bnd {α β : Type} (x : Option α) (f : α → Option β) : Option β := match x with
 | some a => f a
 | none => none
theorem bnd_some {α β : Type} {x : Option α} {f : α → Option β} {r : β} (h : bnd x f = some r) : ∃ a, x = some a ∧ f a = some r := by
 cases x with
 | none => simp [bnd] at h
 | some a => exact ⟨a, rfl, h⟩
theorem bif_t {α : Type} {b : Bool} {x y : α} {r : α} (hb : b = true) (h : (bif b then x else y) = r) : x = r := by subst hb; exact h
theorem bif_f {α : Type} {b : Bool} {x y : α} {r : α} (hb : b = false) (h : (bif b then x else y) = r) : y = r := by subst hb; exact h
abbrev w64 (n : Int) : Int := IntKind.wrap .i64 n
/-- The elements from lo on, before hi. -/
def sub {α : Type} (l : List α) (lo hi : Int) : Option (List α) := match lo, hi with
 | .ofNat a, .ofNat b => bif decide (a ≤ b) && decide (b ≤ l.length) then some ((l.take b).drop a) else none
 | _, _ => none
theorem zyf {α : Type} {l l' : List α} {lo hi : Int} (h : sub l lo hi = some l') : ∃ a b : Nat, lo = a ∧ hi = b ∧ a ≤ b ∧ b ≤ l.length ∧ l' = (l.take b).drop a := by
 unfold sub at h
 split at h
 ·rename_i a b
  rcases btf (decide (a ≤ b) && decide (b ≤ l.length)) with hc | hc
  ·rw [hc] at h
   simp only [Bool.and_eq_true, decide_eq_true_eq] at hc
   exact ⟨a, b, rfl, rfl, hc.1, hc.2, (Option.some.inj h).symm⟩
  ·rw [hc] at h
   exact absurd h (by simp)
 ·simp at h
def mk {α : Type} (n : Int) (bytes : Nat) (z : α) : Option (List α) := match n with
 | .ofNat j => bif Nat.ble j 4611686018427387904 && Nat.ble (j * bytes) 281474976710656 then some (List.replicate j z) else none
 | .negSucc _ => none
def upd {α : Type} (l : List α) (j : Int) (a : α) : Option (List α) := match j with
 | .ofNat i => bif Nat.blt i l.length then some (l.set i a) else none
 | .negSucc _ => none
/-- Is j the place of an element? -/
def inn {α : Type} (l : List α) (j : Int) : Option Nat := match j with
 | .ofNat i => bif Nat.blt i l.length then some i else none
 | .negSucc _ => none
theorem zz9 {α : Type} {l : List α} {j : Int} {i : Nat} (h : inn l j = some i) : j = i ∧ i < l.length := by
 cases j with
 | ofNat q =>
  rcases btf (Nat.blt q l.length) with hc | hc
  ·have := Option.some.inj (bif_t hc h)
   subst this
   exact ⟨rfl, Nat.le_of_ble_eq_true hc⟩
  ·exact absurd (bif_f hc h) (by simp)
 | negSucc i => simp [inn] at h
/-- l, and then l'. -/
def apd {α : Type} (bytes : Nat) (l l' : List α) : Option (List α) :=
 bif Nat.ble (l.length + l'.length) 4611686018427387904 && Nat.ble (2 * (l.length + l'.length) * bytes) 281474976710656 then some (l ++ l') else none
theorem zuv {α : Type} {bytes : Nat} {l l' r : List α} (h : apd bytes l l' = some r) : l.length + l'.length ≤ 4611686018427387904 ∧ 2 * (l.length + l'.length) * bytes ≤ 281474976710656 ∧ r = l ++ l' := by
 rcases btf (Nat.ble (l.length + l'.length) 4611686018427387904 && Nat.ble (2 * (l.length + l'.length) * bytes) 281474976710656) with hc | hc
 ·have h' := bif_t hc h
  rw [Bool.and_eq_true] at hc
  exact ⟨Nat.le_of_ble_eq_true hc.1, Nat.le_of_ble_eq_true hc.2, (Option.some.inj h').symm⟩
 ·exact absurd (bif_f hc h) (by simp)
def nz (b : Int) : Option Int := bif b == 0 then none else some b
theorem zzx {b c : Int} (h : nz b = some c) : c = b ∧ b ≠ 0 := by
 rcases btf (b == 0) with hc | hc
 ·exact absurd (bif_t hc h) (by simp)
 ·exact ⟨(Option.some.inj (bif_f hc h)).symm, by simpa using hc⟩

theorem zlr {α : Type} {z : Nat} {enc : α → List SV} (hz : ∀ a, (enc a).length = z) : ∀ l : List α, (l.flatMap enc).length = l.length * z
 | [] => by simp
 | a :: l => by simp [hz, zlr hz l, Nat.succ_mul]; omega
theorem znm {α : Type} {z : Nat} {enc : α → List SV} (hz : ∀ a, (enc a).length = z) : ∀ (l : List α) (i : Nat) (a : α), l[i]? = some a → ((l.flatMap enc).drop (i * z)).take z = enc a
 | [], i, a, h => by simp at h
 | b :: l, 0, a, h => by
  simp only [List.getElem?_cons_zero, Option.some.injEq] at h
  subst h
  simp [List.flatMap_cons, hz]
 | b :: l, i + 1, a, h => by
  have ih := znm hz l i a (by simpa using h)
  rw [List.flatMap_cons, Nat.succ_mul, List.drop_append, hz, List.drop_of_length_le (by rw [hz]; omega), List.nil_append, show i * z + z - z = i * z by omega]
  exact ih
section
variable {n : Nat} {e : Env} {M : Mem}

variable {t u : TypeId} {x y : Operand} {kk : IntKind} {a b : Int}
theorem ex_pickT' {z : Operand} {c : Bool} {s s' : SV} (hx : ar e x = some (.bool c)) (hc : c = true) (h : ar e y = some s) (h' : ar e z = some s') : execO P M (treeOf e) (.pick x y z) = .val s M := by subst hc; exact zv6 hx h h'
theorem ex_pickF' {z : Operand} {c : Bool} {s s' : SV} (hx : ar e x = some (.bool c)) (hc : c = false) (h : ar e y = some s) (h' : ar e z = some s') : execO P M (treeOf e) (.pick x y z) = .val s' M := by subst hc; exact zut hx h h'
theorem ex_rem' {c : Int} (h : ar e x = some (.int kk a)) (h' : ar e y = some (.int kk b)) (hb : nz b = some c) : execO P M (treeOf e) (.binOp .rem t x y u) = .val (.int kk (a.tmod b)) M := ex_rem h h' (zzx hb).2
theorem slc_nil {α : Type} {f : Rd} {z : Nat} {R : List SV → α → Prop} : Slc f z R .nils [] := .inl ⟨.inl rfl, rfl⟩

theorem argO_some {y : Operand} {s : SV} (h : ar e y = some s) (M : Mem) : ztl M (treeOf e) (some y) = some (some s) := by
 show (match arg M (treeOf e) y with | some s => some (some s) | none => none : Option (Option SV)) = _
 rw [zig h M]

noncomputable def zzp (e : Env) : List (Nat × Operand) → Option (List (Nat × SV))
 | [] => some []
 | (i, x) :: l => match ar e x, zzp e l with
  | some s, some r => some ((i, s) :: r)
  | _, _ => none
theorem zn6 : ∀ {l : List (Nat × Operand)} {r : List (Nat × SV)}, zzp e l = some r → ∀ M, zj0 M (treeOf e) l = some r
 | [], r, h, M => h
 | (i, x) :: l, r, h, M => by
  unfold zzp at h
  split at h
  ·rename_i s r' hs hr
   simp only [Option.some.injEq] at h
   subst h
   simp only [zj0, zig hs, zn6 hr M]
  ·simp at h
theorem ex_build {ps : Array (Nat × Operand)} {l : List (Nat × SV)} {z r : List SV} {pl : List (Nat × Nat)} (h : zzp e ps.toList = some l) (hz : zerosOf P t = some z) (hp : placesOf P t = some (.st pl)) (hf : fillS (zo0 pl) z l = some r) :
  execO P M (treeOf e) (.build t ps) = .val (.agg r) M := by
 show zt4 P M (treeOf e) t ps = _
 unfold zt4
 rw [zn6 h M]
 show zmk P t l M = _
 unfold zmk
 simp only [hz, hp, hf]
theorem zn2 {ps : Array (Nat × Operand)} {l : List (Nat × SV)} {r : List SV} {j : Nat} {el : Elt} (h : zzp e ps.toList = some l) (hx : sliceElt P t = some el) (hj : Nat.ble (j * el.size) 16777216 = true) (hf : fillS (fun i => some (Nat.mul i el.size, el.size)) (rep j el.zero) l = some r) :
  execO P M (treeOf e) (.buildSlice t j ps) = .val (.slice (zk1 M) 0 j j) (ziz el.ty (.head 0) M r) := by
 show zu1 P M (treeOf e) t j ps = _
 unfold zu1
 rw [zn6 h M]
 show zjs P t j l M = _
 unfold zjs
 have hj' : Nat.ble (Nat.mul j el.size) 16777216 = true := hj
 simp only [hx, hj', hf]

section
variable {α : Type} {M M' : Mem} {av : List Pos} {tt : TypeId} {z : Nat} {enc : α → List SV} {s : SV} {l : List α}
end

theorem zv5 {α : Type} {enc : α → List SV} (h1 : ∀ a, ones (enc a) = true) : ∀ l : List α, ones (l.flatMap enc) = true
 | [] => rfl
 | a :: l => by
  have happ : ∀ (p q : List SV), ones p = true → ones q = true → ones (p ++ q) = true := by
   intro p
   induction p with
   | nil => intro q _ h; exact h
   | cons x p ih =>
    intro q hp hq
    have hp' : Bool.rec (motive := fun _ => Bool) false (ones p) (one x) = true := hp
    show Bool.rec (motive := fun _ => Bool) false (ones (p ++ q)) (one x) = true
    cases hx : one x with
    | false => rw [hx] at hp'; exact absurd hp' (by simp)
    | true => rw [hx] at hp'; exact ih q hp' hq
  rw [List.flatMap_cons]
  exact happ _ _ (h1 a) (zv5 h1 l)

theorem zob {el : Elt} {s2 : SV} {new : List SV} (hx : appT P t u = some el) (hl : zuj el s2 = some 0) (hn : zif M el.size 0 s2 = some new) : zj2 P t u .nils s2 M = .val .nils M := by
 unfold zj2
 simp only [hx, hl, hn]
theorem zo3 {el : Elt} {s2 : SV} {j : Nat} {new : List SV} (hx : appT P t u = some el) (hl : zuj el s2 = some (j + 1)) (hn : zif M el.size (j + 1) s2 = some new) : zj2 P t u .nils s2 M = grow (.head 0) M el (j + 1) new := by
 unfold zj2
 simp only [hx, hl, hn]
theorem zo7 {el : Elt} {s2 : SV} {off q z : Nat} {bb : Pos} {new old : List SV} {te : TypeId} {rk : RK} (hx : appT P t u = some el) (hl : zuj el s2 = some 0) (hn : zif M el.size 0 s2 = some new) (hz : Nat.beq z el.size = true) (ho : zyh M bb = some (te, rk)) (hf : zif M el.size q (.ope bb off q z) = some old) :
  zj2 P t u (.ope bb off q z) s2 M = .val (.ope bb off q z) M := by
 unfold zj2
 simp only [hx, hl, hn, hz, ho, hf]
theorem zoa {el : Elt} {s2 : SV} {j off q z : Nat} {bb : Pos} {new old : List SV} {te : TypeId} {rk : RK} (hx : appT P t u = some el) (hl : zuj el s2 = some (j + 1)) (hn : zif M el.size (j + 1) s2 = some new) (hz : Nat.beq z el.size = true) (ho : zyh M bb = some (te, rk)) (hf : zif M el.size q (.ope bb off q z) = some old)
  (h1 : ones new = true) (h2 : Nat.beq te el.ty = true) (h3 : zpz rk (Nat.add off (Nat.mul q el.size)) = true) :
  zj2 P t u (.ope bb off q z) s2 M = grow (zqi rk off) (zl4 M bb) el (Nat.add q (j + 1)) (app old new) := by
 unfold zj2
 simp only [hx, hl, hn, hz, ho, hf, h1, h2, h3]

end


section
variable {n : Nat} {e : Env} {M : Mem} {all : Array Oper}

/-- Values that are the same as themselves. -/
noncomputable def zmf : SV → Bool
 | .fn f a b => zyk f f && (selfs a && selfs b)
 | .iface _ _ => false
 | .agg l => selfs l
 | .tuple l => selfs l
 | _ => true
where selfs : List SV → Bool
 | [] => true
 | s :: l => zmf s && selfs l
theorem zni (p : Pos) : p.beq p = true := (Pos.beq_iff p p).2 rfl
mutual
theorem zqk : ∀ {s : SV}, zmf s = true → zir s s = true
 | .bool _, _ => by simp [zir]
 | .int _ _, _ => by simp [zir, zlm, zkr]
 | .str _, _ => by simp [zir, zle]
 | .nilp, _ => by simp [zir]
 | .ptr _ _, _ => by simp [zir, zni]
 | .nils, _ => by simp [zir]
 | .slice _ _ _ _, _ => by simp [zir, zni]
 | .ope _ _ _ _, _ => by simp [zir, zni]
 | .opz _ _ _ _, _ => by simp [zir, zni]
 | .rawz _, _ => by simp [zir]
 | .nilm, _ => by simp [zir]
 | .map _, _ => by simp [zir, zni]
 | .nilf, _ => by simp [zir]
 | .yield _, _ => by simp [zir, zni]
 | .nili, _ => by simp [zir]
 | .fn f a b, h => by
  simp only [zmf, Bool.and_eq_true] at h
  simp only [zir, h.1, zkd (l := a) h.2.1, zkd (l := b) h.2.2, Bool.and_self]
 | .iface _ _, h => by simp [zmf] at h
 | .agg l, h => by simp only [zir]; exact zkd (l := l) h
 | .tuple l, h => by simp only [zir]; exact zkd (l := l) h
theorem zkd : ∀ {l : List SV}, zmf.selfs l = true → zm4 l l = true
 | [], _ => by simp [zm4]
 | s :: l, h => by
  simp only [zmf.selfs, Bool.and_eq_true] at h
  simp only [zm4, zqk h.1, zkd h.2, Bool.and_self]
end
/- Elements. -/
variable {t u : TypeId} {x y : Operand} {kk : IntKind} {a : Int}
theorem zlk.fld {f : Rd} {b : Pos} {off o : Nat} {cs : List SV} (h : zlk f (.ptr b off) cs) (ho : Nat.ble o cs.length = true) : zlk f (.ptr b (off + o)) (cs.drop o) := by
 obtain ⟨b', off', h1, h2⟩ := h.field (o := o) rfl (Nat.le_of_ble_eq_true ho)
 simp only [SV.ptr.injEq] at h1
 obtain ⟨rfl, rfl⟩ := h1
 exact h2
/-- The first cell. -/
theorem ex_load1 {f : Rd} {s v : SV} {cs : List SV} (h : ar e x = some s) (hp : zlk f s (v :: cs)) (hf : RdLe f (zj7 M)) (hz : aggSize P t = some none) : execO P M (treeOf e) (.load t x) = .val v M := by
 obtain ⟨b, off, c, rfl, h2, h3, h4⟩ := hp
 refine zzt (f := f) h ⟨b, off, c, rfl, h2, ?_, ?_⟩ hf hz
 ·simp at h3 ⊢; omega
 ·have := congrArg (List.take 1) h4
  simpa [List.take_take] using this
theorem ex_loadA {f : Rd} {s : SV} {cs ds : List SV} {j : Nat} (h : ar e x = some s) (hp : zlk f s cs) (hf : RdLe f (zj7 M)) (hz : aggSize P t = some (some j)) (hj : ds.length = j) (hd : cs.take j = ds) (hl : Nat.ble j cs.length = true) : execO P M (treeOf e) (.load t x) = .val (.agg ds) M := by
 obtain ⟨b, off, c, rfl, h2, h3, h4⟩ := hp
 have hl' := Nat.le_of_ble_eq_true hl
 subst hj
 refine zy5 (f := f) h ⟨b, off, c, rfl, h2, ?_, ?_⟩ hf hz
 ·omega
 ·have := congrArg (List.take ds.length) h4
  rw [List.take_take, Nat.min_eq_left hl', hd] at this
  exact this
/-- Cells of a row of the call's own, from off on. -/
theorem Own.at {M : Mem} {b : Pos} {t : TypeId} {kk : RK} {c : List SV} (h : Own M b (.row t kk c)) (off : Nat) (hl : Nat.ble off c.length = true) : zlk (zj7 M) (.ptr b off) (c.drop off) :=
 ⟨b, off, c, rfl, h.row, by have := Nat.le_of_ble_eq_true hl; simp; omega, List.take_of_length_le (Nat.le_refl _)⟩
theorem x_load {s v : SV} (h : execO P M (treeOf [(0, s)]) (.load t (.tmp 0)) = .val v M) : zmq P t s M = .val v M := h
end
section
variable {n : Nat} {e : Env} {M : Mem} {all : Array Oper} {t u : TypeId} {x y : Operand} {kk : IntKind} {a : Int}

section
variable {α : Type} {z : Nat} {R : List SV → α → Prop} {f : Rd} {s : SV} {l l' : List α} {lo hi : Int} {r : List Oper} {d : Tmp} {ty : TypeId} {pos : String} {af : Array Edge} {g : Option (Nat × Bool)}
end

variable {D : Known}
section
variable {i : Nat} {op : Op} {ty : TypeId} {pos : String} {af : Array Edge} {g : Option (Nat × Bool)} {dd : Tmp} {s : SV} {L : List Nat} {r : List PE}
end
/- Strings, Booleans, structs. -/
theorem ex_eqlS {p q : List UInt8} (h : ar e x = some (.str p)) (h' : ar e y = some (.str q)) : execO P M (treeOf e) (.binOp .eql t x y u) = .val (.bool (p == q)) M := by
 rw [ziv h h']
 show ziy M (ztn .eql p q) = _
 simp [ztn, ziy, zle]
theorem ex_eqlB {p q : Bool} (h : ar e x = some (.bool p)) (h' : ar e y = some (.bool q)) (hk : eqK P t = some .bool) : execO P M (treeOf e) (.binOp .eql t x y u) = .val (.bool (p == q)) M := by
 rw [ziv h h']
 show (match eqS P t (.bool p) (.bool q) with | some r => Out.val (.bool r) M | none => .bad) = _
 unfold eqS
 simp only [hk]
 cases p <;> cases q <;> rfl
theorem ex_neqB {p q : Bool} (h : ar e x = some (.bool p)) (h' : ar e y = some (.bool q)) (hk : eqK P t = some .bool) : execO P M (treeOf e) (.binOp .neq t x y u) = .val (.bool (!(p == q))) M := by
 rw [ziv h h']
 show (match eqS P t (.bool p) (.bool q) with | some r => Out.val (.bool (Bool.rec true false r)) M | none => .bad) = _
 unfold eqS
 simp only [hk]
 cases p <;> cases q <;> rfl
theorem ex_eqlA {p q : List SV} {r : Bool} (h : ar e x = some (.agg p)) (h' : ar e y = some (.agg q)) (hk : aggEq P t = false) (hq : eqA P 12 t (.agg p) (.agg q) = some r) : execO P M (treeOf e) (.binOp .eql t x y u) = .val (.bool r) M := by
 rw [ziv h h']
 simp only [zmg, zrm, hk, hq]
theorem ex_neqA {p q : List SV} {r : Bool} (h : ar e x = some (.agg p)) (h' : ar e y = some (.agg q)) (hk : aggEq P t = false) (hq : eqA P 12 t (.agg p) (.agg q) = some r) : execO P M (treeOf e) (.binOp .neq t x y u) = .val (.bool (!r)) M := by
 rw [ziv h h']
 simp only [zmg, zrm, hk, hq]
 cases r <;> rfl
theorem eqFs_cons {eq : TypeId → SV → SV → Option Bool} {xs ys : List SV} {f : Field} {l : List Field} {p q : SV} {r r' : Bool} (hn : (f.name == "_") = false) (h1 : znj P f.type xs f.offset = some p) (h2 : znj P f.type ys f.offset = some q) (he : eq f.type p q = some r) (hl : zxj P eq xs ys l = some r') : zxj P eq xs ys (f :: l) = some (r && r') := by
 unfold zxj
 simp only [hn, h1, h2, he]
 cases r
 ·rfl
 ·exact hl
theorem eqFs_nil {eq : TypeId → SV → SV → Option Bool} {xs ys : List SV} : zxj P eq xs ys [] = some true := rfl
theorem eqA_int {d : Nat} {kk : IntKind} {p q : Int} (h : aggK P t = some .int) : eqA P (d + 1) t (.int kk p) (.int kk q) = some (p == q) := by
 have e1 : zkr kk kk = true := by simp [zkr]
 unfold eqA
 simp only [h, e1, zlm]
theorem eqA_st {d : Nat} {xs ys : List SV} {fs : List Field} {r : Bool} (h : aggK P t = some (.st fs)) (he : zxj P (eqA P d) xs ys fs = some r) : eqA P (d + 1) t (.agg xs) (.agg ys) = some r := by
 unfold eqA
 simp only [h, he]
theorem part_one {l : List SV} {off : Nat} {s : SV} (h : aggSize P t = some none) (hs : nth l off = some s) : znj P t l off = some s := by
 unfold znj
 simp only [h, hs]

section
variable {s : SV}
end
theorem slc_self {α : Type} {f : Rd} {z : Nat} {R : List SV → α → Prop} {s : SV} {l : List α} (h : Slc f z R s l) : zmf s = true := by
 rcases h with ⟨rfl | ⟨_, _, _, rfl⟩ | ⟨_, rfl⟩, _⟩ | ⟨b, off, c, ⟨cap, _, rfl⟩ | rfl, _⟩ <;> rfl
theorem self_nil : zmf.selfs [] = true := rfl
theorem self_cons {s : SV} {l : List SV} (h : zmf s = true) (h' : zmf.selfs l = true) : zmf.selfs (s :: l) = true := by
 simp only [zmf.selfs, h, h', Bool.and_self]
theorem self_agg {l : List SV} (h : zmf.selfs l = true) : zmf (.agg l) = true := h
end

section
variable {α β : Type} {M M' : Mem} {av av' av2 av2' : List Pos} {tt tt2 : TypeId} {z z2 : Nat} {enc : α → List SV} {enc2 : β → List SV} {s s' s2 : SV} {l l' : List α} {l2 : List β}
end

section
variable {n : Nat} {e : Env} {M : Mem} {all : Array Oper}

section
variable {op : Op} {ty : TypeId} {pos : String} {af : Array Edge} {g : Option (Nat × Bool)} {dd : Tmp} {s : SV} {r tl : List Oper}
end
end

/-- and, or, xor of numbers that are not negative. -/
def top (k : IntKind) : Nat := match k with
 | .i8 => 127 | .i16 => 32767 | .i32 => 2147483647 | .i64 => 9223372036854775807 | .u8 => 255 | .u16 => 65535 | .u32 => 4294967295 | .u64 => 18446744073709551615
/-- A byte of a string. -/
def sAt (l : List UInt8) (j : Int) : Option Int := match j with
 | .ofNat i => (l[i]?).map fun c => (c.toNat : Int)
 | .negSucc _ => none
/-- Two strings in one. -/
def sCat (a b : List UInt8) : Option (List UInt8) := bif Nat.ble (a.length + b.length) 9223372036854775807 then some (a ++ b) else none

section
variable {e : Env} {M : Mem} {t u : TypeId} {x y : Operand} {kk : IntKind} {a b r : Int}
theorem ex_conv {s d : TypeId} {k : IntKind} (h : ar e x = some (.int kk a)) (hu : uvK P s d = none) (hc : cvK P s d = some (.int k)) : execO P M (treeOf e) (.convert s d x) = .val (.int k (k.wrap a)) M := by
 show zt6 P M (treeOf e) s d x = _
 unfold zt6
 rw [zig h]
 show ziq P s d (.int kk a) M = _
 unfold ziq
 simp only [hu, zkp, hc, zis]
theorem ex_sAt {l : List UInt8} (h : ar e x = some (.str l)) (h' : ar e y = some (.int kk a)) (hw : whole P t = some .str) (hr : sAt l a = some r) : execO P M (treeOf e) (.index t x y) = .val (.int .u8 r) M := by
 show zsn P M (treeOf e) t x y = _
 unfold zsn
 rw [zig h, zig h']
 show zmh P t (.str l) (.int kk a) M = _
 unfold sAt at hr
 split at hr
 ·rename_i i
  rw [Option.map_eq_some_iff] at hr
  obtain ⟨c, hc, rfl⟩ := hr
  have e1 : ziw (Int.ofNat i) = some i := rfl
  simp only [zmh, hw, e1, zp7, hc]
  rfl
 ·simp at hr

theorem ex_cat {p q c : List UInt8} (h : ar e x = some (.str p)) (h' : ar e y = some (.str q)) (hc : sCat p q = some c) : execO P M (treeOf e) (.binOp .add t x y u) = .val (.str c) M := by
 rw [ziv h h']
 show ziy M (ztn .add p q) = _
 unfold sCat at hc
 rcases btf (Nat.ble (p.length + q.length) 9223372036854775807) with hb | hb
 ·rw [hb] at hc
  simp only [cond_true, Option.some.injEq] at hc
  subst hc
  simp only [ztn, hb, ziy]
 ·rw [hb] at hc; simp at hc
theorem ex_pickB {z : Operand} {p q r : Bool} (hc : ar e x = some (.bool p)) (h : ar e y = some (.bool q)) (h' : ar e z = some (.bool r)) : execO P M (treeOf e) (.pick x y z) = .val (.bool (bif p then q else r)) M := by
 cases p with
 | true => exact zv6 hc h h'
 | false => exact zut hc h h'
end

section
variable {α β : Type} {M M' Me : Mem} {av av2 : List Pos} {tt tt2 : TypeId} {z z2 : Nat} {enc : α → List SV} {enc2 : β → List SV} {s s2 q : SV} {l : List α} {l2 : List β}

theorem zpb {enc : α → List SV} (hz : ∀ a, (enc a).length = z) {c : List SV} : ∀ (l : List α) (off : Nat), off + l.length * z ≤ c.length → (∀ (i : Nat) (a : α), l[i]? = some a → (c.drop (off + i * z)).take z = enc a) → (c.drop off).take (l.length * z) = l.flatMap enc
 | [], off, _, _ => by simp
 | a :: l, off, hle, h => by
  have h0 := h 0 a rfl
  rw [Nat.zero_mul, Nat.add_zero] at h0
  have hl : (a :: l).length * z = z + l.length * z := by rw [List.length_cons, Nat.succ_mul]; omega
  rw [hl] at hle
  have hle' : off + z + l.length * z ≤ c.length := by omega
  have ih := zpb hz l (off + z) hle' fun i b hb => by
   have := h (i + 1) b (by simpa using hb)
   rw [Nat.succ_mul] at this
   rw [show off + z + i * z = off + (i * z + z) by omega]
   exact this
  rw [hl, List.take_add, h0, List.drop_drop, ih]
  rfl
theorem first_slc {f : Rd} (h : Slc f z (FlatR enc) s l) (hf : RdLe f (zj7 M)) (hz : ∀ a, (enc a).length = z) : zif M z l.length s = some (l.flatMap enc) := by
 rcases h with ⟨rfl | ⟨_, _, _, rfl⟩ | ⟨_, rfl⟩, rfl⟩ | ⟨b, off, c, hs, hc, hle, hel⟩
 ·rfl
 ·rfl
 ·rfl
 ·have hr := hf b c hc
  have hb : Nat.ble (Nat.add off (Nat.mul l.length z)) (len c) = true := by
   rw [zio]
   exact Nat.ble_eq_true_of_le hle
  have hb' : Nat.ble (Nat.add off (l.length * z)) (len c) = true := hb
  have hfl := zpb (enc := enc) hz l off hle fun i a ha => hel i a ha
  rcases hs with ⟨cap, _, rfl⟩ | rfl
  ·unfold zif
   simp only [hr, zki, zkj, Nat.mul_eq, hb', hfl]
  ·unfold zif
   simp only [hr, zki, zkj, Nat.mul_eq, hb', hfl]
theorem len_slc {f : Rd} {R : List SV → α → Prop} {x : Elt} (h : Slc f z R s l) : zuj x s = some l.length := by
 rcases h with ⟨rfl | ⟨_, _, _, rfl⟩ | ⟨_, rfl⟩, rfl⟩ | ⟨b, off, c, hs, _⟩
 ·rfl
 ·rfl
 ·rfl
 ·rcases hs with ⟨cap, _, rfl⟩ | rfl <;> rfl

end

/- WHAT THE RUN OWNS -/
/-- The row that a slice lies in. -/
def blk : SV → List Pos
 | .slice b _ _ _ => [b]
 | .ope b _ _ _ => [b]
 | .opz b _ _ _ => [b]
 | _ => []
/-- Something under a name; a slice that the run owns, from its block's beginning to where its room may end: of which type, of how many cells an element is, how many, the slice, its cells. -/
inductive Ent where
 | obj (b : Pos) (o : SObj)
 | vec (tt z n : Nat) (s : SV) (c : List SV)
 | fixd (b : Pos) (c : List SV)
def Ent.fp : Ent → List Pos
 | .obj b _ => [b]
 | .vec _ _ _ s _ => blk s
 | .fixd _ _ => []
def Ent.ok (M : Mem) : Ent → Prop
 | .obj b o => Own M b o ∧ o.own = true
 | .vec tt z n s c => (s = .nils ∧ n = 0 ∧ c = []) ∨ ∃ b, (s = .slice b 0 n n ∨ s = .ope b 0 n z) ∧ c.length = n * z ∧ Own M b (.row tt (.head 0) c)
 | .fixd b c => M.t.get b = some (.fix c) ∧ b.num < M.next.num
structure Has (F : Rd) (M : Mem) (H : List Ent) : Prop where
 base : RdLe F (ro M)
 ok : ∀ x ∈ H, x.ok M
 nd : (H.flatMap Ent.fp).Nodup
section
variable {F F' : Rd} {M M' : Mem} {H : List Ent} {x y : Ent}
theorem Ent.ok_keep {S : List Pos} (hro : RoK M M') (hk : ∀ b o, b ∉ S → Own M b o → Own M' b o) (hd : ∀ b ∈ x.fp, b ∉ S) (h : x.ok M) : x.ok M' := by
 cases x with
 | obj b o => exact ⟨hk b o (hd b (by simp [Ent.fp])) h.1, h.2⟩
 | vec tt z n s c =>
  rcases h with h | ⟨b, hs, hc, ho⟩
  ·exact .inl h
  ·refine .inr ⟨b, hs, hc, hk b _ (hd b ?_) ho⟩
   rcases hs with rfl | rfl <;> simp [Ent.fp, blk]
 | fixd b c => exact ⟨hro.1 b _ h.2 rfl h.1, Nat.lt_of_lt_of_le h.2 hro.2⟩
theorem Ent.lt (h : x.ok M) : ∀ b ∈ x.fp, b.num < M.next.num := by
 intro b hb
 cases x with
 | obj c o =>
  simp only [Ent.fp, List.mem_cons, List.not_mem_nil, or_false] at hb
  subst hb
  exact h.1.lt
 | vec tt z n s c =>
  rcases h with ⟨rfl, _⟩ | ⟨c, hs, _, ho⟩
  ·simp [Ent.fp, blk] at hb
  ·rcases hs with rfl | rfl <;> (simp only [Ent.fp, blk, List.mem_cons, List.not_mem_nil, or_false] at hb; subst hb; exact ho.lt)
 | fixd c r => simp [Ent.fp] at hb
theorem Ent.fp_nd : x.fp.Nodup := by
 cases x with
 | obj b o => simp [Ent.fp]
 | vec tt z n s c => cases s <;> simp [Ent.fp, blk]
 | fixd b c => simp [Ent.fp]
theorem Has.nil (M : Mem) : Has (ro M) M [] := ⟨fun _ _ h => h, fun x h => by simp at h, by simp⟩
theorem Has.get (h : Has F M H) {i : Nat} (hi : H[i]? = some x) : x.ok M := h.ok x (List.mem_of_getElem? hi)
theorem Has.upF (h : Has F M H) (hf : RdLe F' (ro M)) : Has F' M H := ⟨hf, h.ok, h.nd⟩
theorem Has.mem (h : Has F M H) (hM : zse M M') : Has F M' H :=
 ⟨fun b c hb => hM.ro b c (h.base b c hb), fun x hx => Ent.ok_keep (S := []) hM.rok (fun b o _ ho => hM.own b o ho) (fun _ _ hb => by simp at hb) (h.ok x hx), h.nd⟩
/-- Another one in the place of one. -/
theorem Has.upd (h : Has F M H) {i : Nat} (hi : H[i]? = some x) (hro : RoK M M') (hk : ∀ b o, b ∉ x.fp → Own M b o → Own M' b o) (hy : y.ok M') (hfp : ∀ b ∈ y.fp, b ∈ x.fp ∨ M.next.num ≤ b.num) : Has F M' (H.set i y) := by
 obtain ⟨hlt, hx⟩ := List.getElem?_eq_some_iff.1 hi
 have hH : H = H.take i ++ x :: H.drop (i + 1) := by
  conv => lhs; rw [← List.take_append_drop i H, List.drop_eq_getElem_cons hlt, hx]
 have hS : H.set i y = H.take i ++ y :: H.drop (i + 1) := List.set_eq_take_append_cons_drop.trans (if_pos hlt)
 generalize H.take i = A at hH hS
 generalize H.drop (i + 1) = C at hH hS
 have hn := h.nd
 have ho := h.ok
 rw [hH] at hn ho
 rw [List.flatMap_append, List.flatMap_cons, List.nodup_append, List.nodup_append] at hn
 obtain ⟨n1, ⟨n2, n3, n4⟩, n5⟩ := hn
 have key : ∀ z ∈ A ++ C, ∀ b ∈ z.fp, b ∉ x.fp := by
  intro z hz b hb hbx
  rcases List.mem_append.1 hz with hz | hz
  ·exact n5 b (List.mem_flatMap.2 ⟨z, hz, hb⟩) b (List.mem_append.2 (.inl hbx)) rfl
  ·exact n4 b hbx b (List.mem_flatMap.2 ⟨z, hz, hb⟩) rfl
 have okz : ∀ z ∈ A ++ C, z.ok M := fun z hz => by
  rcases List.mem_append.1 hz with hz | hz
  ·exact ho z (List.mem_append.2 (.inl hz))
  ·exact ho z (List.mem_append.2 (.inr (List.mem_cons_of_mem _ hz)))
 have d : ∀ z ∈ A ++ C, ∀ b ∈ z.fp, b ∉ y.fp := by
  intro z hz b hb hby
  rcases hfp b hby with h' | h'
  ·exact key z hz b hb h'
  ·have := Ent.lt (okz z hz) b hb
   omega
 rw [hS]
 refine ⟨fun b c hb => hro.rd b c (h.base b c hb), fun z hz => ?_, ?_⟩
 ·rcases List.mem_append.1 hz with hz | hz
  ·exact Ent.ok_keep hro hk (key z (List.mem_append.2 (.inl hz))) (okz z (List.mem_append.2 (.inl hz)))
  ·rcases List.mem_cons.1 hz with rfl | hz
   ·exact hy
   ·exact Ent.ok_keep hro hk (key z (List.mem_append.2 (.inr hz))) (okz z (List.mem_append.2 (.inr hz)))
 ·rw [List.flatMap_append, List.flatMap_cons, List.nodup_append, List.nodup_append]
  refine ⟨n1, ⟨Ent.fp_nd, n3, ?_⟩, ?_⟩
  ·rintro b hb _ hc rfl
   obtain ⟨z, hz, hbz⟩ := List.mem_flatMap.1 hc
   exact d z (List.mem_append.2 (.inr hz)) b hbz hb
  ·rintro b hb c hc rfl
   obtain ⟨z, hz, hbz⟩ := List.mem_flatMap.1 hb
   rcases List.mem_append.1 hc with hc | hc
   ·exact d z (List.mem_append.2 (.inl hz)) b hbz hc
   ·exact n5 b hb b (List.mem_append.2 (.inr hc)) rfl
/-- A new one. -/
theorem Has.cons (h : Has F M H) (hM : zse M M') (hy : y.ok M') (hfp : ∀ b ∈ y.fp, M.next.num ≤ b.num) : Has F M' (y :: H) := by
 have h' := h.mem hM
 refine ⟨h'.base, fun z hz => ?_, ?_⟩
 ·rcases List.mem_cons.1 hz with rfl | hz
  ·exact hy
  ·exact h'.ok z hz
 ·rw [List.flatMap_cons, List.nodup_append]
  refine ⟨Ent.fp_nd, h.nd, ?_⟩
  rintro b hb c hc rfl
  obtain ⟨z, hz, hbz⟩ := List.mem_flatMap.1 hc
  have := Ent.lt (h.ok z hz) b hbz
  have := hfp b hb
  omega
theorem Has.nils (h : Has F M H) (tt z : Nat) : Has F M (.vec tt z 0 .nils [] :: H) := h.cons (.refl M) (.inl ⟨rfl, rfl, rfl⟩) (fun b hb => by simp [Ent.fp, blk] at hb)
/-- Some of them, in another order. -/
def zru : List Nat → List Ent → List Ent
 | [], _ => []
 | i :: l, H => match H[i]? with
  | some x => x :: zru l H
  | none => zru l H
def zy7 (i : Nat) : List Nat → Bool
 | [] => true
 | j :: l => !Nat.beq i j && zy7 i l
def zuk : List Nat → Bool
 | [] => true
 | i :: l => zy7 i l && zuk l
theorem zsp {i : Nat} : ∀ {l : List Nat}, zy7 i l = true → i ∉ l
 | [], _ => by simp
 | j :: l, h => by
  simp only [zy7, Bool.and_eq_true, Bool.not_eq_true'] at h
  intro hm
  rcases List.mem_cons.1 hm with rfl | hm
  ·rw [Nat.beq_refl] at h; exact absurd h.1 (by simp)
  ·exact zsp h.2 hm
theorem zlv {z : Ent} : ∀ {l : List Nat}, z ∈ zru l H → ∃ j ∈ l, H[j]? = some z
 | [], h => by simp [zru] at h
 | i :: l, h => by
  unfold zru at h
  split at h
  ·rename_i x hx
   rcases List.mem_cons.1 h with rfl | h
   ·exact ⟨i, by simp, hx⟩
   ·obtain ⟨j, hj, hz⟩ := zlv h
    exact ⟨j, List.mem_cons_of_mem _ hj, hz⟩
  ·obtain ⟨j, hj, hz⟩ := zlv h
   exact ⟨j, List.mem_cons_of_mem _ hj, hz⟩
theorem zuq : ∀ {H : List Ent}, (H.flatMap Ent.fp).Nodup → ∀ {i j : Nat} {x y : Ent}, H[i]? = some x → H[j]? = some y → i ≠ j → ∀ b ∈ x.fp, b ∉ y.fp
 | [], _, i, j, x, y, hi, _, _, _, _ => by simp at hi
 | z :: H, hn, i, j, x, y, hi, hj, hne, b, hb => by
  rw [List.flatMap_cons, List.nodup_append] at hn
  intro hby
  cases i with
  | zero =>
   cases j with
   | zero => exact hne rfl
   | succ j =>
    simp only [List.getElem?_cons_zero, Option.some.injEq] at hi
    subst hi
    exact hn.2.2 b hb b (List.mem_flatMap.2 ⟨y, List.mem_of_getElem? (by simpa using hj), hby⟩) rfl
  | succ i =>
   cases j with
   | zero =>
    simp only [List.getElem?_cons_zero, Option.some.injEq] at hj
    subst hj
    exact hn.2.2 b hby b (List.mem_flatMap.2 ⟨x, List.mem_of_getElem? (by simpa using hi), hb⟩) rfl
   | succ j => exact zuq hn.2.1 (by simpa using hi) (by simpa using hj) (by omega) b hb hby
theorem Has.pick (h : Has F M H) (l : List Nat) (hl : zuk l = true) {H' : List Ent} (he : zru l H = H') : Has F M H' := by
 subst he
 refine ⟨h.base, fun z hz => ?_, ?_⟩
 ·obtain ⟨j, _, hj⟩ := zlv hz
  exact h.get hj
 ·induction l with
  | nil => simp [zru]
  | cons i l ih =>
   simp only [zuk, Bool.and_eq_true] at hl
   unfold zru
   split
   ·rename_i x hx
    rw [List.flatMap_cons, List.nodup_append]
    refine ⟨Ent.fp_nd, ih hl.2, ?_⟩
    rintro b hb c hc rfl
    obtain ⟨z, hz, hbz⟩ := List.mem_flatMap.1 hc
    obtain ⟨j, hj, hzj⟩ := zlv hz
    exact zuq h.nd hx hzj (fun e => zsp hl.1 (e ▸ hj)) b hb hbz
   ·exact ih hl.2

/- OPERATIONS ON WHAT IS OWNED -/
variable {e : Env} {t u : TypeId} {p q : Operand} {op : Op}
theorem WF.memLe_new (h : WF M) (o : SObj) : zse M ⟨M.t.put (some o) M.next, M.next.succ, M.floor⟩ := by
 have hne : ∀ b x, M.t.get b = some x → M.next ≠ b := by
  intro b x hx he
  have := h.fresh hx
  rw [← he] at this
  omega
 have hlt : ∀ b : Pos, b.num < M.next.num → b.num < M.next.succ.num := by intro b h; rw [Pos.num_succ]; omega
 refine ⟨⟨fun b o' _ _ h => ?_, by show M.next.num ≤ M.next.succ.num; rw [Pos.num_succ]; omega⟩, fun b o h => ⟨?_, h.low, hlt b h.lt⟩⟩
 ·show Tree.get b (M.t.put _ _) = _
  rw [Tree.get_put_other _ _ (hne b _ h)]; exact h
 ·show Tree.get b (M.t.put _ _) = _
  rw [Tree.get_put_other _ _ (hne b _ h.get)]
  exact h.get
theorem WF.own_new (h : WF M) (o : SObj) : Own ⟨M.t.put (some o) M.next, M.next.succ, M.floor⟩ M.next o :=
 ⟨Tree.get_put_same _ _ _, h.2, by show M.next.num < M.next.succ.num; rw [Pos.num_succ]; omega⟩
theorem Has.newObj (h : Has F M H) (hw : WF M) {o : SObj} (ho : o.own = true) : Has F ⟨M.t.put (some o) M.next, M.next.succ, M.floor⟩ (.obj M.next o :: H) :=
 h.cons (hw.memLe_new o) ⟨hw.own_new o, ho⟩ (fun b hb => by simp only [Ent.fp, List.mem_cons, List.not_mem_nil, or_false] at hb; subst hb; exact Nat.le_refl _)
/-- Another object under a name. -/
theorem zpp {b : Pos} {o : SObj} {o' : Option SObj} (ho : Own M b o) (hown : o.own = true) : RoK M ⟨M.t.put o' b, M.next, M.floor⟩ := by
 refine ⟨fun c r _ hr hc => ?_, Nat.le_refl _⟩
 have hne : b ≠ c := by
  intro he
  subst he
  rw [ho.get] at hc
  simp only [Option.some.injEq] at hc
  subst hc
  rw [hown] at hr
  exact absurd hr (by simp)
 show Tree.get c (M.t.put _ _) = _
 rw [Tree.get_put_other _ _ hne]
 exact hc
theorem zlj {b : Pos} {o' : Option SObj} : ∀ c o, c ∉ [b] → Own M c o → Own ⟨M.t.put o' b, M.next, M.floor⟩ c o := by
 intro c o hc h
 refine ⟨?_, h.low, h.lt⟩
 show Tree.get c (M.t.put _ _) = _
 rw [Tree.get_put_other _ _ (fun he => hc (by simp [he]))]
 exact h.get
theorem WF.put (hw : WF M) {b : Pos} {o : Option SObj} (hb : b.num < M.next.num) : Aft M ⟨M.t.put o b, M.next, M.floor⟩ := ⟨hw.set o hb, rfl, Nat.le_refl _⟩
theorem Has.putObj (h : Has F M H) {i : Nat} {b : Pos} {o o' : SObj} (hi : H[i]? = some (.obj b o)) (ho' : o'.own = true) : Has F ⟨M.t.put (some o') b, M.next, M.floor⟩ (H.set i (.obj b o')) := by
 have hx := h.get hi
 exact h.upd hi (zpp hx.1 hx.2) zlj ⟨⟨Tree.get_put_same _ _ _, hx.1.low, hx.1.lt⟩, ho'⟩ (fun c hc => .inl hc)

theorem ExG.new {tt : TypeId} {kk : RK} {v : Pos → SV} {c : List SV} (hx : execO P M (treeOf e) op = .val (v (zk1 M)) (ziz tt kk M c)) (hH : Has F M H) : ExG P M e op fun s M' => ∃ b, s = v b ∧ Has F M' (.obj b (.row tt kk c) :: H) := by
 intro hw
 have hnr : ziz tt kk M c = ⟨M.t.put (some (.row tt kk c)) M.next, M.next.succ, M.floor⟩ := by cases M; rfl
 rw [hnr, zjx] at hx
 exact ⟨_, _, hx, hw.anew _, M.next, rfl, hH.newObj hw rfl⟩
theorem ExG.newVec {tt : TypeId} {n z : Nat} {c : List SV} (hx : execO P M (treeOf e) op = .val (.slice (zk1 M) 0 n n) (ziz tt (.head 0) M c)) (hc : c.length = n * z) (hH : Has F M H) : ExG P M e op fun s M' => Has F M' (.vec tt z n s c :: H) := by
 intro hw
 have hnr : ziz tt (.head 0) M c = ⟨M.t.put (some (.row tt (.head 0) c)) M.next, M.next.succ, M.floor⟩ := by cases M; rfl
 rw [hnr, zjx] at hx
 refine ⟨_, _, hx, hw.anew _, hH.cons (hw.memLe_new _) (.inr ⟨M.next, .inl rfl, hc, hw.own_new _⟩) fun b hb => ?_⟩
 simp only [Ent.fp, blk, List.mem_cons, List.not_mem_nil, or_false] at hb
 subst hb
 exact Nat.le_refl _
theorem zsm {bb : Pos} {off zz : Nat} {tt : TypeId} {rk : RK} {c c' l : List SV} (ho : Own M bb (.row tt rk c)) (hl : l.length = zz) (hk : zpz rk off = true) (hle : off + zz ≤ c.length) (h1 : ones l = true) (hc : c' = c.take off ++ (l ++ c.drop (off + zz))) : zkm M bb off l = some ⟨M.t.put (some (.row tt rk c')) bb, M.next, M.floor⟩ := by
 unfold zkm
 have ha : above M bb = true := Nat.ble_eq_true_of_le ho.low
 have hb : Nat.ble (Nat.add off zz) c.length = true := Nat.ble_eq_true_of_le hle
 simp only [ho.get, ha, hk, h1, zj1, zki, zkj, zio, hl, hc, hb]
 rfl
theorem zxa {bb : Pos} {off zz : Nat} {s : SV} {M1 : Mem} (h : ar e p = some (.ptr bb off)) (h' : ar e q = some s) (hz : szOf P t = some zz) (hl : (cellsOf s).length = zz) (hput : zkm M bb off (cellsOf s) = some M1) : execO P M (treeOf e) (.store t p q) = .val (.tuple []) M1 := by
 show zxd P M (treeOf e) t p q = _
 unfold zxd
 rw [zig h, zig h']
 show zqm P t (.ptr bb off) s M = _
 unfold zqm
 have hb : Nat.beq (len (cellsOf s)) zz = true := by rw [zio, hl]; exact Nat.beq_refl zz
 simp only [hz, hb, hput]
/-- A store into a row. -/
theorem ExG.store {i : Nat} {bb : Pos} {off zz : Nat} {s : SV} {tt : TypeId} {rk : RK} {c c' : List SV} (h : ar e p = some (.ptr bb off)) (h' : ar e q = some s) (hH : Has F M H) (hi : H[i]? = some (.obj bb (.row tt rk c))) (hz : szOf P t = some zz) (hl : (cellsOf s).length = zz) (hk : zpz rk off = true) (hle : Nat.ble (off + zz) c.length = true) (h1 : ones (cellsOf s) = true) (hc : c.take off ++ (cellsOf s ++ c.drop (off + zz)) = c') :
  ExG P M e (.store t p q) fun s M' => s = .tuple [] ∧ Has F M' (H.set i (.obj bb (.row tt rk c'))) := by
 intro hw
 have ho := (hH.get hi).1
 exact ⟨_, _, zxa h h' hz hl (zsm ho hl hk (Nat.le_of_ble_eq_true hle) h1 hc.symm), hw.put ho.lt, rfl, hH.putObj hi rfl⟩
theorem Has.cells {i : Nat} {b : Pos} {tt : TypeId} {rk : RK} {c : List SV} (hH : Has F M H) (hi : H[i]? = some (.obj b (.row tt rk c))) (off : Nat) (hl : Nat.ble off c.length = true) : zlk (zj7 M) (.ptr b off) (c.drop off) := (hH.get hi).1.at off hl
/-- A slice of the run's own is data. -/
theorem Has.slc {α : Type} {enc : α → List SV} {i z : Nat} {sv : SV} {l : List α} {tt : TypeId} (hH : Has F M H) (hi : H[i]? = some (.vec tt z l.length sv (l.flatMap enc))) (hlen : ∀ a, (enc a).length = z) : Slc (rd M) z (FlatR enc) sv l := by
 rcases hH.get hi with ⟨rfl, h0, _⟩ | ⟨b, hsv, hc, ho⟩
 ·exact .inl ⟨.inl rfl, List.length_eq_zero_iff.1 h0⟩
 ·refine .inr ⟨b, 0, _, ?_, ho.rd, by rw [hc]; omega, fun i a ha => by rw [Nat.zero_add]; exact znm hlen l i a ha⟩
  rcases hsv with h | h
  ·exact .inl ⟨_, Nat.le_refl _, h⟩
  ·exact .inr h
theorem Has.slcF {α : Type} {R : List SV → α → Prop} {z : Nat} {s : SV} {l : List α} (hH : Has F M H) (h : Slc F z R s l) : Slc (rd M) z R s l := h.mono (fun b c hb => ro_rd (hH.base b c hb)) (fun _ _ h => h)
theorem Has.ptrF {s : SV} {cs : List SV} (hH : Has F M H) (h : zlk F s cs) : zlk (zj7 M) s cs := h.mono fun b c hb => zze (hH.base b c hb)
theorem rdLe_rdRow (M : Mem) : RdLe (rd M) (zj7 M) := fun _ _ h => zzj h

theorem zw6 {kk : RK} {el : Elt} {n : Nat} {c : List SV} (h1 : n ≤ 4611686018427387904) (h2 : 2 * n * el.bytes ≤ 281474976710656) (h3 : 1 ≤ el.size) : grow kk M el n c = .val (.ope M.next 0 n el.size) ⟨M.t.put (some (.row el.ty kk c)) M.next, M.next.succ, M.floor⟩ := by
 unfold grow
 have g1 : Nat.ble n 4611686018427387904 = true := Nat.ble_eq_true_of_le h1
 have g2 : Nat.ble (Nat.mul (Nat.mul 2 n) el.bytes) 281474976710656 = true := Nat.ble_eq_true_of_le h2
 have g3 : Nat.ble 1 el.size = true := Nat.ble_eq_true_of_le h3
 simp only [g1, g2, g3]
 cases M
 rfl
theorem ExG.append {α : Type} {enc : α → List SV} {i z : Nat} {el : Elt} {s s2 : SV} {l l2 l' : List α} (h : ar e p = some s) (h' : ar e q = some s2) (hH : Has F M H) (hi : H[i]? = some (.vec el.ty z l.length s (l.flatMap enc))) (hz : ∀ a, (enc a).length = z) (hz1 : Nat.ble 1 z = true) (ho : ∀ a, ones (enc a) = true) (hx : appT P t u = some el) (hsz : el.size = z)
  (hlz : zuj el s2 = some l2.length) (hnew : zif M z l2.length s2 = some (l2.flatMap enc)) (hl : apd el.bytes l l2 = some l') :
  ExG P M e (.call ⟨.builtin .append, #[p, q], #[t, u]⟩) fun s' M' => Has F M' (H.set i (.vec el.ty z l'.length s' (l'.flatMap enc))) := by
 intro hw
 have d := Nat.le_of_ble_eq_true hz1
 obtain ⟨hl1, hl2, rfl⟩ := zuv hl
 have hxx : execO P M (treeOf e) (.call ⟨.builtin .append, #[p, q], #[t, u]⟩) = zj2 P t u s s2 M := by
  rw [zk7 (l := [s, s2]) (by show ars e [p, q] = _; simp only [ars, h, h'])]
  rfl
 rw [← hsz] at hnew
 have hsame : l2 = [] → Has F M (H.set i (.vec el.ty z (l ++ l2).length s ((l ++ l2).flatMap enc))) := by
  intro h0
  subst h0
  rw [List.append_nil]
  obtain ⟨hlt, he⟩ := List.getElem?_eq_some_iff.1 hi
  rw [← he, List.set_getElem_self]
  exact hH
 have hlenR : ((l ++ l2).flatMap enc).length = (l ++ l2).length * z := zlr hz _
 -- a new row
 have hnewrow : ∀ (M1 : Mem), M1.next = M.next → M1.floor = M.floor → WF M1 → RoK M M1 → (∀ b o, b ∉ (Ent.vec el.ty z l.length s (l.flatMap enc)).fp → Own M b o → Own M1 b o) →
   Has F ⟨M1.t.put (some (.row el.ty (.head 0) ((l ++ l2).flatMap enc))) M1.next, M1.next.succ, M1.floor⟩ (H.set i (.vec el.ty z (l ++ l2).length (.ope M.next 0 (l.length + l2.length) el.size) ((l ++ l2).flatMap enc))) := by
  intro M1 e1 e2 hw1 hro hk
  have hm := hw1.memLe_new (.row el.ty (.head 0) ((l ++ l2).flatMap enc))
  refine hH.upd hi (hro.trans hm.rok) (fun b o hb hbo => hm.own b o (hk b o hb hbo)) (.inr ⟨M.next, .inr (by rw [List.length_append, hsz]), hlenR, ?_⟩) fun b hb => ?_
  ·rw [← e1]
   exact hw1.own_new _
  ·simp only [Ent.fp, blk, List.mem_cons, List.not_mem_nil, or_false] at hb
   subst hb
   exact .inr (Nat.le_refl _)
 have hgrow : ∀ M1 : Mem, grow (.head 0) M1 el (l.length + l2.length) (l.flatMap enc ++ l2.flatMap enc) = .val (.ope M1.next 0 (l.length + l2.length) el.size) ⟨M1.t.put (some (.row el.ty (.head 0) ((l ++ l2).flatMap enc))) M1.next, M1.next.succ, M1.floor⟩ := by
  intro M1
  rw [List.flatMap_append]
  exact zw6 hl1 hl2 (by omega)
 rcases hH.get hi with ⟨rfl, h0, hc0⟩ | ⟨bb, hs, hlc, hown⟩
 ·have hl0 : l = [] := List.length_eq_zero_iff.1 h0
  cases hl2c : l2 with
  | nil =>
   subst hl2c
   exact ⟨.nils, M, by rw [hxx]; exact zob hx hlz hnew, .refl hw, hsame rfl⟩
  | cons a0 r0 =>
   have hlen : l2.length = r0.length + 1 := by rw [hl2c]; rfl
   rw [← hl2c]
   have hg := hgrow M
   have c : l.flatMap enc = [] := by rw [hl0]; rfl
   have e0 : l.length + l2.length = l2.length := by rw [h0]; omega
   rw [c, List.nil_append] at hg
   refine ⟨_, _, ?_, hw.anew _, hnewrow M rfl rfl hw (.refl M) (fun _ _ _ h => h)⟩
   rw [hxx]
   have := zo3 (P := P) (M := M) (t := t) (u := u) (el := el) (s2 := s2) (j := r0.length) (new := l2.flatMap enc) hx (by rw [← hlen]; exact hlz) (by rw [← hlen]; exact hnew)
   rw [this, show r0.length + 1 = l.length + l2.length by omega]
   exact hg
 ·have hrow : zj7 M bb = some (l.flatMap enc) := hown.row
  have hle' : Nat.ble (Nat.add 0 (l.length * el.size)) (len (l.flatMap enc)) = true := by
   rw [zio, hlc, hsz]
   exact Nat.ble_eq_true_of_le (by simp)
  have htake : (l.flatMap enc).take (l.length * el.size) = l.flatMap enc := List.take_of_length_le (by rw [hlc, hsz]; exact Nat.le_refl _)
  rcases hs with rfl | rfl
  ·have hfirst : zif M el.size l.length (.slice bb 0 l.length l.length) = some (l.flatMap enc) := by
    unfold zif
    simp only [hrow, zki, zkj, Nat.mul_eq, List.drop_zero, hle', htake]
   cases hl2c : l2 with
   | nil =>
    subst hl2c
    refine ⟨.slice bb 0 l.length l.length, M, ?_, .refl hw, hsame rfl⟩
    rw [hxx]
    unfold zj2
    have g2 : zuj el s2 = some 0 := hlz
    have g3 : zif M el.size 0 s2 = some [] := hnew
    have g4 : Nat.ble (Nat.add l.length 0) l.length = true := Nat.ble_eq_true_of_le (Nat.le_refl _)
    simp only [hx, g2, g3, g4]
    rfl
   | cons a0 r0 =>
    rw [← hl2c]
    have hlen : 1 ≤ l2.length := by rw [hl2c]; simp
    refine ⟨_, _, ?_, hw.anew _, hnewrow M rfl rfl hw (.refl M) (fun _ _ _ h => h)⟩
    rw [hxx]
    unfold zj2
    have g4 : Nat.ble (Nat.add l.length l2.length) l.length = false := by
     cases hb : Nat.ble (Nat.add l.length l2.length) l.length with
     | false => rfl
     | true => have h9 : l.length + l2.length ≤ l.length := Nat.le_of_ble_eq_true hb; omega
    simp only [hx, hlz, hnew, g4, hfirst, zj1]
    exact hgrow M
  ·have hfirst : zif M el.size l.length (.ope bb 0 l.length z) = some (l.flatMap enc) := by
    unfold zif
    simp only [hrow, zki, zkj, Nat.mul_eq, List.drop_zero, hle', htake]
   have hok : zyh M bb = some (el.ty, .head 0) := by
    unfold zyh
    have ha : above M bb = true := Nat.ble_eq_true_of_le hown.low
    simp only [hown.get, ha]
   cases hl2c : l2 with
   | nil =>
    subst hl2c
    exact ⟨.ope bb 0 l.length z, M, by rw [hxx]; exact zo7 hx hlz hnew (by rw [hsz]; exact Nat.beq_refl z) hok hfirst, .refl hw, hsame rfl⟩
   | cons a0 r0 =>
    have hlen : l2.length = r0.length + 1 := by rw [hl2c]; rfl
    rw [← hl2c]
    have hdrop : zl4 M bb = ⟨M.t.put none bb, M.next, M.floor⟩ := by cases M; rfl
    have hw0 := hw.put (o := none) hown.lt
    have hw1 : WF ⟨M.t.put none bb, M.next, M.floor⟩ := hw0.wf
    refine ⟨_, _, ?_, hw0.trans (hw1.anew _), hnewrow ⟨M.t.put none bb, M.next, M.floor⟩ rfl rfl hw1 (zpp hown rfl) (fun b o hb hbo => zlj b o hb hbo)⟩
    rw [hxx]
    have f2 : Nat.beq el.ty el.ty = true := Nat.beq_refl _
    have f3 : zpz (.head 0) (Nat.add 0 (Nat.mul l.length el.size)) = true := rfl
    have h5 := zoa (P := P) (M := M) (t := t) (u := u) (el := el) (s2 := s2) (j := r0.length) (off := 0) (q := l.length) (z := z) (bb := bb) (new := l2.flatMap enc) (old := l.flatMap enc) hx (by rw [← hlen]; exact hlz) (by rw [← hlen]; exact hnew) (by rw [hsz]; exact Nat.beq_refl z) hok hfirst (zv5 ho l2) f2 f3
    rw [h5, ← hlen, hdrop, zj1]
    exact hgrow ⟨M.t.put none bb, M.next, M.floor⟩
theorem ExG.built {α : Type} {enc : α → List SV} {el : Elt} {l : List α} {z j : Nat} {ps : Array (Nat × Operand)} {r : List (Nat × SV)} (h : zzp e ps.toList = some r) (hx : sliceElt P t = some el) (hj : Nat.ble (j * el.size) 16777216 = true) (hf : fillS (fun i => some (Nat.mul i el.size, el.size)) (rep j el.zero) r = some (l.flatMap enc)) (hl : l.length = j) (hlen : ∀ a, (enc a).length = z) (hH : Has F M H) :
  ExG P M e (.buildSlice t j ps) fun s M' => Has F M' (.vec el.ty z l.length s (l.flatMap enc) :: H) := by
 subst hl
 exact ExG.newVec (zn2 h hx hj hf) (zlr hlen _) hH
theorem blk_self {sv : SV} (hH : Has F M H) {i tt z n : Nat} {c : List SV} (hi : H[i]? = some (.vec tt z n sv c)) : zmf sv = true := by
 rcases hH.get hi with ⟨rfl, _⟩ | ⟨b, rfl | rfl, _⟩ <;> rfl
end
end Go.Ev

