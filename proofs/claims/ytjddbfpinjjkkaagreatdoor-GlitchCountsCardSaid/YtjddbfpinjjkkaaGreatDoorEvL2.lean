/- A part of the small machine. -/
import Derived.Test.YtjddbfpinjjkkaaGreatDoorEvW12
set_option linter.unusedVariables false
namespace Go.Ev
open Go.RowKit
variable {P : Program}
theorem zrh {u t : Nat} (h : ¬ u = t) : Nat.beq u t = false := by
 cases hb : Nat.beq u t with
 | false => rfl
 | true => exact absurd (Nat.eq_of_beq_eq_true hb) h
abbrev Env := List (Nat × SV)
def lk (t : Nat) : Env → Option SV
 | [] => none
 | (u, s) :: r => bif Nat.beq u t then some s else lk t r
noncomputable def treeOf : Env → Tree SV
 | [] => .leaf
 | (u, s) :: r => (treeOf r).put (some s) (Pos.ofNat u)
theorem z88 (t : Nat) : ∀ e : Env, (treeOf e).get (Pos.ofNat t) = lk t e
 | [] => Tree.get_leaf _
 | (u, s) :: r => by
  by_cases h : u = t
  ·subst h
   simp [treeOf, lk, Tree.get_put_same]
  ·have hb : Nat.beq u t = false := zrh h
   rw [treeOf, Tree.get_put_other _ _ (fun e => h (Pos.ofNat_inj e)), z88 t r]
   simp [lk, hb]
def WF (M : Mem) : Prop := (∀ b : Pos, M.next.num ≤ b.num → M.t.get b = none) ∧ M.floor ≤ M.next.num
theorem WF.fresh {M : Mem} (h : WF M) {b : Pos} {o : SObj} (hb : M.t.get b = some o) : b.num < M.next.num := by
 apply Classical.byContradiction
 intro hn
 rw [h.1 b (by omega)] at hb
 simp at hb
theorem WF.new {M : Mem} (h : WF M) (o : SObj) : WF ⟨M.t.put (some o) M.next, M.next.succ, M.floor⟩ := by
 refine ⟨fun b hb => ?_, ?_⟩
 ·have hb' : M.next.succ.num ≤ b.num := hb
  rw [Pos.num_succ] at hb'
  show Tree.get b (M.t.put _ _) = none
  rw [Tree.get_put_other _ _ (fun he => by subst he; omega)]
  exact h.1 b (by omega)
 ·show M.floor ≤ M.next.succ.num
  rw [Pos.num_succ]
  have := h.2
  omega
theorem MRel.wf {B m M w} (hr : MRel B m M w) : WF M := ⟨fun b hb => (hr.fresh b hb).2, hr.flo⟩
def FLe : z81 → z81 → Prop
 | .mk cx n σ k, .mk cx' n' σ' k' => cx = cx' ∧ n = n' ∧ k = k' ∧ ∀ t s, σ'.get (Pos.ofNat t) = some s → σ.get (Pos.ofNat t) = some s
theorem FLe.refl (f : z81) : FLe f f := by cases f; exact ⟨rfl, rfl, rfl, fun _ _ h => h⟩
theorem FLe.rel {m : Map} {f f' : z81} {fr : Frame} (h : FLe f f') (hf : zaj m f fr) : zaj m f' fr := by
 obtain ⟨cx, n, σ, k⟩ := f
 obtain ⟨cx', n', σ', k'⟩ := f'
 obtain ⟨rfl, rfl, rfl, hs⟩ := h
 obtain ⟨c, tm, todo, rfl, hc, ht, hn, hk⟩ := hf
 exact ⟨c, tm, todo, rfl, hc, fun t s e => ht t s (hs t s e), hn, hk⟩
theorem FLe.fn {f f' : z81} (h : FLe f f') : f.fn = f'.fn := by
 obtain ⟨cx, n, σ, k⟩ := f
 obtain ⟨cx', n', σ', k'⟩ := f'
 obtain ⟨rfl, rfl, rfl, hs⟩ := h
 rfl
theorem FLe.trans {a b c : z81} (h : FLe a b) (h' : FLe b c) : FLe a c := by
 obtain ⟨cx, n, σ, k⟩ := a
 obtain ⟨cx', n', σ', k'⟩ := b
 obtain ⟨cx2, n2, σ2, k2⟩ := c
 obtain ⟨rfl, rfl, rfl, hs⟩ := h
 obtain ⟨rfl, rfl, rfl, hs'⟩ := h'
 exact ⟨rfl, rfl, rfl, fun t s e => hs t s (hs' t s e)⟩
theorem zi6 {m : Map} : ∀ {cs cs' : List z81} {frs : List Frame}, z8p FLe cs cs' → z8p (zaj m) cs frs → z8p (zaj m) cs' frs
 | _, _, _, .nil, .nil => .nil
 | _, _, _, .cons a b, .cons c d => .cons (a.rel c) (zi6 b d)
theorem zi5 : ∀ {cs cs' : List z81} (f : FuncId), z8p FLe cs cs' → zcn f cs = zcn f cs'
 | _, _, _, .nil => rfl
 | _, _, _, .cons (a := x) (b := y) a b => by
  show zcn x.fn _ = zcn y.fn _
  rw [a.fn, zi5 _ b]
theorem z9m : ∀ cs : List z81, z8p FLe cs cs
 | [] => .nil
 | c :: cs => .cons (.refl c) (z9m cs)
def zlk (P : Program) (f : z81) (cs : List z81) (M : Mem) (s : SV) (M' : Mem) : Prop :=
 P.follows .mixedOrders = true → ∀ (B : Nat) (m : Map) (w : World) (fr : Frame) (frs cs0 : List Frame), MRel B m M w → zaj m f fr → z8p (zaj m) cs frs →
  ∃ fr' w' m' x, Steps P (lone fr (frs ++ cs0) w) (lone fr' cs0 w') ∧ z82 B m M w m' M' w' ∧ conc m' s = some x ∧ fr'.leaving P w' (.returned x) ∧ fr'.fn = zcn f.fn cs
theorem zlk.weak {f f' : z81} {cs cs' : List z81} {M : Mem} {s : SV} {M' : Mem} (h : zlk P f' cs' M s M') (hf : FLe f f') (hc : z8p FLe cs cs') : zlk P f cs M s M' := by
 intro hmix B m w fr frs cs0 hr h1 h2
 obtain ⟨fr', w', m', x, g1, g2, g3, g4, g5⟩ := h hmix B m w fr frs cs0 hr (hf.rel h1) (zi6 hc h2)
 exact ⟨fr', w', m', x, g1, g2, g3, g4, by rw [g5, ← hf.fn, ← zi5 _ hc]⟩
structure Aft (M M' : Mem) : Prop where
 wf : WF M'
 floor : M'.floor = M.floor
 next : M.next.num ≤ M'.next.num
 old : ∀ b : Pos, b.num < M.floor → M'.t.get b = M.t.get b
theorem Aft.refl {M : Mem} (h : WF M) : Aft M M := ⟨h, rfl, Nat.le_refl _, fun _ _ => rfl⟩
theorem Aft.trans {M M' M'' : Mem} (h : Aft M M') (h' : Aft M' M'') : Aft M M'' := ⟨h'.wf, h'.floor.trans h.floor, Nat.le_trans h.next h'.next, fun b hb => (h'.old b (by rw [h.floor]; exact hb)).trans (h.old b hb)⟩
theorem WF.anew {M : Mem} (h : WF M) (o : SObj) : Aft M ⟨M.t.put (some o) M.next, M.next.succ, M.floor⟩ := ⟨h.new o, rfl, by show M.next.num ≤ M.next.succ.num; rw [Pos.num_succ]; omega, fun b hb => Tree.get_put_other _ _ (fun e => by subst e; have := h.2; omega)⟩
theorem WF.set {M : Mem} (h : WF M) {b : Pos} (o : Option SObj) (hb : b.num < M.next.num) : WF (setT M b o) := by
 refine ⟨fun c hc => ?_, h.2⟩
 have hc' : M.next.num ≤ c.num := hc
 show Tree.get c (M.t.put o b) = none
 rw [Tree.get_put_other _ _ (fun he => by subst he; omega)]
 exact h.1 c hc'
theorem zes {M : Mem} {b : Pos} {L : LoopS} (h : loopOwn M b = some L) : M.floor ≤ b.num ∧ M.t.get b = some (.loop L) := by
 unfold loopOwn at h
 split at h
 ·rename_i ha
  refine ⟨Nat.le_of_ble_eq_true ha, ?_⟩
  unfold loopOf at h
  split at h
  ·rename_i hl
   simp only [Option.some.injEq] at h
   subst h
   exact hl
  ·simp at h
 ·simp at h
theorem WF.setLoop {M : Mem} {b : Pos} {L : LoopS} (hL : loopOwn M b = some L) (o : Option SObj) (h : WF M) : Aft M (setT M b o) := ⟨h.set o (h.fresh (zes hL).2), rfl, Nat.le_refl _, fun c hc => Tree.get_put_other _ _ (fun e => by subst e; have := (zes hL).1; omega)⟩
theorem WF.shut : ∀ {ds : List Pos} {M M1 : Mem}, zcj ds M = some M1 → WF M → Aft M M1
 | [], M, M1, h, hw => by
  simp only [zcj, Option.some.injEq] at h
  subst h
  exact .refl hw
 | b :: ds, M, M1, h, hw => by
  unfold zcj at h
  split at h
  ·rename_i hb
   split at h
   ·rename_i ha
    have h2 := WF.shut h (hw.set none (hw.fresh hb))
    exact ⟨h2.wf, h2.floor, h2.next, fun c hc => (h2.old c hc).trans (Tree.get_put_other _ _ (fun e => by subst e; have h3 := Nat.le_of_ble_eq_true ha; omega))⟩
   ·simp at h
  ·simp at h
structure Fx where
 cx : SCx
 cs : List z81
def Run (P : Program) (fx : Fx) (n : Nat) (Q : SV → Mem → Prop) (e : Env) (k : List SItem) (M : Mem) : Prop :=
 WF M → ∃ s M', Q s M' ∧ Aft M M' ∧ zlk P (.mk fx.cx n (treeOf e) k) fx.cs M s M'
section
variable {fx : Fx} {n : Nat} {Q : SV → Mem → Prop} {e : Env} {k : List SItem} {M : Mem}
theorem Run.imp {Q' : SV → Mem → Prop} (h : Run P fx n Q e k M) (hq : ∀ s M', Q s M' → Q' s M') : Run P fx n Q' e k M := by
 intro hl
 obtain ⟨s, M', h1, h2⟩ := h hl
 exact ⟨s, M', hq _ _ h1, h2⟩
theorem Run.of_stepX {D : Known} {f' : z81} {cs' : List z81} {M1 : Mem} {fx' : Fx} {n' : Nat} {e' : Env} {k' : List SItem} (hD : P.follows .mixedOrders = true → ∀ B, Sound P B D)
  (h : zim z9a D P (.mk fx.cx n (treeOf e) k) fx.cs M = .go f' cs' M1) (hwf : WF M → Aft M M1) (hf : FLe f' (.mk fx'.cx n' (treeOf e') k')) (hcs : z8p FLe cs' fx'.cs) (next : Run P fx' n' Q e' k' M1) : Run P fx n Q e k M := by
 intro hw
 obtain ⟨s, M', hq, hw', hrun⟩ := next (hwf hw).wf
 refine ⟨s, M', hq, (hwf hw).trans hw', ?_⟩
 intro hmix B m w fr frs cs0 hr h1 h2
 have hg := zai (I := z9a) (D := D) hr (zej P B) (hD hmix B) hmix (cs0 := cs0) h1 h2 rfl
 rw [h] at hg
 obtain ⟨fr1, frs1, w1, m1, hs, hst, hf1, hc1, hb⟩ := hg
 obtain ⟨fr2, w2, m2, x, g1, g2, g3, g4, g5⟩ := hrun hmix B m1 w1 fr1 frs1 cs0 hst.rel (hf.rel hf1) (zi6 hcs hc1)
 refine ⟨fr2, w2, m2, x, hs.trans g1, hst.trans g2, g3, g4, ?_⟩
 rw [g5, ← hf.fn, ← zi5 _ hcs, hb]
theorem Run.of_step {D : Known} {σ' : Tree SV} {k' : List SItem} {M' : Mem} {e' : Env} (hD : P.follows .mixedOrders = true → ∀ B, Sound P B D) (h : zim z9a D P (.mk fx.cx n (treeOf e) k) fx.cs M = .go (.mk fx.cx n σ' k') fx.cs M')
  (he : ∀ t s, lk t e' = some s → σ'.get (Pos.ofNat t) = some s) (next : Run P fx n Q e' k' M') (hwf : WF M → Aft M M' := by exact fun h => Aft.refl h) : Run P fx n Q e k M :=
 .of_stepX hD h hwf ⟨rfl, rfl, rfl, fun t s hs => he t s (by rw [← z88]; exact hs)⟩ (z9m _) next
theorem Run.of_done {D : Known} {v : SV} {M' : Mem} (hD : P.follows .mixedOrders = true → ∀ B, Sound P B D) (h : zim z9a D P (.mk fx.cx n (treeOf e) k) fx.cs M = .done v M') (hwf : WF M → Aft M M') (hq : Q v M') : Run P fx n Q e k M := by
 intro hw
 refine ⟨v, M', hq, hwf hw, ?_⟩
 intro hmix B m w fr frs cs0 hr h1 h2
 have hg := zai (I := z9a) (D := D) hr (zej P B) (hD hmix B) hmix (cs0 := cs0) h1 h2 rfl
 rw [h] at hg
 obtain ⟨fr1, w1, m1, x, hs, hst, hv, hl, hb⟩ := hg
 exact ⟨fr1, w1, m1, x, hs, hst, hv, hl, hb⟩
theorem Run.env {e' : Env} (h : ∀ t s, lk t e' = some s → lk t e = some s) (next : Run P fx n Q e' k M) : Run P fx n Q e k M := by
 have hf : FLe (.mk fx.cx n (treeOf e) k) (.mk fx.cx n (treeOf e') k) := ⟨rfl, rfl, rfl, fun t s hs => by rw [z88] at hs ⊢; exact h t s hs⟩
 intro hw
 obtain ⟨s, M', h1, h2, h3⟩ := next hw
 exact ⟨s, M', h1, h2, h3.weak hf (z9m _)⟩
theorem Run.low {cx : SCx} {cs cs' : List z81} (h : z8p FLe cs cs') (next : Run P ⟨cx, cs'⟩ n Q e k M) : Run P ⟨cx, cs⟩ n Q e k M := by
 intro hw
 obtain ⟨s, M', h1, h2, h3⟩ := next hw
 exact ⟨s, M', h1, h2, h3.weak (.refl _) h⟩
def pick (ks : List Nat) (e : Env) : Env := match ks with
 | [] => []
 | t :: r => match lk t e with
  | some s => (t, s) :: pick r e
  | none => pick r e
theorem zia {t : Nat} {s : SV} {e : Env} : ∀ {ks : List Nat}, lk t (pick ks e) = some s → lk t e = some s
 | [], h => by simp [pick, lk] at h
 | u :: r, h => by
  unfold pick at h
  split at h
  ·rename_i x hx
   by_cases hu : u = t
   ·subst hu
    simp only [lk, Nat.beq_refl, cond_true] at h
    rw [hx]; exact h
   ·have hb : Nat.beq u t = false := zrh hu
    simp only [lk, hb, cond_false] at h
    exact zia h
  ·exact zia h
theorem Run.pick (ks : List Nat) (next : Run P fx n Q (pick ks e) k M) : Run P fx n Q e k M := Run.env (fun _ _ => zia) next
theorem fle_pick {cx : SCx} {n : Nat} {e e' : Env} {k : List SItem} (ks : List Nat) (he : Go.Ev.pick ks e = e') : FLe (.mk cx n (treeOf e) k) (.mk cx n (treeOf e') k) := by
 subst he
 exact ⟨rfl, rfl, rfl, fun t s hs => by rw [z88] at hs ⊢; exact zia hs⟩
theorem sound0 : P.follows .mixedOrders = true → ∀ B, Sound P B z9a := fun _ B => zej P B
theorem Run.seq {a b : Code} (next : Run P fx n Q e (.code a :: .code b :: k) M) : Run P fx n Q e (.code (.seq a b) :: k) M :=
 .of_step sound0 (σ' := treeOf e) rfl (fun t s h => by rw [z88]; exact h) next
theorem Run.skip (next : Run P fx n Q e k M) : Run P fx n Q e (.code .skip :: k) M :=
 .of_step sound0 (σ' := treeOf e) rfl (fun t s h => by rw [z88]; exact h) next
theorem Run.label {l : Nat} (next : Run P fx n Q e k M) : Run P fx n Q e (.code (.label l) :: k) M :=
 .of_step sound0 (σ' := treeOf e) rfl (fun t s h => by rw [z88]; exact h) next
theorem Run.block {i : Nat} {c : Code} (next : Run P fx n Q e (.code c :: .inBlock i :: k) M) : Run P fx n Q e (.code (.block i c) :: k) M :=
 .of_step sound0 (σ' := treeOf e) rfl (fun t s h => by rw [z88]; exact h) next
theorem Run.loop {c : Code} (next : Run P fx n Q e (.code c :: .inLoop c :: k) M) : Run P fx n Q e (.code (.loop c) :: k) M :=
 .of_step sound0 (σ' := treeOf e) rfl (fun t s h => by rw [z88]; exact h) next
theorem Run.scope {c : Code} (next : Run P fx n Q e (.code c :: .inScope c :: k) M) : Run P fx n Q e (.code (.scope c) :: k) M :=
 .of_step sound0 (σ' := treeOf e) rfl (fun t s h => by rw [z88]; exact h) next
theorem Run.inBlock {i : Nat} (next : Run P fx n Q e k M) : Run P fx n Q e (.inBlock i :: k) M :=
 .of_step sound0 (σ' := treeOf e) rfl (fun t s h => by rw [z88]; exact h) next
theorem Run.inScope {c : Code} (next : Run P fx n Q e k M) : Run P fx n Q e (.inScope c :: k) M :=
 .of_step sound0 (σ' := treeOf e) rfl (fun t s h => by rw [z88]; exact h) next
theorem Run.inLoop {c : Code} (next : Run P fx n Q e (.code c :: .inLoop c :: k) M) : Run P fx n Q e (.inLoop c :: k) M :=
 .of_step sound0 (σ' := treeOf e) rfl (fun t s h => by rw [z88]; exact h) next
theorem Run.exit {i : Nat} {k' : List SItem} (h : zby i k = some k') (next : Run P fx n Q e k' M) : Run P fx n Q e (.code (.exit i) :: k) M := by
 refine .of_step sound0 (σ' := treeOf e) (k' := k') (M' := M) ?_ (fun t s h => by rw [z88]; exact h) next
 show zqb fx.cx n (treeOf e) k fx.cs M i = _
 unfold zqb
 rw [h]
theorem Run.region {i : Nat} {ops : Array Oper} (next : Run P fx n Q e (.ops ops ops.toList :: k) M) : Run P fx n Q e (.code (.region i ops false) :: k) M :=
 .of_step sound0 (σ' := treeOf e) rfl (fun t s h => by rw [z88]; exact h) next
theorem Run.opsEnd {all : Array Oper} (next : Run P fx n Q e k M) : Run P fx n Q e (.ops all [] :: k) M :=
 .of_step sound0 (σ' := treeOf e) rfl (fun t s h => by rw [z88]; exact h) next
noncomputable def ar (e : Env) (x : Operand) : Option SV := match x with
 | .tmp t => lk t e
 | .const v => ofV v
 | .global _ => none
 | .func f => some (.fn (.func f) [] [])
theorem z8j {x : Operand} {s : SV} (h : ar e x = some s) (M : Mem) : arg M (treeOf e) x = some s := by
 cases x with
 | tmp t => exact (z88 t e).trans h
 | const v => exact h
 | global g => simp [ar] at h
 | func f => exact h
theorem Run.cond {x : Operand} {a b : Code} {c : Bool} (h : ar e x = some (.bool c)) (next : Run P fx n Q e (.code (bif c then a else b) :: k) M) : Run P fx n Q e (.code (.cond x a b) :: k) M := by
 refine .of_step sound0 (σ' := treeOf e) (k' := .code (bif c then a else b) :: k) (M' := M) ?_ (fun t s h => by rw [z88]; exact h) next
 show zqa fx.cx n (treeOf e) k fx.cs M x a b = _
 unfold zqa
 rw [z8j h]
 cases c <;> rfl
theorem Run.condT {x : Operand} {a b : Code} (h : ar e x = some (.bool true)) (next : Run P fx n Q e (.code a :: k) M) : Run P fx n Q e (.code (.cond x a b) :: k) M := Run.cond h next
theorem Run.condF {x : Operand} {a b : Code} (h : ar e x = some (.bool false)) (next : Run P fx n Q e (.code b :: k) M) : Run P fx n Q e (.code (.cond x a b) :: k) M := Run.cond h next
theorem Run.condT' {x : Operand} {a b : Code} {c : Bool} (h : ar e x = some (.bool c)) (hc : c = true) (next : Run P fx n Q e (.code a :: k) M) : Run P fx n Q e (.code (.cond x a b) :: k) M := by subst hc; exact Run.condT h next
theorem Run.condF' {x : Operand} {a b : Code} {c : Bool} (h : ar e x = some (.bool c)) (hc : c = false) (next : Run P fx n Q e (.code b :: k) M) : Run P fx n Q e (.code (.cond x a b) :: k) M := by subst hc; exact Run.condF h next
theorem wantS_none {all : Array Oper} {σ : Tree SV} {d : Option Tmp} {op : Op} {ty : TypeId} {pos : String} {af : Array Edge} : z8e all σ ⟨d, op, ty, pos, af, none⟩ = some true := rfl
theorem zgp {all : Array Oper} {d : Option Tmp} {op : Op} {ty : TypeId} {pos : String} {af : Array Edge} {j : Nat} {want b : Bool} {t : Tmp} (h : (all[j]?).bind (·.dst) = some t) (hb : lk t e = some (.bool b)) :
  z8e all (treeOf e) ⟨d, op, ty, pos, af, some (j, want)⟩ = some (b == want) := by
 unfold z8e
 simp only [h, z88, hb]
theorem zps {all : Array Oper} {d : Option Tmp} {op : Op} {ty : TypeId} {pos : String} {af : Array Edge} {j : Nat} {want : Bool} {t : Tmp} (h : (all[j]?).bind (·.dst) = some t) (hb : lk t e = some (.bool want)) :
  z8e all (treeOf e) ⟨d, op, ty, pos, af, some (j, want)⟩ = some true := by
 rw [zgp h hb]; simp
theorem zpr {all : Array Oper} {d : Option Tmp} {op : Op} {ty : TypeId} {pos : String} {af : Array Edge} {j : Nat} {want b : Bool} {t : Tmp} (h : (all[j]?).bind (·.dst) = some t) (hb : lk t e = some (.bool b)) (hne : (b == want) = false) :
  z8e all (treeOf e) ⟨d, op, ty, pos, af, some (j, want)⟩ = some false := by
 rw [zgp h hb, hne]
theorem wantS_skip {all : Array Oper} {d : Option Tmp} {op : Op} {ty : TypeId} {pos : String} {af : Array Edge} {j : Nat} {want : Bool} {t : Tmp} (h : (all[j]?).bind (·.dst) = some t) (hb : lk t e = some (.tuple [])) :
  z8e all (treeOf e) ⟨d, op, ty, pos, af, some (j, want)⟩ = some false := by
 unfold z8e
 simp only [h, z88, hb]
theorem wantS_yes' {all : Array Oper} {d : Option Tmp} {op : Op} {ty : TypeId} {pos : String} {af : Array Edge} {j : Nat} {want c : Bool} {t : Tmp} (h : (all[j]?).bind (·.dst) = some t) (hb : lk t e = some (.bool c)) (hc : c = want) :
  z8e all (treeOf e) ⟨d, op, ty, pos, af, some (j, want)⟩ = some true := by subst hc; exact zps h hb
theorem wantS_not' {all : Array Oper} {d : Option Tmp} {op : Op} {ty : TypeId} {pos : String} {af : Array Edge} {j : Nat} {want c : Bool} {t : Tmp} (h : (all[j]?).bind (·.dst) = some t) (hb : lk t e = some (.bool c)) (hc : c = !want) :
  z8e all (treeOf e) ⟨d, op, ty, pos, af, some (j, want)⟩ = some false := by subst hc; exact zpr h hb (by cases want <;> rfl)
def putE (d : Option Tmp) (v : SV) (e : Env) : Env := match d with
 | none => e
 | some d => (d, v) :: e
def okD (d : Option Tmp) (n : Nat) : Bool := match d with
 | none => true
 | some d => Nat.ble (Nat.succ d) n
theorem z89 {d : Option Tmp} {n : Nat} {v : SV} (h : okD d n = true) : zam (treeOf e) n d v = some (treeOf (putE d v e)) := by
 cases d with
 | none => rfl
 | some d =>
  have h' : Nat.ble (Nat.succ d) n = true := h
  simp only [zam, h']
  rfl
theorem Run.opM {all : Array Oper} {r : List Oper} {d : Option Tmp} {op : Op} {ty : TypeId} {pos : String} {af : Array Edge} {g : Option (Nat × Bool)} {v : SV} {M' : Mem}
  (hw : z8e all (treeOf e) ⟨d, op, ty, pos, af, g⟩ = some true) (hx : execO P M (treeOf e) op = .val v M') (hwf : WF M → Aft M M') (hd : okD d n = true)
  (next : Run P fx n Q (putE d v e) (.ops all r :: k) M') : Run P fx n Q e (.ops all (⟨d, op, ty, pos, af, g⟩ :: r) :: k) M := by
 refine .of_step sound0 (σ' := treeOf (putE d v e)) (k' := .ops all r :: k) (M' := M') ?_ (fun t s h => by rw [← z88] at h; exact h) next hwf
 show opS z9a P fx.cx n (treeOf e) all ⟨d, op, ty, pos, af, g⟩ r k fx.cs M = _
 rw [zg4]
 unfold zkz
 have hx' : exec P M (treeOf e) ⟨d, op, ty, pos, af, g⟩ = .val v M' := hx
 simp only [hw, hx', z89 hd]
theorem Run.opG {all : Array Oper} {r : List Oper} {d : Option Tmp} {op : Op} {ty : TypeId} {pos : String} {af : Array Edge} {g : Option (Nat × Bool)} {v : SV}
  (hw : z8e all (treeOf e) ⟨d, op, ty, pos, af, g⟩ = some true) (hx : execO P M (treeOf e) op = .val v M) (hd : okD d n = true)
  (next : Run P fx n Q (putE d v e) (.ops all r :: k) M) : Run P fx n Q e (.ops all (⟨d, op, ty, pos, af, g⟩ :: r) :: k) M := .opM hw hx Aft.refl hd next
def ExG (P : Program) (M : Mem) (e : Env) (op : Op) (R : SV → Mem → Prop) : Prop := WF M → ∃ v M', execO P M (treeOf e) op = .val v M' ∧ Aft M M' ∧ R v M'
theorem Run.opX {all : Array Oper} {r : List Oper} {d : Option Tmp} {op : Op} {ty : TypeId} {pos : String} {af : Array Edge} {g : Option (Nat × Bool)} {R : SV → Mem → Prop}
  (hw : z8e all (treeOf e) ⟨d, op, ty, pos, af, g⟩ = some true) (hd : okD d n = true) (hx : ExG P M e op R)
  (next : ∀ v M', R v M' → Run P fx n Q (putE d v e) (.ops all r :: k) M') : Run P fx n Q e (.ops all (⟨d, op, ty, pos, af, g⟩ :: r) :: k) M := by
 intro hw0
 obtain ⟨v, M', h1, h2, h3⟩ := hx hw0
 exact Run.opM hw h1 (fun _ => h2) hd (next v M' h3) hw0
theorem Run.no {all : Array Oper} {r : List Oper} {d : Option Tmp} {op : Op} {ty : TypeId} {pos : String} {af : Array Edge} {g : Option (Nat × Bool)}
  (hw : z8e all (treeOf e) ⟨d, op, ty, pos, af, g⟩ = some false) (hd : okD d n = true)
  (next : Run P fx n Q (putE d (.tuple []) e) (.ops all r :: k) M) : Run P fx n Q e (.ops all (⟨d, op, ty, pos, af, g⟩ :: r) :: k) M := by
 refine .of_step sound0 (σ' := treeOf (putE d (.tuple []) e)) (k' := .ops all r :: k) (M' := M) ?_ (fun t s h => by rw [← z88] at h; exact h) next
 show opS z9a P fx.cx n (treeOf e) all ⟨d, op, ty, pos, af, g⟩ r k fx.cs M = _
 rw [zg4]
 unfold zkz
 simp only [hw, z89 hd]
def zmp (i : Nat) (e : Env) : List SV → Env
 | [] => e
 | s :: l => zmp (i + 1) ((i, s) :: e) l
theorem zj3 : ∀ (l : List SV) (i : Nat) (e : Env), treeOf (zmp i e l) = zga i (treeOf e) l
 | [], _, _ => rfl
 | s :: l, i, e => zj3 l (i + 1) ((i, s) :: e)
theorem zcp {f : FuncId} {F : Func} {c : Code} {xs : List SV} (hF : P.funcs[f]? = some F) (hb : F.body = some c) (hn : Nat.ble xs.length F.ntmps = true) : enterS P f xs = some (.mk ⟨f, [], none⟩ F.ntmps (treeOf (zmp 0 [] xs)) [.code c]) := by
 unfold enterS
 rw [hF]
 simp only [hb, z93, hn, zj3]
 rfl
theorem Run.enter {all : Array Oper} {r : List Oper} {d : Option Tmp} {op : Op} {ty : TypeId} {pos : String} {af : Array Edge} {g : Option (Nat × Bool)} {f : FuncId} {F : Func} {c : Code} {xs : List SV}
  (hw : z8e all (treeOf e) ⟨d, op, ty, pos, af, g⟩ = some true) (hx : execO P M (treeOf e) op = .enter f xs M) (hF : P.funcs[f]? = some F) (hb : F.body = some c) (hn : Nat.ble xs.length F.ntmps = true)
  (next : Run P ⟨⟨f, [], none⟩, .mk fx.cx n (treeOf e) (.ops all (⟨d, op, ty, pos, af, g⟩ :: r) :: k) :: fx.cs⟩ F.ntmps Q (zmp 0 [] xs) [.code c] M) : Run P fx n Q e (.ops all (⟨d, op, ty, pos, af, g⟩ :: r) :: k) M := by
 refine .of_stepX sound0 (f' := .mk ⟨f, [], none⟩ F.ntmps (treeOf (zmp 0 [] xs)) [.code c]) (cs' := .mk fx.cx n (treeOf e) (.ops all (⟨d, op, ty, pos, af, g⟩ :: r) :: k) :: fx.cs) (M1 := M) ?_ Aft.refl (.refl _) (z9m _) next
 show opS z9a P fx.cx n (treeOf e) all ⟨d, op, ty, pos, af, g⟩ r k fx.cs M = _
 rw [zg4]
 unfold zkz
 have hx' : exec P M (treeOf e) ⟨d, op, ty, pos, af, g⟩ = .enter f xs M := hx
 simp only [hw, hx', z9a, zcp hF hb hn]
theorem res_nil : zj1 M P (treeOf e) [] = some [] := rfl
theorem res_tmp {t : Tmp} {s : SV} {r : List ResultVar} {l : List SV} (h : lk t e = some s) (hr : zj1 M P (treeOf e) r = some l) : zj1 M P (treeOf e) (.tmp t :: r) = some (s :: l) := by
 simp only [zj1, z88, h, hr]
section
variable {f : FuncId} {ds : List Pos} {F : Func} {l : List SV} {M1 : Mem}
theorem zgg (hF : P.funcs[f]? = some F) (hsh : zcj ds M = some M1) (hres : zj1 M1 P (treeOf e) F.results.toList = some l) (j : Option Code) (cs : List z81) : zq3 P ⟨f, ds, none⟩ j (treeOf e) cs M = zfn (zih l) cs M1 := by
 unfold zq3
 simp only [hF, hsh, hres]
theorem Run.ret (hF : P.funcs[f]? = some F) (hsh : zcj ds M = some M1) (hres : zj1 M1 P (treeOf e) F.results.toList = some l) (hq : Q (zih l) M1) : Run P ⟨⟨f, ds, none⟩, []⟩ n Q e (.code .ret :: k) M := by
 refine .of_done sound0 ?_ (WF.shut hsh) hq
 exact zgg hF hsh hres (some .ret) []
theorem Run.fall (hF : P.funcs[f]? = some F) (hsh : zcj ds M = some M1) (hres : zj1 M1 P (treeOf e) F.results.toList = some l) (hq : Q (zih l) M1) : Run P ⟨⟨f, ds, none⟩, []⟩ n Q e [] M := by
 refine .of_done sound0 ?_ (WF.shut hsh) hq
 exact zgg hF hsh hres none []
section
variable {cx' : SCx} {n' : Nat} {e' : Env} {all : Array Oper} {r : List Oper} {d : Option Tmp} {op : Op} {ty : TypeId} {pos : String} {af : Array Edge} {g : Option (Nat × Bool)} {k' : List SItem} {cs' : List z81}
theorem ze6 {v : SV} (hd : okD d n' = true) : zfn v (.mk cx' n' (treeOf e') (.ops all (⟨d, op, ty, pos, af, g⟩ :: r) :: k') :: cs') M = .go (.mk cx' n' (treeOf (putE d v e')) (.ops all r :: k')) cs' M := by
 show ze5 v (.mk cx' n' (treeOf e') (.ops all (⟨d, op, ty, pos, af, g⟩ :: r) :: k') :: cs') M = _
 unfold ze5
 simp only [z89 hd]
theorem Run.retTo (hF : P.funcs[f]? = some F) (hsh : zcj ds M = some M1) (hres : zj1 M1 P (treeOf e) F.results.toList = some l) (hd : okD d n' = true) (next : Run P ⟨cx', cs'⟩ n' Q (putE d (zih l) e') (.ops all r :: k') M1) :
  Run P ⟨⟨f, ds, none⟩, .mk cx' n' (treeOf e') (.ops all (⟨d, op, ty, pos, af, g⟩ :: r) :: k') :: cs'⟩ n Q e (.code .ret :: k) M := by
 refine .of_stepX sound0 ?_ (WF.shut hsh) (.refl _) (z9m _) next
 exact (zgg hF hsh hres (some .ret) _).trans (ze6 hd)
theorem Run.fallTo (hF : P.funcs[f]? = some F) (hsh : zcj ds M = some M1) (hres : zj1 M1 P (treeOf e) F.results.toList = some l) (hd : okD d n' = true) (next : Run P ⟨cx', cs'⟩ n' Q (putE d (zih l) e') (.ops all r :: k') M1) :
  Run P ⟨⟨f, ds, none⟩, .mk cx' n' (treeOf e') (.ops all (⟨d, op, ty, pos, af, g⟩ :: r) :: k') :: cs'⟩ n Q e [] M := by
 refine .of_stepX sound0 ?_ (WF.shut hsh) (.refl _) (z9m _) next
 exact (zgg hF hsh hres none _).trans (ze6 hd)
theorem Run.fallRange {b : Pos} (hF : P.funcs[f]? = some F) (hsh : zcj ds M = some M1) (hres : zj1 M1 P (treeOf e) F.results.toList = some l) (next : Run P ⟨cx', cs'⟩ n' Q e' (.endRange b :: k') M1) :
  Run P ⟨⟨f, ds, none⟩, .mk cx' n' (treeOf e') (.inRange b :: k') :: cs'⟩ n Q e [] M := by
 refine .of_stepX sound0 ?_ (WF.shut hsh) (.refl _) (z9m _) next
 exact zgg hF hsh hres none _
theorem zl1 {b : Pos} {L : LoopS} {j : Option Code} (hL : loopOwn M b = some L) (hd : okD d n' = true) : roundEnd b j (.mk cx' n' (treeOf e') (.ops all (⟨d, op, ty, pos, af, g⟩ :: r) :: k') :: cs') M = .go (.mk cx' n' (treeOf (putE d (.bool j.isNone) e')) (.ops all r :: k')) cs' (setT M b (some (.loop { L with st := if j.isNone then .ready else .done, pend := j }))) := by
 unfold roundEnd
 simp only [hL]
 exact ze6 hd
theorem Run.roundEnd {b : Pos} {L : LoopS} (hL : loopOwn M b = some L) (hd : okD d n' = true) (next : Run P ⟨cx', cs'⟩ n' Q (putE d (.bool true) e') (.ops all r :: k') (setT M b (some (.loop { L with st := .ready, pend := none })))) :
  Run P ⟨⟨f, ds, some b⟩, .mk cx' n' (treeOf e') (.ops all (⟨d, op, ty, pos, af, g⟩ :: r) :: k') :: cs'⟩ n Q e [] M := by
 refine .of_stepX sound0 ?_ (WF.setLoop hL _) (.refl _) (z9m _) next
 exact zl1 (j := none) hL hd
end
end
theorem Run.round {all : Array Oper} {r : List Oper} {d : Option Tmp} {op : Op} {ty : TypeId} {pos : String} {af : Array Edge} {g : Option (Nat × Bool)} {b : Pos} {L : LoopS} {e' : Env} {xs : List SV}
  (hw : z8e all (treeOf e) ⟨d, op, ty, pos, af, g⟩ = some true) (hx : execO P M (treeOf e) op = .round b xs M) (hL : loopOf M b = some L) (hp : zjw L.n L.ps xs L.tmps = some (treeOf e'))
  (next : Run P ⟨⟨L.fn, [], some b⟩, .mk fx.cx n (treeOf e) (.ops all (⟨d, op, ty, pos, af, g⟩ :: r) :: k) :: fx.cs⟩ L.n Q e' [.code L.assign, .beginRound, .code L.body] M) : Run P fx n Q e (.ops all (⟨d, op, ty, pos, af, g⟩ :: r) :: k) M := by
 refine .of_stepX sound0 (f' := .mk ⟨L.fn, [], some b⟩ L.n (treeOf e') [.code L.assign, .beginRound, .code L.body]) (cs' := .mk fx.cx n (treeOf e) (.ops all (⟨d, op, ty, pos, af, g⟩ :: r) :: k) :: fx.cs) (M1 := M) ?_ Aft.refl (.refl _) (z9m _) next
 show opS z9a P fx.cx n (treeOf e) all ⟨d, op, ty, pos, af, g⟩ r k fx.cs M = _
 rw [zg4]
 unfold zkz
 have hx' : exec P M (treeOf e) ⟨d, op, ty, pos, af, g⟩ = .round b xs M := hx
 simp only [hw, hx', zhh, hL, hp]
theorem Run.beginRound {f : FuncId} {ds : List Pos} {b : Pos} {cs : List z81} {L : LoopS} (hL : loopOwn M b = some L) (hs : L.st = .ready) (next : Run P ⟨⟨f, ds, some b⟩, cs⟩ n Q e k (setT M b (some (.loop { L with st := .busy })))) : Run P ⟨⟨f, ds, some b⟩, cs⟩ n Q e (.beginRound :: k) M := by
 refine .of_step sound0 (σ' := treeOf e) (k' := k) (M' := setT M b (some (.loop { L with st := .busy }))) ?_ (fun t s h => by rw [z88]; exact h) next (WF.setLoop hL _)
 show zfc ⟨f, ds, some b⟩ n (treeOf e) k cs M = _
 unfold zfc
 simp only [hL, hs]
def ztd (j : Option Code) (k : List SItem) : List SItem := match j with
 | none => k
 | some c => .code c :: k
theorem Run.endRange {b : Pos} {L : LoopS} (hL : loopOwn M b = some L) (hs : L.st ≠ .busy) (next : Run P fx n Q e (ztd L.pend k) (setT M b (some (.loop { L with st := .exhausted })))) : Run P fx n Q e (.endRange b :: k) M := by
 refine .of_step sound0 (σ' := treeOf e) (M' := setT M b (some (.loop { L with st := .exhausted }))) ?_ (fun t s h => by rw [z88]; exact h) next (WF.setLoop hL _)
 show zs3 fx.cx n (treeOf e) b k fx.cs M = _
 unfold zs3
 simp only [hL]
 obtain ⟨st, pd, fn, n, tm, ps, asg, bd, df⟩ := L
 cases st <;> first | exact absurd rfl hs | (cases pd <;> rfl)
theorem Run.rangeFn {f : FuncId} {ds : List Pos} {cs : List z81} {x : Operand} {ps : Array Tmp} {asg bd c : Code} {gf : FuncId} {F : Func} {first captured : List SV} (hx : ar e x = some (.fn (.func gf) first captured)) (hcl : callable P gf = true) (hF : P.funcs[gf]? = some F) (hb : F.body = some c) (hn : Nat.ble ((first ++ [SV.yield M.next.succ]) ++ captured).length F.ntmps = true)
  (next : Run P ⟨⟨gf, [], none⟩, .mk ⟨f, M.next :: ds, none⟩ n (treeOf e) (.inRange M.next.succ :: k) :: cs⟩ F.ntmps Q (zmp 0 [] ((first ++ [SV.yield M.next.succ]) ++ captured)) [.code c]
   ⟨(M.t.put (some .defd) M.next).put (some (.loop ⟨.ready, none, f, n, treeOf e, ps.toList, asg, bd, M.next⟩)) M.next.succ, M.next.succ.succ, M.floor⟩) : Run P ⟨⟨f, ds, none⟩, cs⟩ n Q e (.code (.rangeFunc x ps asg bd) :: k) M := by
 refine .of_stepX sound0 ?_ (fun h => (h.anew _).trans ((h.new _).anew _)) (.refl _) (z9m _) next
 show zgd P ⟨f, ds, none⟩ n (treeOf e) x ps asg bd k cs M = _
 unfold zgd
 simp only [z8j hx, hcl, z9i, zcp hF hb hn]
end
end Go.Ev
namespace Go.Ev
open Go.RowKit
variable {P : Program}
noncomputable def rd (M : Mem) (b : Pos) : Option (List SV) := if b.num < M.next.num then z9k M b else none
noncomputable def ro (M : Mem) (b : Pos) : Option (List SV) := if b.num < M.next.num then (match M.t.get b with
 | some (.ro c) => some c
 | some (.fix c) => some c
 | _ => none) else none
theorem zrn {M : Mem} {b : Pos} {c : List SV} (h : rd M b = some c) : z9k M b = some c := by
 unfold rd at h
 split at h
 ·exact h
 ·simp at h
theorem zrp {M : Mem} {b : Pos} {c : List SV} (h : ro M b = some c) : b.num < M.next.num ∧ (M.t.get b = some (.ro c) ∨ M.t.get b = some (.fix c)) := by
 unfold ro at h
 split at h
 ·rename_i hb
  refine ⟨hb, ?_⟩
  split at h
  ·rename_i x hx; simp only [Option.some.injEq] at h; subst h; exact .inl hx
  ·rename_i x hx; simp only [Option.some.injEq] at h; subst h; exact .inr hx
  ·simp at h
 ·simp at h
theorem zr8 {M : Mem} {b : Pos} {c : List SV} (hb : b.num < M.next.num) (h : M.t.get b = some (.ro c) ∨ M.t.get b = some (.fix c)) : ro M b = some c := by
 unfold ro
 rw [if_pos hb]
 rcases h with h | h <;> rw [h]
theorem zte {M : Mem} {b : Pos} {c : List SV} (hb : b.num < M.next.num) (h : z9k M b = some c) : rd M b = some c := by
 unfold rd
 rw [if_pos hb, h]
theorem ro_rd {M : Mem} {b : Pos} {c : List SV} (h : ro M b = some c) : rd M b = some c := by
 obtain ⟨hb, h⟩ := zrp h
 refine zte hb ?_
 unfold z9k
 rcases h with h | h <;> rw [h]
structure Own (M : Mem) (b : Pos) (o : SObj) : Prop where
 get : M.t.get b = some o
 low : M.floor ≤ b.num
 lt : b.num < M.next.num
def RoK (M M' : Mem) : Prop := (∀ b o, b.num < M.next.num → o.own = false → M.t.get b = some o → M'.t.get b = some o) ∧ M.next.num ≤ M'.next.num
theorem RoK.refl (M : Mem) : RoK M M := ⟨fun _ _ _ _ h => h, Nat.le_refl _⟩
theorem RoK.trans {M1 M2 M3 : Mem} (h : RoK M1 M2) (h' : RoK M2 M3) : RoK M1 M3 := ⟨fun b o hb ho hx => h'.1 b o (Nat.lt_of_lt_of_le hb h.2) ho (h.1 b o hb ho hx), Nat.le_trans h.2 h'.2⟩
theorem RoK.rd {M M' : Mem} (h : RoK M M') : ∀ b c, Go.Ev.ro M b = some c → Go.Ev.ro M' b = some c := by
 intro b c hb
 obtain ⟨hlt, hb⟩ := zrp hb
 refine zr8 (Nat.lt_of_lt_of_le hlt h.2) ?_
 rcases hb with hb | hb
 ·exact .inl (h.1 b _ hlt rfl hb)
 ·exact .inr (h.1 b _ hlt rfl hb)
structure zd6 (M M' : Mem) : Prop where
 rok : RoK M M'
 own : ∀ b o, Own M b o → Own M' b o
theorem zd6.ro {M M'} (h : zd6 M M') : ∀ b c, Go.Ev.ro M b = some c → Go.Ev.ro M' b = some c := h.rok.rd
theorem zd6.next {M M'} (h : zd6 M M') : M.next.num ≤ M'.next.num := h.rok.2
theorem zd6.refl (M : Mem) : zd6 M M := ⟨.refl M, fun _ _ h => h⟩
theorem zd6.trans {M1 M2 M3} (h : zd6 M1 M2) (h' : zd6 M2 M3) : zd6 M1 M3 := ⟨h.rok.trans h'.rok, fun b o e => h'.own b o (h.own b o e)⟩
theorem Own.rd {M b t kk c} (h : Own M b (.row t kk c)) : Go.Ev.rd M b = some c := zte h.lt (zdt h.get)
structure RoLe (M M' : Mem) : Prop where
 ro : ∀ b c, Go.Ev.ro M b = some c → Go.Ev.ro M' b = some c
 next : M.next.num ≤ M'.next.num
def idx {α : Type} (l : List α) (j : Int) : Option α := match j with
 | .ofNat i => l[i]?
 | .negSucc _ => none
theorem zlx {α : Type} {l : List α} {j : Int} {a : α} (h : idx l j = some a) : ∃ i : Nat, j = i ∧ i < l.length ∧ l[i]? = some a := by
 cases j with
 | ofNat i => exact ⟨i, rfl, (List.getElem?_eq_some_iff.1 h).1, h⟩
 | negSucc i => simp [idx] at h
abbrev Rd := Pos → Option (List SV)
def zj2 (f g : Rd) : Prop := ∀ b c, f b = some c → g b = some c
def zsy (z : Nat) (s : SV) : Prop := s = .nils ∨ (∃ b o p, s = .opz b o p z) ∨ ∃ a, s = .rawz a
def Slc {α : Type} (f : Rd) (z : Nat) (R : List SV → α → Prop) (s : SV) (l : List α) : Prop :=
 (zsy z s ∧ l = []) ∨ ∃ b off c, ((∃ cap, l.length ≤ cap ∧ s = .slice b off l.length cap) ∨ s = .ope b off l.length z) ∧ f b = some c ∧ off + l.length * z ≤ c.length ∧ ∀ (i : Nat) (a : α), l[i]? = some a → R ((c.drop (off + i * z)).take z) a
def FlatR {α : Type} (enc : α → List SV) (cs : List SV) (a : α) : Prop := cs = enc a
def zar (f : Rd) (s : SV) (cs : List SV) : Prop := ∃ b off c, s = .ptr b off ∧ f b = some c ∧ off + cs.length ≤ c.length ∧ (c.drop off).take cs.length = cs
theorem Slc.mono {α : Type} {f g : Rd} {z : Nat} {R R' : List SV → α → Prop} {s : SV} {l : List α} (h : Slc f z R s l) (hf : zj2 f g) (hR : ∀ cs a, R cs a → R' cs a) : Slc g z R' s l := by
 rcases h with h | ⟨b, off, c, h1, h2, h3, h4⟩
 ·exact .inl h
 ·exact .inr ⟨b, off, c, h1, hf b c h2, h3, fun i a ha => hR _ _ (h4 i a ha)⟩
theorem zar.mono {f g : Rd} {s : SV} {cs : List SV} (h : zar f s cs) (hf : zj2 f g) : zar g s cs := by
 obtain ⟨b, off, c, h1, h2, h3⟩ := h
 exact ⟨b, off, c, h1, hf b c h2, h3⟩
theorem zrq {M : Mem} {b : Pos} {c : List SV} (h : ro M b = some c) : z9k M b = some c := zrn (ro_rd h)
theorem zar.field {f : Rd} {s : SV} {cs ds : List SV} {o : Nat} (h : zar f s cs) (hd : ds = cs.drop o) (ho : o ≤ cs.length) : ∃ b off, s = .ptr b off ∧ zar f (.ptr b (off + o)) ds := by
 obtain ⟨b, off, c, h1, h2, h3, h4⟩ := h
 refine ⟨b, off, h1, b, off + o, c, rfl, h2, ?_, ?_⟩
 ·subst hd; simp; omega
 ·subst hd
  rw [← List.drop_drop]
  conv => rhs; rw [← h4]
  rw [List.drop_take]
  simp
section
variable {n : Nat} {e : Env} {M : Mem}
theorem ex_move {x : Operand} {s : SV} (h : ar e x = some s) : execO P M (treeOf e) (.move x) = .val s M := by
 show zqf M (treeOf e) x = _
 unfold zqf
 rw [z8j h]
theorem ex_assign {x : Operand} {s : SV} (h : ar e x = some s) : execO P M (treeOf e) (.assign x) = .val s M := ex_move (P := P) h
theorem zae {op : BinOp} {t u : TypeId} {x y : Operand} {a b : SV} (h : ar e x = some a) (h' : ar e y = some b) : execO P M (treeOf e) (.binOp op t x y u) = ze0 P op t (cst x || cst y) a b M := by
 show ztv P M (treeOf e) op t x y u = _
 unfold ztv
 rw [z8j h, z8j h']
 first | rfl | done
theorem z9q {op : BinOp} {t : TypeId} {c : Bool} {kk : IntKind} {a b : Int} (h1 : op ≠ .shl) (h2 : op ≠ .shr) : ze0 P op t c (.int kk a) (.int kk b) M = z8r M (zd2 op kk a b) := by
 have e1 : za8 kk kk = true := by simp [za8]
 cases op <;> first | (simp [ze0, zh5, zru, e1]; done) | exact absurd rfl h1 | exact absurd rfl h2
variable {t u : TypeId} {x y : Operand} {kk : IntKind} {a b : Int}
theorem ex_add (h : ar e x = some (.int kk a)) (h' : ar e y = some (.int kk b)) : execO P M (treeOf e) (.binOp .add t x y u) = .val (.int kk (kk.wrap (a + b))) M := by
 rw [zae h h', z9q (by simp) (by simp)]; simp [zd2, z8r, z8v]
theorem ex_sub (h : ar e x = some (.int kk a)) (h' : ar e y = some (.int kk b)) : execO P M (treeOf e) (.binOp .sub t x y u) = .val (.int kk (kk.wrap (a - b))) M := by
 rw [zae h h', z9q (by simp) (by simp)]; simp [zd2, z8r, z8v]; rfl
theorem ex_mul (h : ar e x = some (.int kk a)) (h' : ar e y = some (.int kk b)) : execO P M (treeOf e) (.binOp .mul t x y u) = .val (.int kk (kk.wrap (a * b))) M := by
 rw [zae h h', z9q (by simp) (by simp)]; simp [zd2, z8r, z8v]
theorem ex_quo (h : ar e x = some (.int kk a)) (h' : ar e y = some (.int kk b)) (hb : b ≠ 0) : execO P M (treeOf e) (.binOp .quo t x y u) = .val (.int kk (kk.wrap (a.tdiv b))) M := by
 have e0 : eqZ b 0 = false := by rw [zay]; simpa using hb
 rw [zae h h', z9q (by simp) (by simp)]; simp [zd2, z8r, z8v, e0]
theorem zt8 (h : ar e x = some (.int kk a)) (h' : ar e y = some (.int kk b)) (hb : b ≠ 0) : execO P M (treeOf e) (.binOp .rem t x y u) = .val (.int kk (a.tmod b)) M := by
 have e0 : eqZ b 0 = false := by rw [zay]; simpa using hb
 rw [zae h h', z9q (by simp) (by simp)]; simp [zd2, z8r, e0]
theorem ex_eql (h : ar e x = some (.int kk a)) (h' : ar e y = some (.int kk b)) : execO P M (treeOf e) (.binOp .eql t x y u) = .val (.bool (a == b)) M := by
 rw [zae h h', z9q (by simp) (by simp)]; simp [zd2, z8r, zay]
theorem ex_neq (h : ar e x = some (.int kk a)) (h' : ar e y = some (.int kk b)) : execO P M (treeOf e) (.binOp .neq t x y u) = .val (.bool (!(a == b))) M := by
 rw [zae h h', z9q (by simp) (by simp)]; simp [zd2, z8r, zay]
theorem ex_lss (h : ar e x = some (.int kk a)) (h' : ar e y = some (.int kk b)) : execO P M (treeOf e) (.binOp .lss t x y u) = .val (.bool (decide (a < b))) M := by
 rw [zae h h', z9q (by simp) (by simp)]; simp only [zd2, z8r, zb0]; congr 2; rw [Bool.eq_iff_iff]; simp
theorem ex_leq (h : ar e x = some (.int kk a)) (h' : ar e y = some (.int kk b)) : execO P M (treeOf e) (.binOp .leq t x y u) = .val (.bool (decide (a ≤ b))) M := by
 rw [zae h h', z9q (by simp) (by simp)]; simp only [zd2, z8r, zb0]
theorem ex_gtr (h : ar e x = some (.int kk a)) (h' : ar e y = some (.int kk b)) : execO P M (treeOf e) (.binOp .gtr t x y u) = .val (.bool (decide (b < a))) M := by
 rw [zae h h', z9q (by simp) (by simp)]; simp only [zd2, z8r, zb0]; congr 2; rw [Bool.eq_iff_iff]; simp
theorem ex_geq (h : ar e x = some (.int kk a)) (h' : ar e y = some (.int kk b)) : execO P M (treeOf e) (.binOp .geq t x y u) = .val (.bool (decide (b ≤ a))) M := by
 rw [zae h h', z9q (by simp) (by simp)]; simp only [zd2, z8r, zb0]
theorem zt9 {kj : IntKind} {j : Nat} (h : ar e x = some (.int kk a)) (h' : ar e y = some (.int kj (j : Int))) : execO P M (treeOf e) (.binOp .shl t x y u) = .val (.int kk (kk.wrap (a * 2 ^ (min j kk.bits)))) M := by
 rw [zae h h']
 have : ze0 P .shl t (cst x || cst y) (.int kk a) (.int kj (j : Int)) M = z8r M (zci .shl kk a (j : Int)) := by simp [ze0, zh5, zru]
 rw [this]
 have e1 : intNat (j : Int) = some j := rfl
 simp only [zci, e1, z8r, z8v]
 have : Int.mul a (Int.ofNat (Nat.pow 2 (Nat.min j kk.bits))) = a * 2 ^ (min j kk.bits) := by
  show a * ((2 ^ (min j kk.bits) : Nat) : Int) = _
  simp
 rw [this]
theorem ex_shr {kj : IntKind} {j : Nat} (h : ar e x = some (.int kk a)) (h' : ar e y = some (.int kj (j : Int))) : execO P M (treeOf e) (.binOp .shr t x y u) = .val (.int kk (a.fdiv (2 ^ (min j kk.bits)))) M := by
 rw [zae h h']
 have : ze0 P .shr t (cst x || cst y) (.int kk a) (.int kj (j : Int)) M = z8r M (zci .shr kk a (j : Int)) := by simp [ze0, zh5, zru]
 rw [this]
 have e1 : intNat (j : Int) = some j := rfl
 simp only [zci, e1, z8r]
 have : Int.fdiv a (Int.ofNat (Nat.pow 2 (Nat.min j kk.bits))) = a.fdiv (2 ^ (min j kk.bits)) := by
  show a.fdiv ((2 ^ (min j kk.bits) : Nat) : Int) = _
  simp
 rw [this]
theorem ex_not {p : Bool} (h : ar e x = some (.bool p)) : execO P M (treeOf e) (.unOp .not t x) = .val (.bool (!p)) M := by
 show eUn M (treeOf e) .not t x = _
 unfold eUn
 rw [z8j h]
 cases p <;> rfl
theorem ex_neg (h : ar e x = some (.int kk a)) : execO P M (treeOf e) (.unOp .neg t x) = .val (.int kk (kk.wrap (-a))) M := by
 show eUn M (treeOf e) .neg t x = _
 unfold eUn
 rw [z8j h]
 show Out.val (.int kk (zew kk (Int.sub 0 a))) M = _
 rw [z8v]
 congr 3
 show 0 - a = -a
 omega
theorem zqj {z : Operand} {s s' : SV} (hc : ar e x = some (.bool true)) (h : ar e y = some s) (h' : ar e z = some s') : execO P M (treeOf e) (.pick x y z) = .val s M := by
 show zo3 M (treeOf e) x y z = _
 unfold zo3
 rw [z8j hc, z8j h, z8j h']
 rfl
theorem zqi {z : Operand} {s s' : SV} (hc : ar e x = some (.bool false)) (h : ar e y = some s) (h' : ar e z = some s') : execO P M (treeOf e) (.pick x y z) = .val s' M := by
 show zo3 M (treeOf e) x y z = _
 unfold zo3
 rw [z8j hc, z8j h, z8j h']
 rfl
theorem ex_extract {l : List SV} {j : Nat} {s : SV} (h : ar e x = some (.tuple l)) (hl : nth l j = some s) : execO P M (treeOf e) (.extract x j) = .val s M := by
 show zhz M (treeOf e) x j = _
 unfold zhz
 rw [z8j h]
 show z9f j (.tuple l) M = _
 unfold z9f
 simp only [hl]
noncomputable def ars (e : Env) : List Operand → Option (List SV)
 | [] => some []
 | x :: l => match ar e x, ars e l with
  | some s, some r => some (s :: r)
  | _, _ => none
theorem zbk : ∀ {l : List Operand} {r : List SV}, ars e l = some r → ∀ M, args M (treeOf e) l = some r
 | [], r, h, M => h
 | x :: l, r, h, M => by
  unfold ars at h
  split at h
  ·rename_i s r' hs hr
   simp only [Option.some.injEq] at h
   subst h
   show Option.rec (motive := fun _ => Option (List SV)) none (fun x => Option.rec none (fun r => some (x :: r)) (args M (treeOf e) l)) (arg M (treeOf e) x) = _
   rw [z8j hs, zbk hr M]
  ·simp at h
theorem zba {bi : Builtin} {xs : Array Operand} {ts : Array TypeId} {l : List SV} (h : ars e xs.toList = some l) : execO P M (treeOf e) (.call ⟨.builtin bi, xs, ts⟩) = z9e P bi ts.toList l M := by
 show zhy P M (treeOf e) xs ts bi = _
 unfold zhy
 rw [zbk h M]
 rfl
theorem ex_call {f : FuncId} {xs : Array Operand} {ts : Array TypeId} {l : List SV} (h : ars e xs.toList = some l) (hk : makeK P f = none) (hc : callable P f = true) : execO P M (treeOf e) (.call ⟨.value (.func f), xs, ts⟩) = .enter f l M := by
 show zfj P M (treeOf e) xs (.func f) = _
 unfold zfj
 rw [zbk h M]
 show zd5 P (.fn (.func f) [] []) l M = _
 unfold zd5
 simp only [hk]
 unfold zk8
 simp only [hc, z9i]
 simp
theorem zt7 {α : Type} {z : Nat} {R : List SV → α → Prop} {f : Rd} {s : SV} {l : List α} (h : ar e x = some s) (hs : Slc f z R s l) (hk : lenK P t = some .sl) : execO P M (treeOf e) (.call ⟨.builtin .len, #[x], #[u]⟩) = .val (.int .i64 l.length) M ∨ t ≠ u := by
 by_cases htu : t = u
 ·left
  subst htu
  rw [zba (l := [s]) (by show (match ar e x, ars e [] with | some s, some r => some (s :: r) | _, _ => none) = _; rw [h]; rfl)]
  show ziw P t s M = _
  rcases hs with ⟨rfl | ⟨_, _, _, rfl⟩ | ⟨_, rfl⟩, rfl⟩ | ⟨b, off, c, (⟨cap, _, rfl⟩ | rfl), _⟩ <;> simp [ziw, zss, hk, goI]
 ·exact .inr htu
theorem ex_len' {α : Type} {z : Nat} {R : List SV → α → Prop} {f : Rd} {s : SV} {l : List α} (h : ar e x = some s) (hs : Slc f z R s l) (hk : lenK P t = some .sl) : execO P M (treeOf e) (.call ⟨.builtin .len, #[x], #[t]⟩) = .val (.int .i64 l.length) M :=
 (zt7 (u := t) h hs hk).resolve_right (by simp)
theorem ex_min (h : ar e x = some (.int kk a)) (h' : ar e y = some (.int kk b)) {ts : Array TypeId} : execO P M (treeOf e) (.call ⟨.builtin .min, #[x, y], ts⟩) = .val (.int kk (min a b)) M := by
 rw [zba (l := [.int kk a, .int kk b]) (by show (match ar e x, (match ar e y, ars e [] with | some s, some r => some (s :: r) | _, _ => none) with | some s, some r => some (s :: r) | _, _ => none) = _; rw [h, h']; rfl)]
 show z8r M (zrl kk a [.int kk b]) = _
 simp only [zrl, zb0]
 by_cases hab : a ≤ b
 ·simp [hab, z8r, Int.min_eq_left hab]
 ·simp [hab, z8r, Int.min_eq_right (by omega : b ≤ a)]
theorem ex_max (h : ar e x = some (.int kk a)) (h' : ar e y = some (.int kk b)) {ts : Array TypeId} : execO P M (treeOf e) (.call ⟨.builtin .max, #[x, y], ts⟩) = .val (.int kk (max a b)) M := by
 rw [zba (l := [.int kk a, .int kk b]) (by show (match ar e x, (match ar e y, ars e [] with | some s, some r => some (s :: r) | _, _ => none) with | some s, some r => some (s :: r) | _, _ => none) = _; rw [h, h']; rfl)]
 show z8r M (zrk kk a [.int kk b]) = _
 simp only [zrk, zb0]
 by_cases hab : b ≤ a
 ·simp [hab, z8r, Int.max_eq_left hab]
 ·simp [hab, z8r, Int.max_eq_right (by omega : a ≤ b)]
theorem zs4 {f : Rd} {s : SV} {v : SV} (h : ar e x = some s) (hp : zar f s [v]) (hf : zj2 f (z9k M)) (hz : aggSize P t = some none) : execO P M (treeOf e) (.load t x) = .val v M := by
 obtain ⟨b, off, c, rfl, h2, h3, h4⟩ := hp
 show zo1 P M (treeOf e) t x = _
 unfold zo1
 rw [z8j h]
 show zel P t (.ptr b off) M = _
 unfold zel
 have hn : nth c off = some v := by
  rw [zhb]
  have := congrArg (fun l => l[0]?) h4
  simpa [List.getElem?_take, List.getElem?_drop] using this
 simp only [hf b c h2, hz, hn]
theorem zqh {f : Rd} {s : SV} {cs : List SV} (h : ar e x = some s) (hp : zar f s cs) (hf : zj2 f (z9k M)) (hz : aggSize P t = some (some cs.length)) : execO P M (treeOf e) (.load t x) = .val (.agg cs) M := by
 obtain ⟨b, off, c, rfl, h2, h3, h4⟩ := hp
 show zo1 P M (treeOf e) t x = _
 unfold zo1
 rw [z8j h]
 show zel P t (.ptr b off) M = _
 unfold zel
 have hle : Nat.ble (Nat.add off cs.length) (len c) = true := by rw [z93]; exact Nat.ble_eq_true_of_le h3
 simp only [hf b c h2, hz, hle, zck, zc6, h4]
theorem Own.row {M b t kk c} (h : Own M b (.row t kk c)) : z9k M b = some c := zdt h.get
theorem Own.ptr {M : Mem} {b : Pos} {t : TypeId} {kk : RK} {c : List SV} (h : Own M b (.row t kk c)) (off : Nat) {cs : List SV} (hl : off + cs.length ≤ c.length) (hc : (c.drop off).take cs.length = cs) : zar (z9k M) (.ptr b off) cs := ⟨b, off, c, rfl, h.row, hl, hc⟩
theorem rdLe_rfl {f : Rd} : zj2 f f := fun _ _ h => h
theorem ex_fieldAddr {j o off : Nat} {b : Pos} (h : ar e x = some (.ptr b off)) (hf : fieldOff P t j = some o) : execO P M (treeOf e) (.fieldAddr t x j) = .val (.ptr b (off + o)) M := by
 show zkj P M (treeOf e) t x j = _
 unfold zkj
 rw [z8j h]
 show za0 P t j (.ptr b off) M = _
 unfold za0
 simp only [hf]
 rfl
theorem zt6 {s : SV} (h : ar e x = some s) : execO P M (treeOf e) (.box t x) = .val (.ptr (z90 M) 0) (z8k t .whole M (cellsOf s)) := by
 show ztw M (treeOf e) t x = _
 unfold ztw
 rw [z8j h]
 rfl
theorem ex_alloc {l : List SV} (h : zerosOf P t = some l) : execO P M (treeOf e) (.alloc t) = .val (.ptr (z90 M) 0) (z8k t .whole M l) := by
 show zhm P t M = _
 unfold zhm
 simp only [h]
 rfl
end
def plain : SV → Bool
 | .bool _ => true
 | .int _ _ => true
 | .str _ => true
 | .nilp => true
 | .nils => true
 | .nilm => true
 | .nilf => true
 | .nili => true
 | .tuple l => plains l
 | .agg l => plains l
 | _ => false
where plains : List SV → Bool
 | [] => true
 | s :: l => plain s && plains l
mutual
theorem zhd : ∀ {s : SV}, plain s = true → ∀ m m' : Map, conc m s = conc m' s
 | .bool _, _, _, _ => rfl
 | .int _ _, _, _, _ => rfl
 | .str _, _, _, _ => rfl
 | .nilp, _, _, _ => rfl
 | .nils, _, _, _ => rfl
 | .nilm, _, _, _ => rfl
 | .nilf, _, _, _ => rfl
 | .nili, _, _, _ => rfl
 | .tuple l, h, m, m' => by simp only [conc]; rw [zbr (l := l) h m m']
 | .agg l, h, m, m' => by simp only [conc]; rw [zbr (l := l) h m m']
 | .ptr _ _, h, _, _ => by simp [plain] at h
 | .slice _ _ _ _, h, _, _ => by simp [plain] at h
 | .ope _ _ _ _, h, _, _ => by simp [plain] at h
 | .opz _ _ _ _, h, _, _ => by simp [plain] at h
 | .rawz _, h, _, _ => by simp [plain] at h
 | .map _, h, _, _ => by simp [plain] at h
 | .fn _ _ _, h, _, _ => by simp [plain] at h
 | .yield _, h, _, _ => by simp [plain] at h
 | .iface _ _, h, _, _ => by simp [plain] at h
theorem zbr : ∀ {l : List SV}, plain.plains l = true → ∀ m m' : Map, concs m l = concs m' l
 | [], _, _, _ => rfl
 | s :: l, h, m, m' => by
  simp only [plain.plains, Bool.and_eq_true] at h
  simp only [concs]
  rw [zhd h.1 m m', zbr h.2 m m']
end
theorem btf (b : Bool) : b = true ∨ b = false := by cases b <;> simp
def bnd {α β : Type} (x : Option α) (f : α → Option β) : Option β := match x with
 | some a => f a
 | none => none
theorem bnd_some {α β : Type} {x : Option α} {f : α → Option β} {r : β} (h : bnd x f = some r) : ∃ a, x = some a ∧ f a = some r := by
 cases x with
 | none => simp [bnd] at h
 | some a => exact ⟨a, rfl, h⟩
theorem bif_t {α : Type} {b : Bool} {x y : α} {r : α} (hb : b = true) (h : (bif b then x else y) = r) : x = r := by subst hb; exact h
theorem bif_f {α : Type} {b : Bool} {x y : α} {r : α} (hb : b = false) (h : (bif b then x else y) = r) : y = r := by subst hb; exact h
abbrev w64 (n : Int) : Int := IntKind.wrap .i64 n
def sub {α : Type} (l : List α) (lo hi : Int) : Option (List α) := match lo, hi with
 | .ofNat a, .ofNat b => bif decide (a ≤ b) && decide (b ≤ l.length) then some ((l.take b).drop a) else none
 | _, _ => none
def mk {α : Type} (n : Int) (bytes : Nat) (z : α) : Option (List α) := match n with
 | .ofNat j => bif Nat.ble j 4611686018427387904 && Nat.ble (j * bytes) 281474976710656 then some (List.replicate j z) else none
 | .negSucc _ => none
theorem zsb {α : Type} {n : Int} {bytes : Nat} {z : α} {l : List α} (h : mk n bytes z = some l) : ∃ j : Nat, n = j ∧ j ≤ 4611686018427387904 ∧ j * bytes ≤ 281474976710656 ∧ l = List.replicate j z := by
 cases n with
 | ofNat j =>
  rcases btf (Nat.ble j 4611686018427387904 && Nat.ble (j * bytes) 281474976710656) with hc | hc
  ·have h' := bif_t hc h
   rw [Bool.and_eq_true] at hc
   exact ⟨j, rfl, Nat.le_of_ble_eq_true hc.1, Nat.le_of_ble_eq_true hc.2, (Option.some.inj h').symm⟩
  ·have h' := bif_f hc h
   simp at h'
 | negSucc j => simp [mk] at h
def upd {α : Type} (l : List α) (j : Int) (a : α) : Option (List α) := match j with
 | .ofNat i => bif Nat.blt i l.length then some (l.set i a) else none
 | .negSucc _ => none
theorem zml {α : Type} {l l' : List α} {j : Int} {a : α} (h : upd l j a = some l') : ∃ i : Nat, j = i ∧ i < l.length ∧ l' = l.set i a := by
 cases j with
 | ofNat i =>
  rcases btf (Nat.blt i l.length) with hc | hc
  ·exact ⟨i, rfl, Nat.le_of_ble_eq_true hc, (Option.some.inj (bif_t hc h)).symm⟩
  ·exact absurd (bif_f hc h) (by simp)
 | negSucc i => simp [upd] at h
def inn {α : Type} (l : List α) (j : Int) : Option Nat := match j with
 | .ofNat i => bif Nat.blt i l.length then some i else none
 | .negSucc _ => none
theorem zqv {α : Type} {l : List α} {j : Int} {i : Nat} (h : inn l j = some i) : j = i ∧ i < l.length := by
 cases j with
 | ofNat q =>
  rcases btf (Nat.blt q l.length) with hc | hc
  ·have := Option.some.inj (bif_t hc h)
   subst this
   exact ⟨rfl, Nat.le_of_ble_eq_true hc⟩
  ·exact absurd (bif_f hc h) (by simp)
 | negSucc i => simp [inn] at h
def apd {α : Type} (bytes : Nat) (l l' : List α) : Option (List α) :=
 bif Nat.ble (l.length + l'.length) 4611686018427387904 && Nat.ble (2 * (l.length + l'.length) * bytes) 281474976710656 then some (l ++ l') else none
theorem zq4 {α : Type} {bytes : Nat} {l l' r : List α} (h : apd bytes l l' = some r) : l.length + l'.length ≤ 4611686018427387904 ∧ 2 * (l.length + l'.length) * bytes ≤ 281474976710656 ∧ r = l ++ l' := by
 rcases btf (Nat.ble (l.length + l'.length) 4611686018427387904 && Nat.ble (2 * (l.length + l'.length) * bytes) 281474976710656) with hc | hc
 ·have h' := bif_t hc h
  rw [Bool.and_eq_true] at hc
  exact ⟨Nat.le_of_ble_eq_true hc.1, Nat.le_of_ble_eq_true hc.2, (Option.some.inj h').symm⟩
 ·exact absurd (bif_f hc h) (by simp)
def shn (j : Int) : Option Nat := match j with
 | .ofNat i => some i
 | .negSucc _ => none
theorem zmh {j : Int} {i : Nat} (h : shn j = some i) : j = i := by
 cases j with
 | ofNat q => simp only [shn, Option.some.injEq] at h; subst h; rfl
 | negSucc q => simp [shn] at h
def nz (b : Int) : Option Int := bif b == 0 then none else some b
theorem zsc {b c : Int} (h : nz b = some c) : c = b ∧ b ≠ 0 := by
 rcases btf (b == 0) with hc | hc
 ·exact absurd (bif_t hc h) (by simp)
 ·exact ⟨(Option.some.inj (bif_f hc h)).symm, by simpa using hc⟩
theorem zag {α : Type} {z : Nat} {enc : α → List SV} (hz : ∀ a, (enc a).length = z) : ∀ l : List α, (l.flatMap enc).length = l.length * z
 | [] => by simp
 | a :: l => by simp [hz, zag hz l, Nat.succ_mul]; omega
theorem zd9 {α : Type} {z : Nat} {enc : α → List SV} (hz : ∀ a, (enc a).length = z) : ∀ (l : List α) (i : Nat) (a : α), l[i]? = some a → ((l.flatMap enc).drop (i * z)).take z = enc a
 | [], i, a, h => by simp at h
 | b :: l, 0, a, h => by
  simp only [List.getElem?_cons_zero, Option.some.injEq] at h
  subst h
  simp [List.flatMap_cons, hz]
 | b :: l, i + 1, a, h => by
  have ih := zd9 hz l i a (by simpa using h)
  rw [List.flatMap_cons, Nat.succ_mul, List.drop_append, hz, List.drop_of_length_le (by rw [hz]; omega), List.nil_append, show i * z + z - z = i * z by omega]
  exact ih
theorem zi4 {α : Type} {z : Nat} {enc : α → List SV} (hz : ∀ a, (enc a).length = z) : ∀ (l : List α) (i : Nat) (a : α), i < l.length → (l.set i a).flatMap enc = (l.flatMap enc).take (i * z) ++ (enc a ++ (l.flatMap enc).drop (i * z + z))
 | [], i, a, h => by simp at h
 | b :: l, 0, a, h => by
  simp only [List.set_cons_zero, List.flatMap_cons, Nat.zero_mul, List.take_zero, List.nil_append, Nat.zero_add]
  rw [List.drop_append, List.drop_of_length_le (by rw [hz]; exact Nat.le_refl _), hz]
  simp
 | b :: l, i + 1, a, h => by
  have ih := zi4 hz l i a (by simpa using h)
  have e1 : (i + 1) * z = (enc b).length + i * z := by rw [Nat.succ_mul, hz]; omega
  have e2 : (enc b).length + i * z + z = (enc b).length + (i * z + z) := by omega
  simp only [List.set_cons_succ, List.flatMap_cons]
  rw [ih, e1, e2, List.take_length_add_append, List.drop_length_add_append, List.append_assoc]
theorem zma {α : Type} {enc : α → List SV} {zero : List SV} {a : α} (h : zero = enc a) : ∀ n : Nat, rep n zero = (List.replicate n a).flatMap enc
 | 0 => rfl
 | n + 1 => by
  show app zero (rep n zero) = _
  rw [z9i, zma h n, List.replicate_succ, List.flatMap_cons, h]
section
variable {n : Nat} {e : Env} {M : Mem}
variable {t u : TypeId} {x y : Operand} {kk : IntKind} {a b : Int}
theorem ex_pickT' {z : Operand} {c : Bool} {s s' : SV} (hx : ar e x = some (.bool c)) (hc : c = true) (h : ar e y = some s) (h' : ar e z = some s') : execO P M (treeOf e) (.pick x y z) = .val s M := by subst hc; exact zqj hx h h'
theorem ex_pickF' {z : Operand} {c : Bool} {s s' : SV} (hx : ar e x = some (.bool c)) (hc : c = false) (h : ar e y = some s) (h' : ar e z = some s') : execO P M (treeOf e) (.pick x y z) = .val s' M := by subst hc; exact zqi hx h h'
theorem ex_rem' {c : Int} (h : ar e x = some (.int kk a)) (h' : ar e y = some (.int kk b)) (hb : nz b = some c) : execO P M (treeOf e) (.binOp .rem t x y u) = .val (.int kk (a.tmod b)) M := zt8 h h' (zsc hb).2
theorem ex_shl' {kj : IntKind} {j : Nat} {jj : Int} (h : ar e x = some (.int kk a)) (h' : ar e y = some (.int kj jj)) (hj : shn jj = some j) : execO P M (treeOf e) (.binOp .shl t x y u) = .val (.int kk (kk.wrap (a * 2 ^ (min j kk.bits)))) M := by
 obtain rfl := zmh hj
 exact zt9 h h'
theorem ex_shr' {kj : IntKind} {j : Nat} {jj : Int} (h : ar e x = some (.int kk a)) (h' : ar e y = some (.int kj jj)) (hj : shn jj = some j) : execO P M (treeOf e) (.binOp .shr t x y u) = .val (.int kk (a.fdiv (2 ^ (min j kk.bits)))) M := by
 obtain rfl := zmh hj
 exact ex_shr h h'
theorem argO_some {y : Operand} {s : SV} (h : ar e y = some s) (M : Mem) : zkf M (treeOf e) (some y) = some (some s) := by
 show (match arg M (treeOf e) y with | some s => some (some s) | none => none : Option (Option SV)) = _
 rw [z8j h M]
theorem zs5 {j : Nat} {kk' : IntKind} {el : Elt} (h : ar e x = some (.int kk (j : Int))) (h' : ar e y = some (.int kk' (j : Int))) (hx : sliceElt P t = some el) (h1 : j ≤ 4611686018427387904) (h2 : j * el.bytes ≤ 281474976710656) :
  execO P M (treeOf e) (.makeSlice t x y) = .val (.slice (z90 M) 0 j j) (z8k el.ty (.head 0) M (rep j el.zero)) := by
 show zo2 P M (treeOf e) t x y = _
 unfold zo2
 rw [z8j h, z8j h']
 show znk P t (.int kk (j : Int)) (.int kk' (j : Int)) M = _
 unfold znk
 have e1 : intNat (j : Int) = some j := rfl
 have e2 : Nat.ble (Nat.mul j el.bytes) 281474976710656 = true := Nat.ble_eq_true_of_le h2
 simp only [e1, hx, Nat.ble_eq_true_of_le (Nat.le_refl j), Nat.ble_eq_true_of_le h1, e2]
noncomputable def zsv (e : Env) : List (Nat × Operand) → Option (List (Nat × SV))
 | [] => some []
 | (i, x) :: l => match ar e x, zsv e l with
  | some s, some r => some ((i, s) :: r)
  | _, _ => none
theorem zg6 : ∀ {l : List (Nat × Operand)} {r : List (Nat × SV)}, zsv e l = some r → ∀ M, z97 M (treeOf e) l = some r
 | [], r, h, M => h
 | (i, x) :: l, r, h, M => by
  unfold zsv at h
  split at h
  ·rename_i s r' hs hr
   simp only [Option.some.injEq] at h
   subst h
   simp only [z97, z8j hs, zg6 hr M]
  ·simp at h
theorem ex_build {ps : Array (Nat × Operand)} {l : List (Nat × SV)} {z r : List SV} {pl : List (Nat × Nat)} (h : zsv e ps.toList = some l) (hz : zerosOf P t = some z) (hp : placesOf P t = some (.st pl)) (hf : zgy (zed pl) z l = some r) :
  execO P M (treeOf e) (.build t ps) = .val (.agg r) M := by
 show znz P M (treeOf e) t ps = _
 unfold znz
 rw [zg6 h M]
 show zev P t l M = _
 unfold zev
 simp only [hz, hp, hf]
theorem zi1 {ps : Array (Nat × Operand)} {l : List (Nat × SV)} {r : List SV} {j : Nat} {el : Elt} (h : zsv e ps.toList = some l) (hx : sliceElt P t = some el) (hj : Nat.ble (j * el.size) 16777216 = true) (hf : zgy (fun i => some (Nat.mul i el.size, el.size)) (rep j el.zero) l = some r) :
  execO P M (treeOf e) (.buildSlice t j ps) = .val (.slice (z90 M) 0 j j) (z8k el.ty (.head 0) M r) := by
 show zki P M (treeOf e) t j ps = _
 unfold zki
 rw [zg6 h M]
 show zab P t j l M = _
 unfold zab
 have hj' : Nat.ble (Nat.mul j el.size) 16777216 = true := hj
 simp only [hx, hj', hf]
section
variable {α : Type} {M M' : Mem} {av : List Pos} {tt : TypeId} {z : Nat} {enc : α → List SV} {s : SV} {l : List α}
end
theorem zm5 {α : Type} {enc : α → List SV} (h1 : ∀ a, ones (enc a) = true) : ∀ l : List α, ones (l.flatMap enc) = true
 | [] => rfl
 | a :: l => by
  have happ : ∀ (p q : List SV), ones p = true → ones q = true → ones (p ++ q) = true := by
   intro p
   induction p with
   | nil => intro q _ h; exact h
   | cons x p ih =>
    intro q hp hq
    have hp' : Bool.rec (motive := fun _ => Bool) false (ones p) (one x) = true := hp
    show Bool.rec (motive := fun _ => Bool) false (ones (p ++ q)) (one x) = true
    cases hx : one x with
    | false => rw [hx] at hp'; exact absurd hp' (by simp)
    | true => rw [hx] at hp'; exact ih q hp' hq
  rw [List.flatMap_cons]
  exact happ _ _ (h1 a) (zm5 h1 l)
theorem zk4 {el : Elt} {s2 : SV} {new : List SV} (hx : appT P t u = some el) (hl : zoz el s2 = some 0) (hn : z8z M el.size 0 s2 = some new) : za5 P t u .nils s2 M = .val .nils M := by
 unfold za5
 simp only [hx, hl, hn]
theorem zk5 {el : Elt} {s2 : SV} {j : Nat} {new : List SV} (hx : appT P t u = some el) (hl : zoz el s2 = some (j + 1)) (hn : z8z M el.size (j + 1) s2 = some new) : za5 P t u .nils s2 M = zlv (.head 0) M el (j + 1) new := by
 unfold za5
 simp only [hx, hl, hn]
theorem zk6 {el : Elt} {s2 : SV} {off q z : Nat} {bb : Pos} {new old : List SV} {te : TypeId} {rk : RK} (hx : appT P t u = some el) (hl : zoz el s2 = some 0) (hn : z8z M el.size 0 s2 = some new) (hz : Nat.beq z el.size = true) (ho : zsg M bb = some (te, rk)) (hf : z8z M el.size q (.ope bb off q z) = some old) :
  za5 P t u (.ope bb off q z) s2 M = .val (.ope bb off q z) M := by
 unfold za5
 simp only [hx, hl, hn, hz, ho, hf]
theorem zk7 {el : Elt} {s2 : SV} {j off q z : Nat} {bb : Pos} {new old : List SV} {te : TypeId} {rk : RK} (hx : appT P t u = some el) (hl : zoz el s2 = some (j + 1)) (hn : z8z M el.size (j + 1) s2 = some new) (hz : Nat.beq z el.size = true) (ho : zsg M bb = some (te, rk)) (hf : z8z M el.size q (.ope bb off q z) = some old)
  (h1 : ones new = true) (h2 : Nat.beq te el.ty = true) (h3 : zi8 rk (Nat.add off (Nat.mul q el.size)) = true) :
  za5 P t u (.ope bb off q z) s2 M = zlv (zhk rk off) (zc7 M bb) el (Nat.add q (j + 1)) (app old new) := by
 unfold za5
 simp only [hx, hl, hn, hz, ho, hf, h1, h2, h3]
end
section
variable {n : Nat} {e : Env} {M : Mem} {all : Array Oper}
noncomputable def zh4 : SV → Bool
 | .fn f a b => zq7 f f && (selfs a && selfs b)
 | .iface _ _ => false
 | .agg l => selfs l
 | .tuple l => selfs l
 | _ => true
where selfs : List SV → Bool
 | [] => true
 | s :: l => zh4 s && selfs l
theorem zee (p : Pos) : p.beq p = true := (Pos.beq_iff p p).2 rfl
mutual
theorem ze3 : ∀ {s : SV}, zh4 s = true → z8x s s = true
 | .bool _, _ => by simp [z8x]
 | .int _ _, _ => by simp [z8x, zay, za8]
 | .str _, _ => by simp [z8x, zbl]
 | .nilp, _ => by simp [z8x]
 | .ptr _ _, _ => by simp [z8x, zee]
 | .nils, _ => by simp [z8x]
 | .slice _ _ _ _, _ => by simp [z8x, zee]
 | .ope _ _ _ _, _ => by simp [z8x, zee]
 | .opz _ _ _ _, _ => by simp [z8x, zee]
 | .rawz _, _ => by simp [z8x]
 | .nilm, _ => by simp [z8x]
 | .map _, _ => by simp [z8x, zee]
 | .nilf, _ => by simp [z8x]
 | .yield _, _ => by simp [z8x, zee]
 | .nili, _ => by simp [z8x]
 | .fn f a b, h => by
  simp only [zh4, Bool.and_eq_true] at h
  simp only [z8x, h.1, zas (l := a) h.2.1, zas (l := b) h.2.2, Bool.and_self]
 | .iface _ _, h => by simp [zh4] at h
 | .agg l, h => by simp only [z8x]; exact zas (l := l) h
 | .tuple l, h => by simp only [z8x]; exact zas (l := l) h
theorem zas : ∀ {l : List SV}, zh4.selfs l = true → zc1 l l = true
 | [], _ => by simp [zc1]
 | s :: l, h => by
  simp only [zh4.selfs, Bool.and_eq_true] at h
  simp only [zc1, ze3 h.1, zas h.2, Bool.and_self]
end
variable {t u : TypeId} {x y : Operand} {kk : IntKind} {a : Int}
theorem zar.fld {f : Rd} {b : Pos} {off o : Nat} {cs : List SV} (h : zar f (.ptr b off) cs) (ho : Nat.ble o cs.length = true) : zar f (.ptr b (off + o)) (cs.drop o) := by
 obtain ⟨b', off', h1, h2⟩ := h.field (o := o) rfl (Nat.le_of_ble_eq_true ho)
 simp only [SV.ptr.injEq] at h1
 obtain ⟨rfl, rfl⟩ := h1
 exact h2
theorem ex_load1 {f : Rd} {s v : SV} {cs : List SV} (h : ar e x = some s) (hp : zar f s (v :: cs)) (hf : zj2 f (z9k M)) (hz : aggSize P t = some none) : execO P M (treeOf e) (.load t x) = .val v M := by
 obtain ⟨b, off, c, rfl, h2, h3, h4⟩ := hp
 refine zs4 (f := f) h ⟨b, off, c, rfl, h2, ?_, ?_⟩ hf hz
 ·simp at h3 ⊢; omega
 ·have := congrArg (List.take 1) h4
  simpa [List.take_take] using this
theorem ex_loadA {f : Rd} {s : SV} {cs ds : List SV} {j : Nat} (h : ar e x = some s) (hp : zar f s cs) (hf : zj2 f (z9k M)) (hz : aggSize P t = some (some j)) (hj : ds.length = j) (hd : cs.take j = ds) (hl : Nat.ble j cs.length = true) : execO P M (treeOf e) (.load t x) = .val (.agg ds) M := by
 obtain ⟨b, off, c, rfl, h2, h3, h4⟩ := hp
 have hl' := Nat.le_of_ble_eq_true hl
 subst hj
 refine zqh (f := f) h ⟨b, off, c, rfl, h2, ?_, ?_⟩ hf hz
 ·omega
 ·have := congrArg (List.take ds.length) h4
  rw [List.take_take, Nat.min_eq_left hl', hd] at this
  exact this
theorem Own.at {M : Mem} {b : Pos} {t : TypeId} {kk : RK} {c : List SV} (h : Own M b (.row t kk c)) (off : Nat) (hl : Nat.ble off c.length = true) : zar (z9k M) (.ptr b off) (c.drop off) :=
 ⟨b, off, c, rfl, h.row, by have := Nat.le_of_ble_eq_true hl; simp; omega, List.take_of_length_le (Nat.le_refl _)⟩
theorem Own.el {α : Type} {M : Mem} {b : Pos} {t : TypeId} {kk : RK} {l : List α} {z : Nat} {enc : α → List SV} (h : Own M b (.row t kk (l.flatMap enc))) (hz : ∀ a, (enc a).length = z) {i : Nat} {a : α} (ha : l[i]? = some a) : zar (z9k M) (.ptr b (0 + i * z)) (enc a) := by
 have hi := (List.getElem?_eq_some_iff.1 ha).1
 have h1 : (i + 1) * z ≤ l.length * z := Nat.mul_le_mul_right z hi
 refine ⟨b, 0 + i * z, _, rfl, h.row, ?_, ?_⟩
 ·rw [zag hz, hz, Nat.zero_add]; rw [Nat.succ_mul] at h1; exact h1
 ·rw [Nat.zero_add, hz]; exact zd9 hz l i a ha
theorem bnot_f {b : Bool} (h : b = true) : (!b) = false := by rw [h]; rfl
end
section
variable {n : Nat} {e : Env} {M : Mem} {all : Array Oper} {t u : TypeId} {x y : Operand} {kk : IntKind} {a : Int}
section
variable {α : Type} {z : Nat} {R : List SV → α → Prop} {f : Rd} {s : SV} {l l' : List α} {lo hi : Int} {r : List Oper} {d : Tmp} {ty : TypeId} {pos : String} {af : Array Edge} {g : Option (Nat × Bool)}
end
variable {D : Known}
section
variable {i : Nat} {op : Op} {ty : TypeId} {pos : String} {af : Array Edge} {g : Option (Nat × Bool)} {dd : Tmp} {s : SV} {L : List Nat} {r : List PE}
end
theorem ex_eqlA {p q : List SV} {r : Bool} (h : ar e x = some (.agg p)) (h' : ar e y = some (.agg q)) (hk : aggEq P t = false) (hq : eqA P 12 t (.agg p) (.agg q) = some r) : execO P M (treeOf e) (.binOp .eql t x y u) = .val (.bool r) M := by
 rw [zae h h']
 simp only [ze0, zh5, hk, hq]
theorem eqFs_cons {eq : TypeId → SV → SV → Option Bool} {xs ys : List SV} {f : Field} {l : List Field} {p q : SV} {r r' : Bool} (hn : (f.name == "_") = false) (h1 : zdo P f.type xs f.offset = some p) (h2 : zdo P f.type ys f.offset = some q) (he : eq f.type p q = some r) (hl : zo8 P eq xs ys l = some r') : zo8 P eq xs ys (f :: l) = some (r && r') := by
 unfold zo8
 simp only [hn, h1, h2, he]
 cases r
 ·rfl
 ·exact hl
theorem eqFs_nil {eq : TypeId → SV → SV → Option Bool} {xs ys : List SV} : zo8 P eq xs ys [] = some true := rfl
theorem eqA_int {d : Nat} {kk : IntKind} {p q : Int} (h : aggK P t = some .int) : eqA P (d + 1) t (.int kk p) (.int kk q) = some (p == q) := by
 have e1 : za8 kk kk = true := by simp [za8]
 unfold eqA
 simp only [h, e1, zay]
theorem eqA_st {d : Nat} {xs ys : List SV} {fs : List Field} {r : Bool} (h : aggK P t = some (.st fs)) (he : zo8 P (eqA P d) xs ys fs = some r) : eqA P (d + 1) t (.agg xs) (.agg ys) = some r := by
 unfold eqA
 simp only [h, he]
theorem part_one {l : List SV} {off : Nat} {s : SV} (h : aggSize P t = some none) (hs : nth l off = some s) : zdo P t l off = some s := by
 unfold zdo
 simp only [h, hs]
section
variable {s : SV}
end
theorem slc_self {α : Type} {f : Rd} {z : Nat} {R : List SV → α → Prop} {s : SV} {l : List α} (h : Slc f z R s l) : zh4 s = true := by
 rcases h with ⟨rfl | ⟨_, _, _, rfl⟩ | ⟨_, rfl⟩, _⟩ | ⟨b, off, c, ⟨cap, _, rfl⟩ | rfl, _⟩ <;> rfl
end
section
variable {α β : Type} {M M' : Mem} {av av' av2 av2' : List Pos} {tt tt2 : TypeId} {z z2 : Nat} {enc : α → List SV} {enc2 : β → List SV} {s s' s2 : SV} {l l' : List α} {l2 : List β}
end
section
variable {n : Nat} {e : Env} {M : Mem} {all : Array Oper}
section
variable {op : Op} {ty : TypeId} {pos : String} {af : Array Edge} {g : Option (Nat × Bool)} {dd : Tmp} {s : SV} {r tl : List Oper}
end
end
def top (k : IntKind) : Nat := match k with
 | .i8 => 127 | .i16 => 32767 | .i32 => 2147483647 | .i64 => 9223372036854775807 | .u8 => 255 | .u16 => 65535 | .u32 => 4294967295 | .u64 => 18446744073709551615
theorem zrt (k : IntKind) : zbg k = top k := by cases k <;> rfl
def bitZ (f : Nat → Nat → Nat) (k : IntKind) (a b : Int) : Option Int := match a, b with
 | .ofNat x, .ofNat y => bif Nat.ble x (top k) && Nat.ble y (top k) then some (k.wrap (f x y : Nat)) else none
 | _, _ => none
theorem znr {f : Nat → Nat → Nat} {k : IntKind} {a b r : Int} (h : bitZ f k a b = some r) : ∃ x y : Nat, a = x ∧ b = y ∧ x ≤ top k ∧ y ≤ top k ∧ r = k.wrap (f x y : Nat) := by
 unfold bitZ at h
 split at h
 ·rename_i x y
  rcases btf (Nat.ble x (top k) && Nat.ble y (top k)) with hc | hc
  ·rw [hc] at h
   rw [Bool.and_eq_true] at hc
   exact ⟨x, y, rfl, rfl, Nat.le_of_ble_eq_true hc.1, Nat.le_of_ble_eq_true hc.2, (Option.some.inj h).symm⟩
  ·rw [hc] at h; simp at h
 ·simp at h
section
variable {e : Env} {M : Mem} {t u : TypeId} {x y : Operand} {kk : IntKind} {a b r : Int}
theorem ex_and (h : ar e x = some (.int kk a)) (h' : ar e y = some (.int kk b)) (hb : bitZ Nat.land kk a b = some r) : execO P M (treeOf e) (.binOp .and t x y u) = .val (.int kk r) M := by
 obtain ⟨p, q, rfl, rfl, hp, hq, rfl⟩ := znr hb
 rw [zae h h', z9q (by simp) (by simp)]
 have e1 : intNat (p : Int) = some p := rfl
 have e2 : intNat (q : Int) = some q := rfl
 have e3 : Nat.ble p (zbg kk) = true := Nat.ble_eq_true_of_le (by rw [zrt]; exact hp)
 have e4 : Nat.ble q (zbg kk) = true := Nat.ble_eq_true_of_le (by rw [zrt]; exact hq)
 simp only [zd2, e1, e2, e3, e4, z8r, z8v]
 rfl
theorem ex_conv {s d : TypeId} {k : IntKind} (h : ar e x = some (.int kk a)) (hu : uvK P s d = none) (hc : cvK P s d = some (.int k)) : execO P M (treeOf e) (.convert s d x) = .val (.int k (k.wrap a)) M := by
 show zo0 P M (treeOf e) s d x = _
 unfold zo0
 rw [z8j h]
 show z9o P s d (.int kk a) M = _
 unfold z9o
 simp only [hu, zbu, hc, z8v]
end
section
variable {α β : Type} {M M' Me : Mem} {av av2 : List Pos} {tt tt2 : TypeId} {z z2 : Nat} {enc : α → List SV} {enc2 : β → List SV} {s s2 q : SV} {l : List α} {l2 : List β}
theorem zfg {enc : α → List SV} (hz : ∀ a, (enc a).length = z) {c : List SV} : ∀ (l : List α) (off : Nat), off + l.length * z ≤ c.length → (∀ (i : Nat) (a : α), l[i]? = some a → (c.drop (off + i * z)).take z = enc a) → (c.drop off).take (l.length * z) = l.flatMap enc
 | [], off, _, _ => by simp
 | a :: l, off, hle, h => by
  have h0 := h 0 a rfl
  rw [Nat.zero_mul, Nat.add_zero] at h0
  have hl : (a :: l).length * z = z + l.length * z := by rw [List.length_cons, Nat.succ_mul]; omega
  rw [hl] at hle
  have hle' : off + z + l.length * z ≤ c.length := by omega
  have ih := zfg hz l (off + z) hle' fun i b hb => by
   have := h (i + 1) b (by simpa using hb)
   rw [Nat.succ_mul] at this
   rw [show off + z + i * z = off + (i * z + z) by omega]
   exact this
  rw [hl, List.take_add, h0, List.drop_drop, ih]
  rfl
theorem first_slc {f : Rd} (h : Slc f z (FlatR enc) s l) (hf : zj2 f (z9k M)) (hz : ∀ a, (enc a).length = z) : z8z M z l.length s = some (l.flatMap enc) := by
 rcases h with ⟨rfl | ⟨_, _, _, rfl⟩ | ⟨_, rfl⟩, rfl⟩ | ⟨b, off, c, hs, hc, hle, hel⟩
 ·rfl
 ·rfl
 ·rfl
 ·have hr := hf b c hc
  have hb : Nat.ble (Nat.add off (Nat.mul l.length z)) (len c) = true := by
   rw [z93]
   exact Nat.ble_eq_true_of_le hle
  have hb' : Nat.ble (Nat.add off (l.length * z)) (len c) = true := hb
  have hfl := zfg (enc := enc) hz l off hle fun i a ha => hel i a ha
  rcases hs with ⟨cap, _, rfl⟩ | rfl
  ·unfold z8z
   simp only [hr, zck, zc6, Nat.mul_eq, hb', hfl]
  ·unfold z8z
   simp only [hr, zck, zc6, Nat.mul_eq, hb', hfl]
theorem len_slc {f : Rd} {R : List SV → α → Prop} {x : Elt} (h : Slc f z R s l) : zoz x s = some l.length := by
 rcases h with ⟨rfl | ⟨_, _, _, rfl⟩ | ⟨_, rfl⟩, rfl⟩ | ⟨b, off, c, hs, _⟩
 ·rfl
 ·rfl
 ·rfl
 ·rcases hs with ⟨cap, _, rfl⟩ | rfl <;> rfl
end
def blk : SV → List Pos
 | .slice b _ _ _ => [b]
 | .ope b _ _ _ => [b]
 | .opz b _ _ _ => [b]
 | _ => []
inductive Ent where
 | obj (b : Pos) (o : SObj)
 | vec (tt z n : Nat) (s : SV) (c : List SV)
 | fixd (b : Pos) (c : List SV)
def Ent.fp : Ent → List Pos
 | .obj b _ => [b]
 | .vec _ _ _ s _ => blk s
 | .fixd _ _ => []
def Ent.ok (M : Mem) : Ent → Prop
 | .obj b o => Own M b o ∧ o.own = true
 | .vec tt z n s c => (s = .nils ∧ n = 0 ∧ c = []) ∨ ∃ b, (s = .slice b 0 n n ∨ s = .ope b 0 n z) ∧ c.length = n * z ∧ Own M b (.row tt (.head 0) c)
 | .fixd b c => M.t.get b = some (.fix c) ∧ b.num < M.next.num
structure Has (F : Rd) (M : Mem) (H : List Ent) : Prop where
 base : zj2 F (ro M)
 ok : ∀ x ∈ H, x.ok M
 nd : (H.flatMap Ent.fp).Nodup
section
variable {F F' : Rd} {M M' : Mem} {H : List Ent} {x y : Ent}
theorem Ent.ok_keep {S : List Pos} (hro : RoK M M') (hk : ∀ b o, b ∉ S → Own M b o → Own M' b o) (hd : ∀ b ∈ x.fp, b ∉ S) (h : x.ok M) : x.ok M' := by
 cases x with
 | obj b o => exact ⟨hk b o (hd b (by simp [Ent.fp])) h.1, h.2⟩
 | vec tt z n s c =>
  rcases h with h | ⟨b, hs, hc, ho⟩
  ·exact .inl h
  ·refine .inr ⟨b, hs, hc, hk b _ (hd b ?_) ho⟩
   rcases hs with rfl | rfl <;> simp [Ent.fp, blk]
 | fixd b c => exact ⟨hro.1 b _ h.2 rfl h.1, Nat.lt_of_lt_of_le h.2 hro.2⟩
theorem Ent.lt (h : x.ok M) : ∀ b ∈ x.fp, b.num < M.next.num := by
 intro b hb
 cases x with
 | obj c o =>
  simp only [Ent.fp, List.mem_cons, List.not_mem_nil, or_false] at hb
  subst hb
  exact h.1.lt
 | vec tt z n s c =>
  rcases h with ⟨rfl, _⟩ | ⟨c, hs, _, ho⟩
  ·simp [Ent.fp, blk] at hb
  ·rcases hs with rfl | rfl <;> (simp only [Ent.fp, blk, List.mem_cons, List.not_mem_nil, or_false] at hb; subst hb; exact ho.lt)
 | fixd c r => simp [Ent.fp] at hb
theorem Ent.fp_nd : x.fp.Nodup := by
 cases x with
 | obj b o => simp [Ent.fp]
 | vec tt z n s c => cases s <;> simp [Ent.fp, blk]
 | fixd b c => simp [Ent.fp]
theorem Has.nil (M : Mem) : Has (ro M) M [] := ⟨fun _ _ h => h, fun x h => by simp at h, by simp⟩
theorem Has.get (h : Has F M H) {i : Nat} (hi : H[i]? = some x) : x.ok M := h.ok x (List.mem_of_getElem? hi)
theorem Has.upF (h : Has F M H) (hf : zj2 F' (ro M)) : Has F' M H := ⟨hf, h.ok, h.nd⟩
theorem Has.mem (h : Has F M H) (hM : zd6 M M') : Has F M' H :=
 ⟨fun b c hb => hM.ro b c (h.base b c hb), fun x hx => Ent.ok_keep (S := []) hM.rok (fun b o _ ho => hM.own b o ho) (fun _ _ hb => by simp at hb) (h.ok x hx), h.nd⟩
theorem Has.upd (h : Has F M H) {i : Nat} (hi : H[i]? = some x) (hro : RoK M M') (hk : ∀ b o, b ∉ x.fp → Own M b o → Own M' b o) (hy : y.ok M') (hfp : ∀ b ∈ y.fp, b ∈ x.fp ∨ M.next.num ≤ b.num) : Has F M' (H.set i y) := by
 obtain ⟨hlt, hx⟩ := List.getElem?_eq_some_iff.1 hi
 have hH : H = H.take i ++ x :: H.drop (i + 1) := by
  conv => lhs; rw [← List.take_append_drop i H, List.drop_eq_getElem_cons hlt, hx]
 have hS : H.set i y = H.take i ++ y :: H.drop (i + 1) := List.set_eq_take_append_cons_drop.trans (if_pos hlt)
 generalize H.take i = A at hH hS
 generalize H.drop (i + 1) = C at hH hS
 have hn := h.nd
 have ho := h.ok
 rw [hH] at hn ho
 rw [List.flatMap_append, List.flatMap_cons, List.nodup_append, List.nodup_append] at hn
 obtain ⟨n1, ⟨n2, n3, n4⟩, n5⟩ := hn
 have key : ∀ z ∈ A ++ C, ∀ b ∈ z.fp, b ∉ x.fp := by
  intro z hz b hb hbx
  rcases List.mem_append.1 hz with hz | hz
  ·exact n5 b (List.mem_flatMap.2 ⟨z, hz, hb⟩) b (List.mem_append.2 (.inl hbx)) rfl
  ·exact n4 b hbx b (List.mem_flatMap.2 ⟨z, hz, hb⟩) rfl
 have okz : ∀ z ∈ A ++ C, z.ok M := fun z hz => by
  rcases List.mem_append.1 hz with hz | hz
  ·exact ho z (List.mem_append.2 (.inl hz))
  ·exact ho z (List.mem_append.2 (.inr (List.mem_cons_of_mem _ hz)))
 have key2 : ∀ z ∈ A ++ C, ∀ b ∈ z.fp, b ∉ y.fp := by
  intro z hz b hb hby
  rcases hfp b hby with h' | h'
  ·exact key z hz b hb h'
  ·have := Ent.lt (okz z hz) b hb
   omega
 rw [hS]
 refine ⟨fun b c hb => hro.rd b c (h.base b c hb), fun z hz => ?_, ?_⟩
 ·rcases List.mem_append.1 hz with hz | hz
  ·exact Ent.ok_keep hro hk (key z (List.mem_append.2 (.inl hz))) (okz z (List.mem_append.2 (.inl hz)))
  ·rcases List.mem_cons.1 hz with rfl | hz
   ·exact hy
   ·exact Ent.ok_keep hro hk (key z (List.mem_append.2 (.inr hz))) (okz z (List.mem_append.2 (.inr hz)))
 ·rw [List.flatMap_append, List.flatMap_cons, List.nodup_append, List.nodup_append]
  refine ⟨n1, ⟨Ent.fp_nd, n3, ?_⟩, ?_⟩
  ·rintro b hb _ hc rfl
   obtain ⟨z, hz, hbz⟩ := List.mem_flatMap.1 hc
   exact key2 z (List.mem_append.2 (.inr hz)) b hbz hb
  ·rintro b hb c hc rfl
   obtain ⟨z, hz, hbz⟩ := List.mem_flatMap.1 hb
   rcases List.mem_append.1 hc with hc | hc
   ·exact key2 z (List.mem_append.2 (.inl hz)) b hbz hc
   ·exact n5 b hb b (List.mem_append.2 (.inr hc)) rfl
theorem Has.cons (h : Has F M H) (hM : zd6 M M') (hy : y.ok M') (hfp : ∀ b ∈ y.fp, M.next.num ≤ b.num) : Has F M' (y :: H) := by
 have h' := h.mem hM
 refine ⟨h'.base, fun z hz => ?_, ?_⟩
 ·rcases List.mem_cons.1 hz with rfl | hz
  ·exact hy
  ·exact h'.ok z hz
 ·rw [List.flatMap_cons, List.nodup_append]
  refine ⟨Ent.fp_nd, h.nd, ?_⟩
  rintro b hb c hc rfl
  obtain ⟨z, hz, hbz⟩ := List.mem_flatMap.1 hc
  have := Ent.lt (h.ok z hz) b hbz
  have := hfp b hb
  omega
theorem Has.nils (h : Has F M H) (tt z : Nat) : Has F M (.vec tt z 0 .nils [] :: H) := h.cons (.refl M) (.inl ⟨rfl, rfl, rfl⟩) (fun b hb => by simp [Ent.fp, blk] at hb)
def zik : List Nat → List Ent → List Ent
 | [], _ => []
 | i :: l, H => match H[i]? with
  | some x => x :: zik l H
  | none => zik l H
def zr0 (i : Nat) : List Nat → Bool
 | [] => true
 | j :: l => !Nat.beq i j && zr0 i l
def zm3 : List Nat → Bool
 | [] => true
 | i :: l => zr0 i l && zm3 l
theorem zjq {i : Nat} : ∀ {l : List Nat}, zr0 i l = true → i ∉ l
 | [], _ => by simp
 | j :: l, h => by
  simp only [zr0, Bool.and_eq_true, Bool.not_eq_true'] at h
  intro hm
  rcases List.mem_cons.1 hm with rfl | hm
  ·rw [Nat.beq_refl] at h; exact absurd h.1 (by simp)
  ·exact zjq h.2 hm
theorem zcb {z : Ent} : ∀ {l : List Nat}, z ∈ zik l H → ∃ j ∈ l, H[j]? = some z
 | [], h => by simp [zik] at h
 | i :: l, h => by
  unfold zik at h
  split at h
  ·rename_i x hx
   rcases List.mem_cons.1 h with rfl | h
   ·exact ⟨i, by simp, hx⟩
   ·obtain ⟨j, hj, hz⟩ := zcb h
    exact ⟨j, List.mem_cons_of_mem _ hj, hz⟩
  ·obtain ⟨j, hj, hz⟩ := zcb h
   exact ⟨j, List.mem_cons_of_mem _ hj, hz⟩
theorem zlt : ∀ {H : List Ent}, (H.flatMap Ent.fp).Nodup → ∀ {i j : Nat} {x y : Ent}, H[i]? = some x → H[j]? = some y → i ≠ j → ∀ b ∈ x.fp, b ∉ y.fp
 | [], _, i, j, x, y, hi, _, _, _, _ => by simp at hi
 | z :: H, hn, i, j, x, y, hi, hj, hne, b, hb => by
  rw [List.flatMap_cons, List.nodup_append] at hn
  intro hby
  cases i with
  | zero =>
   cases j with
   | zero => exact hne rfl
   | succ j =>
    simp only [List.getElem?_cons_zero, Option.some.injEq] at hi
    subst hi
    exact hn.2.2 b hb b (List.mem_flatMap.2 ⟨y, List.mem_of_getElem? (by simpa using hj), hby⟩) rfl
  | succ i =>
   cases j with
   | zero =>
    simp only [List.getElem?_cons_zero, Option.some.injEq] at hj
    subst hj
    exact hn.2.2 b hby b (List.mem_flatMap.2 ⟨x, List.mem_of_getElem? (by simpa using hi), hb⟩) rfl
   | succ j => exact zlt hn.2.1 (by simpa using hi) (by simpa using hj) (by omega) b hb hby
theorem Has.pick (h : Has F M H) (l : List Nat) (hl : zm3 l = true) {H' : List Ent} (he : zik l H = H') : Has F M H' := by
 subst he
 refine ⟨h.base, fun z hz => ?_, ?_⟩
 ·obtain ⟨j, _, hj⟩ := zcb hz
  exact h.get hj
 ·induction l with
  | nil => simp [zik]
  | cons i l ih =>
   simp only [zm3, Bool.and_eq_true] at hl
   unfold zik
   split
   ·rename_i x hx
    rw [List.flatMap_cons, List.nodup_append]
    refine ⟨Ent.fp_nd, ih hl.2, ?_⟩
    rintro b hb c hc rfl
    obtain ⟨z, hz, hbz⟩ := List.mem_flatMap.1 hc
    obtain ⟨j, hj, hzj⟩ := zcb hz
    exact zlt h.nd hx hzj (fun e => zjq hl.1 (e ▸ hj)) b hb hbz
   ·exact ih hl.2
variable {e : Env} {t u : TypeId} {p q : Operand} {op : Op}
theorem WF.memLe_new (h : WF M) (o : SObj) : zd6 M ⟨M.t.put (some o) M.next, M.next.succ, M.floor⟩ := by
 have hne : ∀ b x, M.t.get b = some x → M.next ≠ b := by
  intro b x hx he
  have := h.fresh hx
  rw [← he] at this
  omega
 have hlt : ∀ b : Pos, b.num < M.next.num → b.num < M.next.succ.num := by intro b h; rw [Pos.num_succ]; omega
 refine ⟨⟨fun b o' _ _ h => ?_, by show M.next.num ≤ M.next.succ.num; rw [Pos.num_succ]; omega⟩, fun b o h => ⟨?_, h.low, hlt b h.lt⟩⟩
 ·show Tree.get b (M.t.put _ _) = _
  rw [Tree.get_put_other _ _ (hne b _ h)]; exact h
 ·show Tree.get b (M.t.put _ _) = _
  rw [Tree.get_put_other _ _ (hne b _ h.get)]
  exact h.get
theorem WF.own_new (h : WF M) (o : SObj) : Own ⟨M.t.put (some o) M.next, M.next.succ, M.floor⟩ M.next o :=
 ⟨Tree.get_put_same _ _ _, h.2, by show M.next.num < M.next.succ.num; rw [Pos.num_succ]; omega⟩
theorem Has.newObj (h : Has F M H) (hw : WF M) {o : SObj} (ho : o.own = true) : Has F ⟨M.t.put (some o) M.next, M.next.succ, M.floor⟩ (.obj M.next o :: H) :=
 h.cons (hw.memLe_new o) ⟨hw.own_new o, ho⟩ (fun b hb => by simp only [Ent.fp, List.mem_cons, List.not_mem_nil, or_false] at hb; subst hb; exact Nat.le_refl _)
theorem zhg {b : Pos} {o : SObj} {o' : Option SObj} (ho : Own M b o) (hown : o.own = true) : RoK M ⟨M.t.put o' b, M.next, M.floor⟩ := by
 refine ⟨fun c r _ hr hc => ?_, Nat.le_refl _⟩
 have hne : b ≠ c := by
  intro he
  subst he
  rw [ho.get] at hc
  simp only [Option.some.injEq] at hc
  subst hc
  rw [hown] at hr
  exact absurd hr (by simp)
 show Tree.get c (M.t.put _ _) = _
 rw [Tree.get_put_other _ _ hne]
 exact hc
theorem zcx {b : Pos} {o' : Option SObj} : ∀ c o, c ∉ [b] → Own M c o → Own ⟨M.t.put o' b, M.next, M.floor⟩ c o := by
 intro c o hc h
 refine ⟨?_, h.low, h.lt⟩
 show Tree.get c (M.t.put _ _) = _
 rw [Tree.get_put_other _ _ (fun he => hc (by simp [he]))]
 exact h.get
theorem WF.put (hw : WF M) {b : Pos} {o : Option SObj} (hl : M.floor ≤ b.num) (hb : b.num < M.next.num) : Aft M ⟨M.t.put o b, M.next, M.floor⟩ := ⟨hw.set o hb, rfl, Nat.le_refl _, fun c hc => Tree.get_put_other _ _ (fun e => by subst e; omega)⟩
theorem Has.putObj (h : Has F M H) {i : Nat} {b : Pos} {o o' : SObj} (hi : H[i]? = some (.obj b o)) (ho' : o'.own = true) : Has F ⟨M.t.put (some o') b, M.next, M.floor⟩ (H.set i (.obj b o')) := by
 have hx := h.get hi
 exact h.upd hi (zhg hx.1 hx.2) zcx ⟨⟨Tree.get_put_same _ _ _, hx.1.low, hx.1.lt⟩, ho'⟩ (fun c hc => .inl hc)
theorem ExG.new {tt : TypeId} {kk : RK} {v : Pos → SV} {c : List SV} (hx : execO P M (treeOf e) op = .val (v (z90 M)) (z8k tt kk M c)) (hH : Has F M H) : ExG P M e op fun s M' => ∃ b, s = v b ∧ Has F M' (.obj b (.row tt kk c) :: H) := by
 intro hw
 have hnr : z8k tt kk M c = ⟨M.t.put (some (.row tt kk c)) M.next, M.next.succ, M.floor⟩ := by cases M; rfl
 rw [hnr, z9n] at hx
 exact ⟨_, _, hx, hw.anew _, M.next, rfl, hH.newObj hw rfl⟩
theorem ExG.newVec {tt : TypeId} {n z : Nat} {c : List SV} (hx : execO P M (treeOf e) op = .val (.slice (z90 M) 0 n n) (z8k tt (.head 0) M c)) (hc : c.length = n * z) (hH : Has F M H) : ExG P M e op fun s M' => Has F M' (.vec tt z n s c :: H) := by
 intro hw
 have hnr : z8k tt (.head 0) M c = ⟨M.t.put (some (.row tt (.head 0) c)) M.next, M.next.succ, M.floor⟩ := by cases M; rfl
 rw [hnr, z9n] at hx
 refine ⟨_, _, hx, hw.anew _, hH.cons (hw.memLe_new _) (.inr ⟨M.next, .inl rfl, hc, hw.own_new _⟩) fun b hb => ?_⟩
 simp only [Ent.fp, blk, List.mem_cons, List.not_mem_nil, or_false] at hb
 subst hb
 exact Nat.le_refl _
theorem zce {bb : Pos} {off zz : Nat} {tt : TypeId} {rk : RK} {c c' l : List SV} (ho : Own M bb (.row tt rk c)) (hl : l.length = zz) (hk : zi8 rk off = true) (hle : off + zz ≤ c.length) (h1 : ones l = true) (hc : c' = c.take off ++ (l ++ c.drop (off + zz))) : z9p M bb off l = some ⟨M.t.put (some (.row tt rk c')) bb, M.next, M.floor⟩ := by
 unfold z9p
 have ha : above M bb = true := Nat.ble_eq_true_of_le ho.low
 have hb : Nat.ble (Nat.add off zz) c.length = true := Nat.ble_eq_true_of_le hle
 simp only [ho.get, ha, hk, h1, z9i, zck, zc6, z93, hl, hc, hb]
 rfl
theorem zgk {bb : Pos} {off zz : Nat} {s : SV} {M1 : Mem} (h : ar e p = some (.ptr bb off)) (h' : ar e q = some s) (hz : szOf P t = some zz) (hl : (cellsOf s).length = zz) (hput : z9p M bb off (cellsOf s) = some M1) : execO P M (treeOf e) (.store t p q) = .val (.tuple []) M1 := by
 show zo5 P M (treeOf e) t p q = _
 unfold zo5
 rw [z8j h, z8j h']
 show zht P t (.ptr bb off) s M = _
 unfold zht
 have hb : Nat.beq (len (cellsOf s)) zz = true := by rw [z93, hl]; exact Nat.beq_refl zz
 simp only [hz, hb, hput]
theorem ExG.store {i : Nat} {bb : Pos} {off zz : Nat} {s : SV} {tt : TypeId} {rk : RK} {c c' : List SV} (h : ar e p = some (.ptr bb off)) (h' : ar e q = some s) (hH : Has F M H) (hi : H[i]? = some (.obj bb (.row tt rk c))) (hz : szOf P t = some zz) (hl : (cellsOf s).length = zz) (hk : zi8 rk off = true) (hle : Nat.ble (off + zz) c.length = true) (h1 : ones (cellsOf s) = true) (hc : c.take off ++ (cellsOf s ++ c.drop (off + zz)) = c') :
  ExG P M e (.store t p q) fun s M' => s = .tuple [] ∧ Has F M' (H.set i (.obj bb (.row tt rk c'))) := by
 intro hw
 have ho := (hH.get hi).1
 exact ⟨_, _, zgk h h' hz hl (zce ho hl hk (Nat.le_of_ble_eq_true hle) h1 hc.symm), hw.put ho.low ho.lt, rfl, hH.putObj hi rfl⟩
theorem ExG.storeEl {α : Type} {enc : α → List SV} {i j z : Nat} {bb : Pos} {s sv : SV} {v : α} {l l' : List α} {tt : TypeId} (h : ar e p = some (.ptr bb (0 + j * z))) (h' : ar e q = some s) (hH : Has F M H) (hi : H[i]? = some (.vec tt z l.length sv (l.flatMap enc))) (hb : blk sv = [bb]) (hu : upd l j v = some l') (hz : szOf P t = some z) (hs : cellsOf s = enc v) (hlen : ∀ a, (enc a).length = z) (h1 : ∀ a, ones (enc a) = true) :
  ExG P M e (.store t p q) fun s M' => s = .tuple [] ∧ Has F M' (H.set i (.vec tt z l'.length sv (l'.flatMap enc))) := by
 intro hw
 obtain ⟨j', hj, hlt, rfl⟩ := zml hu
 have hj' : j' = j := by omega
 subst hj'
 rcases hH.get hi with ⟨rfl, _⟩ | ⟨b, hsv, hc, ho⟩
 ·simp [blk] at hb
 ·have hbb : b = bb := by rcases hsv with rfl | rfl <;> (simp only [blk, List.cons.injEq, and_true] at hb; exact hb)
  subst hbb
  have hle : (j' + 1) * z ≤ l.length * z := Nat.mul_le_mul_right z hlt
  rw [Nat.succ_mul] at hle
  have hput := zce (l := cellsOf s) (off := 0 + j' * z) (zz := z) (c' := (l.set j' v).flatMap enc) ho (by rw [hs, hlen]) rfl (by rw [hc]; omega) (by rw [hs]; exact h1 v) (by rw [hs, Nat.zero_add]; exact zi4 hlen l j' v hlt)
  refine ⟨_, _, zgk h h' hz (by rw [hs, hlen]) hput, hw.put ho.low ho.lt, rfl, hH.upd hi (zhg ho rfl) ?_ (.inr ⟨b, by simpa using hsv, by rw [zag hlen], ⟨Tree.get_put_same _ _ _, ho.low, ho.lt⟩⟩) fun c hc => .inl hc⟩
  intro c o hc
  refine zcx c o ?_
  show c ∉ [b]
  rw [← hb]; exact hc
theorem Has.at {α : Type} {enc : α → List SV} {i j z : Nat} {sv : SV} {l : List α} {a : α} {tt : TypeId} {b : Pos} (hH : Has F M H) (hi : H[i]? = some (.vec tt z l.length sv (l.flatMap enc))) (hb : blk sv = [b]) (ha : l[j]? = some a) (hlen : ∀ a, (enc a).length = z) : zar (z9k M) (.ptr b (0 + j * z)) (enc a) := by
 rcases hH.get hi with ⟨rfl, _⟩ | ⟨c, hsv, _, ho⟩
 ·simp [blk] at hb
 ·have hbb : c = b := by rcases hsv with rfl | rfl <;> (simp only [blk, List.cons.injEq, and_true] at hb; exact hb)
  subst hbb
  exact ho.el hlen ha
theorem Has.cells {i : Nat} {b : Pos} {tt : TypeId} {rk : RK} {c : List SV} (hH : Has F M H) (hi : H[i]? = some (.obj b (.row tt rk c))) (off : Nat) (hl : Nat.ble off c.length = true) : zar (z9k M) (.ptr b off) (c.drop off) := (hH.get hi).1.at off hl
theorem Has.slc {α : Type} {enc : α → List SV} {i z : Nat} {sv : SV} {l : List α} {tt : TypeId} (hH : Has F M H) (hi : H[i]? = some (.vec tt z l.length sv (l.flatMap enc))) (hlen : ∀ a, (enc a).length = z) : Slc (rd M) z (FlatR enc) sv l := by
 rcases hH.get hi with ⟨rfl, h0, _⟩ | ⟨b, hsv, hc, ho⟩
 ·exact .inl ⟨.inl rfl, List.length_eq_zero_iff.1 h0⟩
 ·refine .inr ⟨b, 0, _, ?_, ho.rd, by rw [hc]; omega, fun i a ha => by rw [Nat.zero_add]; exact zd9 hlen l i a ha⟩
  rcases hsv with h | h
  ·exact .inl ⟨_, Nat.le_refl _, h⟩
  ·exact .inr h
theorem Has.slcF {α : Type} {R : List SV → α → Prop} {z : Nat} {s : SV} {l : List α} (hH : Has F M H) (h : Slc F z R s l) : Slc (rd M) z R s l := h.mono (fun b c hb => ro_rd (hH.base b c hb)) (fun _ _ h => h)
theorem Has.ptrF {s : SV} {cs : List SV} (hH : Has F M H) (h : zar F s cs) : zar (z9k M) s cs := h.mono fun b c hb => zrq (hH.base b c hb)
theorem rdLe_rdRow (M : Mem) : zj2 (rd M) (z9k M) := fun _ _ h => zrn h
theorem zs7 {kk : RK} {el : Elt} {n : Nat} {c : List SV} (h1 : n ≤ 4611686018427387904) (h2 : 2 * n * el.bytes ≤ 281474976710656) (h3 : 1 ≤ el.size) : zlv kk M el n c = .val (.ope M.next 0 n el.size) ⟨M.t.put (some (.row el.ty kk c)) M.next, M.next.succ, M.floor⟩ := by
 unfold zlv
 have g1 : Nat.ble n 4611686018427387904 = true := Nat.ble_eq_true_of_le h1
 have g2 : Nat.ble (Nat.mul (Nat.mul 2 n) el.bytes) 281474976710656 = true := Nat.ble_eq_true_of_le h2
 have g3 : Nat.ble 1 el.size = true := Nat.ble_eq_true_of_le h3
 simp only [g1, g2, g3]
 cases M
 rfl
theorem ExG.append {α : Type} {enc : α → List SV} {i z : Nat} {el : Elt} {s s2 : SV} {l l2 l' : List α} (h : ar e p = some s) (h' : ar e q = some s2) (hH : Has F M H) (hi : H[i]? = some (.vec el.ty z l.length s (l.flatMap enc))) (hz : ∀ a, (enc a).length = z) (hz1 : Nat.ble 1 z = true) (ho : ∀ a, ones (enc a) = true) (hx : appT P t u = some el) (hsz : el.size = z)
  (hlz : zoz el s2 = some l2.length) (hnew : z8z M z l2.length s2 = some (l2.flatMap enc)) (hl : apd el.bytes l l2 = some l') :
  ExG P M e (.call ⟨.builtin .append, #[p, q], #[t, u]⟩) fun s' M' => Has F M' (H.set i (.vec el.ty z l'.length s' (l'.flatMap enc))) := by
 intro hw
 have hz1' := Nat.le_of_ble_eq_true hz1
 obtain ⟨hl1, hl2, rfl⟩ := zq4 hl
 have hxx : execO P M (treeOf e) (.call ⟨.builtin .append, #[p, q], #[t, u]⟩) = za5 P t u s s2 M := by
  rw [zba (l := [s, s2]) (by show ars e [p, q] = _; simp only [ars, h, h'])]
  rfl
 rw [← hsz] at hnew
 have hsame : l2 = [] → Has F M (H.set i (.vec el.ty z (l ++ l2).length s ((l ++ l2).flatMap enc))) := by
  intro h0
  subst h0
  rw [List.append_nil]
  obtain ⟨hlt, he⟩ := List.getElem?_eq_some_iff.1 hi
  rw [← he, List.set_getElem_self]
  exact hH
 have hlenR : ((l ++ l2).flatMap enc).length = (l ++ l2).length * z := zag hz _
 have hnewrow : ∀ (M1 : Mem), M1.next = M.next → M1.floor = M.floor → WF M1 → RoK M M1 → (∀ b o, b ∉ (Ent.vec el.ty z l.length s (l.flatMap enc)).fp → Own M b o → Own M1 b o) →
   Has F ⟨M1.t.put (some (.row el.ty (.head 0) ((l ++ l2).flatMap enc))) M1.next, M1.next.succ, M1.floor⟩ (H.set i (.vec el.ty z (l ++ l2).length (.ope M.next 0 (l.length + l2.length) el.size) ((l ++ l2).flatMap enc))) := by
  intro M1 e1 e2 hw1 hro hk
  have hm := hw1.memLe_new (.row el.ty (.head 0) ((l ++ l2).flatMap enc))
  refine hH.upd hi (hro.trans hm.rok) (fun b o hb hbo => hm.own b o (hk b o hb hbo)) (.inr ⟨M.next, .inr (by rw [List.length_append, hsz]), hlenR, ?_⟩) fun b hb => ?_
  ·rw [← e1]
   exact hw1.own_new _
  ·simp only [Ent.fp, blk, List.mem_cons, List.not_mem_nil, or_false] at hb
   subst hb
   exact .inr (Nat.le_refl _)
 have hgrow : ∀ M1 : Mem, zlv (.head 0) M1 el (l.length + l2.length) (l.flatMap enc ++ l2.flatMap enc) = .val (.ope M1.next 0 (l.length + l2.length) el.size) ⟨M1.t.put (some (.row el.ty (.head 0) ((l ++ l2).flatMap enc))) M1.next, M1.next.succ, M1.floor⟩ := by
  intro M1
  rw [List.flatMap_append]
  exact zs7 hl1 hl2 (by omega)
 rcases hH.get hi with ⟨rfl, h0, hc0⟩ | ⟨bb, hs, hlc, hown⟩
 ·have hl0 : l = [] := List.length_eq_zero_iff.1 h0
  cases hl2c : l2 with
  | nil =>
   subst hl2c
   exact ⟨.nils, M, by rw [hxx]; exact zk4 hx hlz hnew, .refl hw, hsame rfl⟩
  | cons a0 r0 =>
   have hlen : l2.length = r0.length + 1 := by rw [hl2c]; rfl
   rw [← hl2c]
   have hg := hgrow M
   have hl0' : l.flatMap enc = [] := by rw [hl0]; rfl
   have e0 : l.length + l2.length = l2.length := by rw [h0]; omega
   rw [hl0', List.nil_append] at hg
   refine ⟨_, _, ?_, hw.anew _, hnewrow M rfl rfl hw (.refl M) (fun _ _ _ h => h)⟩
   rw [hxx]
   have := zk5 (P := P) (M := M) (t := t) (u := u) (el := el) (s2 := s2) (j := r0.length) (new := l2.flatMap enc) hx (by rw [← hlen]; exact hlz) (by rw [← hlen]; exact hnew)
   rw [this, show r0.length + 1 = l.length + l2.length by omega]
   exact hg
 ·have hrow : z9k M bb = some (l.flatMap enc) := hown.row
  have hle' : Nat.ble (Nat.add 0 (l.length * el.size)) (len (l.flatMap enc)) = true := by
   rw [z93, hlc, hsz]
   exact Nat.ble_eq_true_of_le (by simp)
  have htake : (l.flatMap enc).take (l.length * el.size) = l.flatMap enc := List.take_of_length_le (by rw [hlc, hsz]; exact Nat.le_refl _)
  rcases hs with rfl | rfl
  ·have hfirst : z8z M el.size l.length (.slice bb 0 l.length l.length) = some (l.flatMap enc) := by
    unfold z8z
    simp only [hrow, zck, zc6, Nat.mul_eq, List.drop_zero, hle', htake]
   cases hl2c : l2 with
   | nil =>
    subst hl2c
    refine ⟨.slice bb 0 l.length l.length, M, ?_, .refl hw, hsame rfl⟩
    rw [hxx]
    unfold za5
    have g2 : zoz el s2 = some 0 := hlz
    have g3 : z8z M el.size 0 s2 = some [] := hnew
    have g4 : Nat.ble (Nat.add l.length 0) l.length = true := Nat.ble_eq_true_of_le (Nat.le_refl _)
    simp only [hx, g2, g3, g4]
    rfl
   | cons a0 r0 =>
    rw [← hl2c]
    have hlen : 1 ≤ l2.length := by rw [hl2c]; simp
    refine ⟨_, _, ?_, hw.anew _, hnewrow M rfl rfl hw (.refl M) (fun _ _ _ h => h)⟩
    rw [hxx]
    unfold za5
    have g4 : Nat.ble (Nat.add l.length l2.length) l.length = false := by
     cases hb : Nat.ble (Nat.add l.length l2.length) l.length with
     | false => rfl
     | true => have h9 : l.length + l2.length ≤ l.length := Nat.le_of_ble_eq_true hb; omega
    simp only [hx, hlz, hnew, g4, hfirst, z9i]
    exact hgrow M
  ·have hfirst : z8z M el.size l.length (.ope bb 0 l.length z) = some (l.flatMap enc) := by
    unfold z8z
    simp only [hrow, zck, zc6, Nat.mul_eq, List.drop_zero, hle', htake]
   have hok : zsg M bb = some (el.ty, .head 0) := by
    unfold zsg
    have ha : above M bb = true := Nat.ble_eq_true_of_le hown.low
    simp only [hown.get, ha]
   cases hl2c : l2 with
   | nil =>
    subst hl2c
    exact ⟨.ope bb 0 l.length z, M, by rw [hxx]; exact zk6 hx hlz hnew (by rw [hsz]; exact Nat.beq_refl z) hok hfirst, .refl hw, hsame rfl⟩
   | cons a0 r0 =>
    have hlen : l2.length = r0.length + 1 := by rw [hl2c]; rfl
    rw [← hl2c]
    have hdrop : zc7 M bb = ⟨M.t.put none bb, M.next, M.floor⟩ := by cases M; rfl
    have hw0 := hw.put (o := none) hown.low hown.lt
    have hw1 : WF ⟨M.t.put none bb, M.next, M.floor⟩ := hw0.wf
    refine ⟨_, _, ?_, hw0.trans (hw1.anew _), hnewrow ⟨M.t.put none bb, M.next, M.floor⟩ rfl rfl hw1 (zhg hown rfl) (fun b o hb hbo => zcx b o hb hbo)⟩
    rw [hxx]
    have f2 : Nat.beq el.ty el.ty = true := Nat.beq_refl _
    have f3 : zi8 (.head 0) (Nat.add 0 (Nat.mul l.length el.size)) = true := rfl
    have h5 := zk7 (P := P) (M := M) (t := t) (u := u) (el := el) (s2 := s2) (j := r0.length) (off := 0) (q := l.length) (z := z) (bb := bb) (new := l2.flatMap enc) (old := l.flatMap enc) hx (by rw [← hlen]; exact hlz) (by rw [← hlen]; exact hnew) (by rw [hsz]; exact Nat.beq_refl z) hok hfirst (zm5 ho l2) f2 f3
    rw [h5, ← hlen, hdrop, z9i]
    exact hgrow ⟨M.t.put none bb, M.next, M.floor⟩
theorem ExG.make {α : Type} {z0 : α} {enc : α → List SV} {el : Elt} {l : List α} {nn : Int} {by' z : Nat} {kk kk' : IntKind} (h : ar e p = some (.int kk nn)) (h' : ar e q = some (.int kk' nn)) (hl : mk nn by' z0 = some l) (hel : sliceElt P t = some el) (hby : el.bytes = by') (hz : el.zero = enc z0) (hlen : ∀ a, (enc a).length = z) (hH : Has F M H) :
  ExG P M e (.makeSlice t p q) fun s M' => Has F M' (.vec el.ty z l.length s (l.flatMap enc) :: H) := by
 subst hby
 obtain ⟨j, rfl, h1, h2, rfl⟩ := zsb hl
 refine ExG.newVec ?_ (zag hlen _) hH
 rw [List.length_replicate, ← zma hz]
 exact zs5 h h' hel h1 h2
theorem ExG.built {α : Type} {enc : α → List SV} {el : Elt} {l : List α} {z j : Nat} {ps : Array (Nat × Operand)} {r : List (Nat × SV)} (h : zsv e ps.toList = some r) (hx : sliceElt P t = some el) (hj : Nat.ble (j * el.size) 16777216 = true) (hf : zgy (fun i => some (Nat.mul i el.size, el.size)) (rep j el.zero) r = some (l.flatMap enc)) (hl : l.length = j) (hlen : ∀ a, (enc a).length = z) (hH : Has F M H) :
  ExG P M e (.buildSlice t j ps) fun s M' => Has F M' (.vec el.ty z l.length s (l.flatMap enc) :: H) := by
 subst hl
 exact ExG.newVec (zi1 h hx hj hf) (zag hlen _) hH
theorem blk_self {sv : SV} (hH : Has F M H) {i tt z n : Nat} {c : List SV} (hi : H[i]? = some (.vec tt z n sv c)) : zh4 sv = true := by
 rcases hH.get hi with ⟨rfl, _⟩ | ⟨b, rfl | rfl, _⟩ <;> rfl
end
end Go.Ev
