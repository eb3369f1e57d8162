/- A part of the small machine. -/
import Derived.Test.YtajnglhkdglglaaGreatDoorEvW12
set_option linter.unusedVariables false
/- The small machine as a logic over whole stacks of frames: what a run comes to, operation by operation, from what is known of temporaries and of memory. -/
namespace Go.Ev
open Go.RowKit
variable {P : Program}

theorem zx0 {u t : Nat} (h : ¬ u = t) : Nat.beq u t = false := by
 cases hb : Nat.beq u t with
 | false => rfl
 | true => exact absurd (Nat.eq_of_beq_eq_true hb) h

/-- What is known of the temporaries. -/
abbrev Env := List (Nat × SV)
def lk (t : Nat) : Env → Option SV
 | [] => none
 | (u, s) :: r => bif Nat.beq u t then some s else lk t r
noncomputable def treeOf : Env → Tree SV
 | [] => .leaf
 | (u, s) :: r => (treeOf r).put (some s) (Pos.ofNat u)

theorem zdl (t : Nat) : ∀ e : Env, (treeOf e).get (Pos.ofNat t) = lk t e
 | [] => Tree.get_leaf _
 | (u, s) :: r => by
  by_cases h : u = t
  ·subst h
   simp [treeOf, lk, Tree.get_put_same]
  ·have hb : Nat.beq u t = false := zx0 h
   rw [treeOf, Tree.get_put_other _ _ (fun e => h (Pos.ofNat_inj e)), zdl t r]
   simp [lk, hb]

/-- What does not hang on the world. -/
def WF (M : Mem) : Prop := (∀ b : Pos, M.next.num ≤ b.num → M.t.get b = none) ∧ M.floor ≤ M.next.num
theorem WF.fresh {M : Mem} (h : WF M) {b : Pos} {o : SObj} (hb : M.t.get b = some o) : b.num < M.next.num := by
 apply Classical.byContradiction
 intro hn
 rw [h.1 b (by omega)] at hb
 simp at hb
theorem WF.new {M : Mem} (h : WF M) (o : SObj) : WF ⟨M.t.put (some o) M.next, M.next.succ, M.floor⟩ := by
 refine ⟨fun b hb => ?_, ?_⟩
 ·have hb' : M.next.succ.num ≤ b.num := hb
  rw [Pos.num_succ] at hb'
  show Tree.get b (M.t.put _ _) = none
  rw [Tree.get_put_other _ _ (fun he => by subst he; omega)]
  exact h.1 b (by omega)
 ·show M.floor ≤ M.next.succ.num
  rw [Pos.num_succ]
  have := h.2
  omega
theorem MRel.wf {B m M w} (hr : MRel B m M w) : WF M := ⟨fun b hb => (hr.fresh b hb).2, hr.flo⟩

/-- f' knows less of its temporaries than f. -/
def FLe : zdd → zdd → Prop
 | .mk cx n σ k, .mk cx' n' σ' k' => cx = cx' ∧ n = n' ∧ k = k' ∧ ∀ t s, σ'.get (Pos.ofNat t) = some s → σ.get (Pos.ofNat t) = some s
theorem FLe.refl (f : zdd) : FLe f f := by cases f; exact ⟨rfl, rfl, rfl, fun _ _ h => h⟩
theorem FLe.rel {m : Map} {f f' : zdd} {fr : Frame} (h : FLe f f') (hf : zfu m f fr) : zfu m f' fr := by
 obtain ⟨cx, n, σ, k⟩ := f
 obtain ⟨cx', n', σ', k'⟩ := f'
 obtain ⟨rfl, rfl, rfl, hs⟩ := h
 obtain ⟨c, tm, todo, rfl, hc, ht, hn, hk⟩ := hf
 exact ⟨c, tm, todo, rfl, hc, fun t s e => ht t s (hs t s e), hn, hk⟩
theorem FLe.fn {f f' : zdd} (h : FLe f f') : f.fn = f'.fn := by
 obtain ⟨cx, n, σ, k⟩ := f
 obtain ⟨cx', n', σ', k'⟩ := f'
 obtain ⟨rfl, rfl, rfl, hs⟩ := h
 rfl
theorem zni {m : Map} : ∀ {cs cs' : List zdd} {frs : List Frame}, ze1 FLe cs cs' → ze1 (zfu m) cs frs → ze1 (zfu m) cs' frs
 | _, _, _, .nil, .nil => .nil
 | _, _, _, .cons a b, .cons c d => .cons (a.rel c) (zni b d)
theorem znh : ∀ {cs cs' : List zdd} (f : FuncId), ze1 FLe cs cs' → zhy f cs = zhy f cs'
 | _, _, _, .nil => rfl
 | _, _, _, .cons (a := x) (b := y) a b => by
  show zhy x.fn _ = zhy y.fn _
  rw [a.fn, znh _ b]
theorem zgo : ∀ cs : List zdd, ze1 FLe cs cs
 | [] => .nil
 | c :: cs => .cons (.refl c) (zgo cs)

/-- The stack comes to an end, and gives s. -/
def zr6 (P : Program) (f : zdd) (cs : List zdd) (M : Mem) (s : SV) (M' : Mem) : Prop :=
 P.follows .mixedOrders = true → ∀ (B : Nat) (m : Map) (w : World) (fr : Frame) (frs cs0 : List Frame), MRel B m M w → zfu m f fr → ze1 (zfu m) cs frs →
  ∃ fr' w' m' x, Steps P (lone fr (frs ++ cs0) w) (lone fr' cs0 w') ∧ zdc B m M w m' M' w' ∧ conc m' s = some x ∧ fr'.leaving P w' (.returned x) ∧ fr'.fn = zhy f.fn cs
theorem zr6.weak {f f' : zdd} {cs cs' : List zdd} {M : Mem} {s : SV} {M' : Mem} (h : zr6 P f' cs' M s M') (hf : FLe f f') (hc : ze1 FLe cs cs') : zr6 P f cs M s M' := by
 intro hmix B m w fr frs cs0 hr h1 h2
 obtain ⟨fr', w', m', x, g1, g2, g3, g4, g5⟩ := h hmix B m w fr frs cs0 hr (hf.rel h1) (zni hc h2)
 exact ⟨fr', w', m', x, g1, g2, g3, g4, by rw [g5, ← hf.fn, ← znh _ hc]⟩
/-- What becomes of memory in any case. -/
structure Aft (M M' : Mem) : Prop where
 wf : WF M'
 floor : M'.floor = M.floor
 next : M.next.num ≤ M'.next.num
 old : ∀ b : Pos, b.num < M.floor → M'.t.get b = M.t.get b
theorem Aft.refl {M : Mem} (h : WF M) : Aft M M := ⟨h, rfl, Nat.le_refl _, fun _ _ => rfl⟩
theorem Aft.trans {M M' M'' : Mem} (h : Aft M M') (h' : Aft M' M'') : Aft M M'' := ⟨h'.wf, h'.floor.trans h.floor, Nat.le_trans h.next h'.next, fun b hb => (h'.old b (by rw [h.floor]; exact hb)).trans (h.old b hb)⟩
theorem WF.anew {M : Mem} (h : WF M) (o : SObj) : Aft M ⟨M.t.put (some o) M.next, M.next.succ, M.floor⟩ := ⟨h.new o, rfl, by show M.next.num ≤ M.next.succ.num; rw [Pos.num_succ]; omega, fun b hb => Tree.get_put_other _ _ (fun e => by subst e; have := h.2; omega)⟩
theorem WF.set {M : Mem} (h : WF M) {b : Pos} (o : Option SObj) (hb : b.num < M.next.num) : WF (zy4 M b o) := by
 refine ⟨fun c hc => ?_, h.2⟩
 have hc' : M.next.num ≤ c.num := hc
 show Tree.get c (M.t.put o b) = none
 rw [Tree.get_put_other _ _ (fun he => by subst he; omega)]
 exact h.1 c hc'
theorem WF.shut : ∀ {ds : List Pos} {M M1 : Mem}, zkd ds M = some M1 → WF M → Aft M M1
 | [], M, M1, h, hw => by
  simp only [zkd, Option.some.injEq] at h
  subst h
  exact .refl hw
 | b :: ds, M, M1, h, hw => by
  unfold zkd at h
  split at h
  ·rename_i hb
   split at h
   ·rename_i ha
    have h2 := WF.shut h (hw.set none (hw.fresh hb))
    exact ⟨h2.wf, h2.floor, h2.next, fun c hc => (h2.old c hc).trans (Tree.get_put_other _ _ (fun e => by subst e; have h3 := Nat.le_of_ble_eq_true ha; omega))⟩
   ·simp at h
  ·simp at h

/-- Whose frame runs, and which wait for it. -/
structure Fx where
 cx : SCx
 cs : List zdd
def Run (P : Program) (fx : Fx) (n : Nat) (Q : SV → Mem → Prop) (e : Env) (k : List SItem) (M : Mem) : Prop :=
 WF M → ∃ s M', Q s M' ∧ Aft M M' ∧ zr6 P (.mk fx.cx n (treeOf e) k) fx.cs M s M'

section
variable {fx : Fx} {n : Nat} {Q : SV → Mem → Prop} {e : Env} {k : List SItem} {M : Mem}

theorem Run.of_stepX {D : Jg} {f' : zdd} {cs' : List zdd} {M1 : Mem} {fx' : Fx} {n' : Nat} {e' : Env} {k' : List SItem} (hD : P.follows .mixedOrders = true → ∀ B, Kz P B D)
  (h : zo1 Qt D P (.mk fx.cx n (treeOf e) k) fx.cs M = .go f' cs' M1) (hwf : WF M → Aft M M1) (hf : FLe f' (.mk fx'.cx n' (treeOf e') k')) (hcs : ze1 FLe cs' fx'.cs) (next : Run P fx' n' Q e' k' M1) : Run P fx n Q e k M := by
 intro hw
 obtain ⟨s, M', hq, hw', hrun⟩ := next (hwf hw).wf
 refine ⟨s, M', hq, (hwf hw).trans hw', ?_⟩
 intro hmix B m w fr frs cs0 hr h1 h2
 have hg := zfs (I := Qt) (D := D) hr (Zl P B) (hD hmix B) hmix (cs0 := cs0) h1 h2 rfl
 rw [h] at hg
 obtain ⟨fr1, c, w1, m1, hs, hst, hf1, hc1, hb⟩ := hg
 obtain ⟨fr2, w2, m2, x, g1, g2, g3, g4, g5⟩ := hrun hmix B m1 w1 fr1 c cs0 hst.rel (hf.rel hf1) (zni hcs hc1)
 refine ⟨fr2, w2, m2, x, hs.trans g1, hst.trans g2, g3, g4, ?_⟩
 rw [g5, ← hf.fn, ← znh _ hcs, hb]

theorem Run.of_step {D : Jg} {σ' : Tree SV} {k' : List SItem} {M' : Mem} {e' : Env} (hD : P.follows .mixedOrders = true → ∀ B, Kz P B D) (h : zo1 Qt D P (.mk fx.cx n (treeOf e) k) fx.cs M = .go (.mk fx.cx n σ' k') fx.cs M')
  (he : ∀ t s, lk t e' = some s → σ'.get (Pos.ofNat t) = some s) (next : Run P fx n Q e' k' M') (hwf : WF M → Aft M M' := by exact fun h => Aft.refl h) : Run P fx n Q e k M :=
 .of_stepX hD h hwf ⟨rfl, rfl, rfl, fun t s hs => he t s (by rw [← zdl]; exact hs)⟩ (zgo _) next

theorem Run.of_done {D : Jg} {v : SV} {M' : Mem} (hD : P.follows .mixedOrders = true → ∀ B, Kz P B D) (h : zo1 Qt D P (.mk fx.cx n (treeOf e) k) fx.cs M = .done v M') (hwf : WF M → Aft M M') (hq : Q v M') : Run P fx n Q e k M := by
 intro hw
 refine ⟨v, M', hq, hwf hw, ?_⟩
 intro hmix B m w fr frs cs0 hr h1 h2
 have hg := zfs (I := Qt) (D := D) hr (Zl P B) (hD hmix B) hmix (cs0 := cs0) h1 h2 rfl
 rw [h] at hg
 obtain ⟨fr1, w1, m1, x, hs, hst, hv, hl, hb⟩ := hg
 exact ⟨fr1, w1, m1, x, hs, hst, hv, hl, hb⟩

/-- Less is known of the temporaries. -/
theorem Run.env {e' : Env} (h : ∀ t s, lk t e' = some s → lk t e = some s) (next : Run P fx n Q e' k M) : Run P fx n Q e k M := by
 have hf : FLe (.mk fx.cx n (treeOf e) k) (.mk fx.cx n (treeOf e') k) := ⟨rfl, rfl, rfl, fun t s hs => by rw [zdl] at hs ⊢; exact h t s hs⟩
 intro hw
 obtain ⟨s, M', h1, h2, h3⟩ := next hw
 exact ⟨s, M', h1, h2, h3.weak hf (zgo _)⟩
/-- .. of those of the frames that wait. -/
theorem Run.low {cx : SCx} {cs cs' : List zdd} (h : ze1 FLe cs cs') (next : Run P ⟨cx, cs'⟩ n Q e k M) : Run P ⟨cx, cs⟩ n Q e k M := by
 intro hw
 obtain ⟨s, M', h1, h2, h3⟩ := next hw
 exact ⟨s, M', h1, h2, h3.weak (.refl _) h⟩

def pick (ks : List Nat) (e : Env) : Env := match ks with
 | [] => []
 | t :: r => match lk t e with
  | some s => (t, s) :: pick r e
  | none => pick r e

theorem znm {t : Nat} {s : SV} {e : Env} : ∀ {ks : List Nat}, lk t (pick ks e) = some s → lk t e = some s
 | [], h => by simp [pick, lk] at h
 | u :: r, h => by
  unfold pick at h
  split at h
  ·rename_i x hx
   by_cases hu : u = t
   ·subst hu
    simp only [lk, Nat.beq_refl, cond_true] at h
    rw [hx]; exact h
   ·have hb : Nat.beq u t = false := zx0 hu
    simp only [lk, hb, cond_false] at h
    exact znm h
  ·exact znm h

theorem Run.pick (ks : List Nat) (next : Run P fx n Q (pick ks e) k M) : Run P fx n Q e k M := Run.env (fun _ _ => znm) next
theorem Jf {cx : SCx} {n : Nat} {e e' : Env} {k : List SItem} (ks : List Nat) (he : Go.Ev.pick ks e = e') : FLe (.mk cx n (treeOf e) k) (.mk cx n (treeOf e') k) := by
 subst he
 exact ⟨rfl, rfl, rfl, fun t s hs => by rw [zdl] at hs ⊢; exact znm hs⟩

/- CONTROL -/
theorem X7 : P.follows .mixedOrders = true → ∀ B, Kz P B Qt := fun _ B => Zl P B

theorem Run.seq {a b : Code} (next : Run P fx n Q e (.code a :: .code b :: k) M) : Run P fx n Q e (.code (.seq a b) :: k) M :=
 .of_step X7 (σ' := treeOf e) rfl (fun t s h => by rw [zdl]; exact h) next
theorem Run.skip (next : Run P fx n Q e k M) : Run P fx n Q e (.code .skip :: k) M :=
 .of_step X7 (σ' := treeOf e) rfl (fun t s h => by rw [zdl]; exact h) next
theorem Run.block {i : Nat} {c : Code} (next : Run P fx n Q e (.code c :: .inBlock i :: k) M) : Run P fx n Q e (.code (.block i c) :: k) M :=
 .of_step X7 (σ' := treeOf e) rfl (fun t s h => by rw [zdl]; exact h) next
theorem Run.loop {c : Code} (next : Run P fx n Q e (.code c :: .inLoop c :: k) M) : Run P fx n Q e (.code (.loop c) :: k) M :=
 .of_step X7 (σ' := treeOf e) rfl (fun t s h => by rw [zdl]; exact h) next
theorem Run.inBlock {i : Nat} (next : Run P fx n Q e k M) : Run P fx n Q e (.inBlock i :: k) M :=
 .of_step X7 (σ' := treeOf e) rfl (fun t s h => by rw [zdl]; exact h) next
theorem Run.inLoop {c : Code} (next : Run P fx n Q e (.code c :: .inLoop c :: k) M) : Run P fx n Q e (.inLoop c :: k) M :=
 .of_step X7 (σ' := treeOf e) rfl (fun t s h => by rw [zdl]; exact h) next
theorem Run.exit {i : Nat} {k' : List SItem} (h : zhb i k = some k') (next : Run P fx n Q e k' M) : Run P fx n Q e (.code (.exit i) :: k) M := by
 refine .of_step X7 (σ' := treeOf e) (k' := k') (M' := M) ?_ (fun t s h => by rw [zdl]; exact h) next
 show zvv fx.cx n (treeOf e) k fx.cs M i = _
 unfold zvv
 rw [h]
theorem Run.region {i : Nat} {ops : Array Oper} (next : Run P fx n Q e (.ops ops ops.toList :: k) M) : Run P fx n Q e (.code (.region i ops false) :: k) M :=
 .of_step X7 (σ' := treeOf e) rfl (fun t s h => by rw [zdl]; exact h) next
theorem Run.Wd {all : Array Oper} (next : Run P fx n Q e k M) : Run P fx n Q e (.ops all [] :: k) M :=
 .of_step X7 (σ' := treeOf e) rfl (fun t s h => by rw [zdl]; exact h) next

/-- An operand. -/
noncomputable def ar (e : Env) (x : Operand) : Option SV := match x with
 | .tmp t => lk t e
 | .const v => ofV v
 | .global _ => none
 | .func f => some (.fn (.func f) [] [])

theorem zds {x : Operand} {s : SV} (h : ar e x = some s) (M : Mem) : arg M (treeOf e) x = some s := by
 cases x with
 | tmp t => exact (zdl t e).trans h
 | const v => exact h
 | global g => simp [ar] at h
 | func f => exact h

theorem Run.cond {x : Operand} {a b : Code} {c : Bool} (h : ar e x = some (.bool c)) (next : Run P fx n Q e (.code (bif c then a else b) :: k) M) : Run P fx n Q e (.code (.cond x a b) :: k) M := by
 refine .of_step X7 (σ' := treeOf e) (k' := .code (bif c then a else b) :: k) (M' := M) ?_ (fun t s h => by rw [zdl]; exact h) next
 show zvu fx.cx n (treeOf e) k fx.cs M x a b = _
 unfold zvu
 rw [zds h]
 cases c <;> rfl
theorem Run.condT {x : Operand} {a b : Code} (h : ar e x = some (.bool true)) (next : Run P fx n Q e (.code a :: k) M) : Run P fx n Q e (.code (.cond x a b) :: k) M := Run.cond h next
theorem Run.condF {x : Operand} {a b : Code} (h : ar e x = some (.bool false)) (next : Run P fx n Q e (.code b :: k) M) : Run P fx n Q e (.code (.cond x a b) :: k) M := Run.cond h next
theorem Run.Wf {x : Operand} {a b : Code} {c : Bool} (h : ar e x = some (.bool c)) (hc : c = true) (next : Run P fx n Q e (.code a :: k) M) : Run P fx n Q e (.code (.cond x a b) :: k) M := by subst hc; exact Run.condT h next
theorem Run.We {x : Operand} {a b : Code} {c : Bool} (h : ar e x = some (.bool c)) (hc : c = false) (next : Run P fx n Q e (.code b :: k) M) : Run P fx n Q e (.code (.cond x a b) :: k) M := by subst hc; exact Run.condF h next

/- OPERATIONS -/
theorem T7 {all : Array Oper} {σ : Tree SV} {d : Option Tmp} {op : Op} {ty : TypeId} {pos : String} {af : Array Edge} : zdw all σ ⟨d, op, ty, pos, af, none⟩ = some true := rfl
theorem zm7 {all : Array Oper} {d : Option Tmp} {op : Op} {ty : TypeId} {pos : String} {af : Array Edge} {j : Nat} {want b : Bool} {t : Tmp} (h : (all[j]?).bind (·.dst) = some t) (hb : lk t e = some (.bool b)) :
  zdw all (treeOf e) ⟨d, op, ty, pos, af, some (j, want)⟩ = some (b == want) := by
 unfold zdw
 simp only [h, zdl, hb]
theorem zvc {all : Array Oper} {d : Option Tmp} {op : Op} {ty : TypeId} {pos : String} {af : Array Edge} {j : Nat} {want : Bool} {t : Tmp} (h : (all[j]?).bind (·.dst) = some t) (hb : lk t e = some (.bool want)) :
  zdw all (treeOf e) ⟨d, op, ty, pos, af, some (j, want)⟩ = some true := by
 rw [zm7 h hb]; simp
theorem zvb {all : Array Oper} {d : Option Tmp} {op : Op} {ty : TypeId} {pos : String} {af : Array Edge} {j : Nat} {want b : Bool} {t : Tmp} (h : (all[j]?).bind (·.dst) = some t) (hb : lk t e = some (.bool b)) (hne : (b == want) = false) :
  zdw all (treeOf e) ⟨d, op, ty, pos, af, some (j, want)⟩ = some false := by
 rw [zm7 h hb, hne]
theorem Ti {all : Array Oper} {d : Option Tmp} {op : Op} {ty : TypeId} {pos : String} {af : Array Edge} {j : Nat} {want : Bool} {t : Tmp} (h : (all[j]?).bind (·.dst) = some t) (hb : lk t e = some (.tuple [])) :
  zdw all (treeOf e) ⟨d, op, ty, pos, af, some (j, want)⟩ = some false := by
 unfold zdw
 simp only [h, zdl, hb]
theorem Kp {all : Array Oper} {d : Option Tmp} {op : Op} {ty : TypeId} {pos : String} {af : Array Edge} {j : Nat} {want c : Bool} {t : Tmp} (h : (all[j]?).bind (·.dst) = some t) (hb : lk t e = some (.bool c)) (hc : c = want) :
  zdw all (treeOf e) ⟨d, op, ty, pos, af, some (j, want)⟩ = some true := by subst hc; exact zvc h hb
theorem Z7 {all : Array Oper} {d : Option Tmp} {op : Op} {ty : TypeId} {pos : String} {af : Array Edge} {j : Nat} {want c : Bool} {t : Tmp} (h : (all[j]?).bind (·.dst) = some t) (hb : lk t e = some (.bool c)) (hc : c = !want) :
  zdw all (treeOf e) ⟨d, op, ty, pos, af, some (j, want)⟩ = some false := by subst hc; exact zvb h hb (by cases want <;> rfl)

/-- Where a result goes. -/
def Zz (d : Option Tmp) (v : SV) (e : Env) : Env := match d with
 | none => e
 | some d => (d, v) :: e
def okD (d : Option Tmp) (n : Nat) : Bool := match d with
 | none => true
 | some d => Nat.ble (Nat.succ d) n
theorem zfb {d : Option Tmp} {n : Nat} {v : SV} (h : okD d n = true) : zgb (treeOf e) n d v = some (treeOf (Zz d v e)) := by
 cases d with
 | none => rfl
 | some d =>
  have h' : Nat.ble (Nat.succ d) n = true := h
  simp only [zgb, h']
  rfl

theorem Run.opM {all : Array Oper} {r : List Oper} {d : Option Tmp} {op : Op} {ty : TypeId} {pos : String} {af : Array Edge} {g : Option (Nat × Bool)} {v : SV} {M' : Mem}
  (hw : zdw all (treeOf e) ⟨d, op, ty, pos, af, g⟩ = some true) (hx : Qy P M (treeOf e) op = .val v M') (hwf : WF M → Aft M M') (hd : okD d n = true)
  (next : Run P fx n Q (Zz d v e) (.ops all r :: k) M') : Run P fx n Q e (.ops all (⟨d, op, ty, pos, af, g⟩ :: r) :: k) M := by
 refine .of_step X7 (σ' := treeOf (Zz d v e)) (k' := .ops all r :: k) (M' := M') ?_ (fun t s h => by rw [← zdl] at h; exact h) next hwf
 show opS Qt P fx.cx n (treeOf e) all ⟨d, op, ty, pos, af, g⟩ r k fx.cs M = _
 rw [znw]
 unfold zsr
 have hx' : exec P M (treeOf e) ⟨d, op, ty, pos, af, g⟩ = .val v M' := hx
 simp only [hw, hx', zfb hd]
theorem Run.opG {all : Array Oper} {r : List Oper} {d : Option Tmp} {op : Op} {ty : TypeId} {pos : String} {af : Array Edge} {g : Option (Nat × Bool)} {v : SV}
  (hw : zdw all (treeOf e) ⟨d, op, ty, pos, af, g⟩ = some true) (hx : Qy P M (treeOf e) op = .val v M) (hd : okD d n = true)
  (next : Run P fx n Q (Zz d v e) (.ops all r :: k) M) : Run P fx n Q e (.ops all (⟨d, op, ty, pos, af, g⟩ :: r) :: k) M := .opM hw hx Aft.refl hd next

/-- What an operation does, whatever else may be. -/
def ExG (P : Program) (M : Mem) (e : Env) (op : Op) (R : SV → Mem → Prop) : Prop := WF M → ∃ v M', Qy P M (treeOf e) op = .val v M' ∧ Aft M M' ∧ R v M'
theorem Run.opX {all : Array Oper} {r : List Oper} {d : Option Tmp} {op : Op} {ty : TypeId} {pos : String} {af : Array Edge} {g : Option (Nat × Bool)} {R : SV → Mem → Prop}
  (hw : zdw all (treeOf e) ⟨d, op, ty, pos, af, g⟩ = some true) (hd : okD d n = true) (hx : ExG P M e op R)
  (next : ∀ v M', R v M' → Run P fx n Q (Zz d v e) (.ops all r :: k) M') : Run P fx n Q e (.ops all (⟨d, op, ty, pos, af, g⟩ :: r) :: k) M := by
 intro hw0
 obtain ⟨v, M', h1, h2, h3⟩ := hx hw0
 exact Run.opM hw h1 (fun _ => h2) hd (next v M' h3) hw0

/-- An operation whose guard says no. -/
theorem Run.no {all : Array Oper} {r : List Oper} {d : Option Tmp} {op : Op} {ty : TypeId} {pos : String} {af : Array Edge} {g : Option (Nat × Bool)}
  (hw : zdw all (treeOf e) ⟨d, op, ty, pos, af, g⟩ = some false) (hd : okD d n = true)
  (next : Run P fx n Q (Zz d (.tuple []) e) (.ops all r :: k) M) : Run P fx n Q e (.ops all (⟨d, op, ty, pos, af, g⟩ :: r) :: k) M := by
 refine .of_step X7 (σ' := treeOf (Zz d (.tuple []) e)) (k' := .ops all r :: k) (M' := M) ?_ (fun t s h => by rw [← zdl] at h; exact h) next
 show opS Qt P fx.cx n (treeOf e) all ⟨d, op, ty, pos, af, g⟩ r k fx.cs M = _
 rw [znw]
 unfold zsr
 simp only [hw, zfb hd]

/- FRAMES THAT COME AND GO -/
def zvm (i : Nat) (e : Env) : List SV → Env
 | [] => e
 | s :: l => zvm (i + 1) ((i, s) :: e) l
theorem zoi : ∀ (l : List SV) (i : Nat) (e : Env), treeOf (zvm i e l) = zlt i (treeOf e) l
 | [], _, _ => rfl
 | s :: l, i, e => zoi l (i + 1) ((i, s) :: e)
theorem ziw {f : FuncId} {F : Func} {c : Code} {xs : List SV} (hF : P.funcs[f]? = some F) (hb : F.body = some c) (hn : Nat.ble xs.length F.ntmps = true) : Xx P f xs = some (.mk ⟨f, [], none⟩ F.ntmps (treeOf (zvm 0 [] xs)) [.code c]) := by
 unfold Xx
 rw [hF]
 simp only [hb, zef, hn, zoi]
 rfl

/-- A call is followed into the function that is called. -/
theorem Run.enter {all : Array Oper} {r : List Oper} {d : Option Tmp} {op : Op} {ty : TypeId} {pos : String} {af : Array Edge} {g : Option (Nat × Bool)} {f : FuncId} {F : Func} {c : Code} {xs : List SV}
  (hw : zdw all (treeOf e) ⟨d, op, ty, pos, af, g⟩ = some true) (hx : Qy P M (treeOf e) op = .enter f xs M) (hF : P.funcs[f]? = some F) (hb : F.body = some c) (hn : Nat.ble xs.length F.ntmps = true)
  (next : Run P ⟨⟨f, [], none⟩, .mk fx.cx n (treeOf e) (.ops all (⟨d, op, ty, pos, af, g⟩ :: r) :: k) :: fx.cs⟩ F.ntmps Q (zvm 0 [] xs) [.code c] M) : Run P fx n Q e (.ops all (⟨d, op, ty, pos, af, g⟩ :: r) :: k) M := by
 refine .of_stepX X7 (f' := .mk ⟨f, [], none⟩ F.ntmps (treeOf (zvm 0 [] xs)) [.code c]) (cs' := .mk fx.cx n (treeOf e) (.ops all (⟨d, op, ty, pos, af, g⟩ :: r) :: k) :: fx.cs) (M1 := M) ?_ Aft.refl (.refl _) (zgo _) next
 show opS Qt P fx.cx n (treeOf e) all ⟨d, op, ty, pos, af, g⟩ r k fx.cs M = _
 rw [znw]
 unfold zsr
 have hx' : exec P M (treeOf e) ⟨d, op, ty, pos, af, g⟩ = .enter f xs M := hx
 simp only [hw, hx', Qt, ziw hF hb hn]

theorem Te : znz M P (treeOf e) [] = some [] := rfl
theorem Tc {t : Tmp} {s : SV} {r : List ResultVar} {l : List SV} (h : lk t e = some s) (hr : znz M P (treeOf e) r = some l) : znz M P (treeOf e) (.tmp t :: r) = some (s :: l) := by
 simp only [znz, zdl, h, hr]
theorem Ze {a : Tmp} {t : TypeId} {p s : SV} {M' : Mem} {r : List ResultVar} {l : List SV} (h : lk a e = some p) (hl : zil P t p M = .val s M') (hr : znz M P (treeOf e) r = some l) : znz M P (treeOf e) (.cell a t :: r) = some (s :: l) := by
 simp only [znz, zdl, h, hl, hr]

section
variable {f : FuncId} {ds : List Pos} {F : Func} {l : List SV} {M1 : Mem}
theorem zql (hF : P.funcs[f]? = some F) (hsh : zkd ds M = some M1) (hres : znz M1 P (treeOf e) F.results.toList = some l) (j : Option Code) (cs : List zdd) : zvo P ⟨f, ds, none⟩ j (treeOf e) cs M = zl4 (zp8 l) cs M1 := by
 unfold zvo
 simp only [hF, hsh, hres]
/-- The last frame returns. -/
theorem Run.ret (hF : P.funcs[f]? = some F) (hsh : zkd ds M = some M1) (hres : znz M1 P (treeOf e) F.results.toList = some l) (hq : Q (zp8 l) M1) : Run P ⟨⟨f, ds, none⟩, []⟩ n Q e (.code .ret :: k) M := by
 refine .of_done X7 ?_ (WF.shut hsh) hq
 exact zql hF hsh hres (some .ret) []
/- A frame returns to one that has called. -/
section
variable {cx' : SCx} {n' : Nat} {e' : Env} {all : Array Oper} {r : List Oper} {d : Option Tmp} {op : Op} {ty : TypeId} {pos : String} {af : Array Edge} {g : Option (Nat × Bool)} {k' : List SItem} {cs' : List zdd}
theorem zmm {v : SV} (hd : okD d n' = true) : zl4 v (.mk cx' n' (treeOf e') (.ops all (⟨d, op, ty, pos, af, g⟩ :: r) :: k') :: cs') M = .go (.mk cx' n' (treeOf (Zz d v e')) (.ops all r :: k')) cs' M := by
 show zji v (.mk cx' n' (treeOf e') (.ops all (⟨d, op, ty, pos, af, g⟩ :: r) :: k') :: cs') M = _
 unfold zji
 simp only [zfb hd]
theorem Run.Wi (hF : P.funcs[f]? = some F) (hsh : zkd ds M = some M1) (hres : znz M1 P (treeOf e) F.results.toList = some l) (hd : okD d n' = true) (next : Run P ⟨cx', cs'⟩ n' Q (Zz d (zp8 l) e') (.ops all r :: k') M1) :
  Run P ⟨⟨f, ds, none⟩, .mk cx' n' (treeOf e') (.ops all (⟨d, op, ty, pos, af, g⟩ :: r) :: k') :: cs'⟩ n Q e (.code .ret :: k) M := by
 refine .of_stepX X7 ?_ (WF.shut hsh) (.refl _) (zgo _) next
 exact (zql hF hsh hres (some .ret) _).trans (zmm hd)
theorem Run.fallTo (hF : P.funcs[f]? = some F) (hsh : zkd ds M = some M1) (hres : znz M1 P (treeOf e) F.results.toList = some l) (hd : okD d n' = true) (next : Run P ⟨cx', cs'⟩ n' Q (Zz d (zp8 l) e') (.ops all r :: k') M1) :
  Run P ⟨⟨f, ds, none⟩, .mk cx' n' (treeOf e') (.ops all (⟨d, op, ty, pos, af, g⟩ :: r) :: k') :: cs'⟩ n Q e [] M := by
 refine .of_stepX X7 ?_ (WF.shut hsh) (.refl _) (zgo _) next
 exact (zql hF hsh hres none _).trans (zmm hd)
/- ROUNDS -/
end
end
end
end Go.Ev

/- What is known of memory, and what operations give: what the run owns is a list of things that lie apart. -/
namespace Go.Ev
open Go.RowKit
variable {P : Program}


/-- A row; one that is only read, here and later. -/
noncomputable def rd (M : Mem) (b : Pos) : Option (List SV) := if b.num < M.next.num then zen M b else none
noncomputable def ro (M : Mem) (b : Pos) : Option (List SV) := if b.num < M.next.num then (match M.t.get b with
 | some (.ro c) => some c
 | some (.fix c) => some c
 | _ => none) else none
theorem zx7 {M : Mem} {b : Pos} {c : List SV} (h : rd M b = some c) : zen M b = some c := by
 unfold rd at h
 split at h
 ·exact h
 ·simp at h
theorem zx9 {M : Mem} {b : Pos} {c : List SV} (h : ro M b = some c) : b.num < M.next.num ∧ (M.t.get b = some (.ro c) ∨ M.t.get b = some (.fix c)) := by
 unfold ro at h
 split at h
 ·rename_i hb
  refine ⟨hb, ?_⟩
  split at h
  ·rename_i x hx; simp only [Option.some.injEq] at h; subst h; exact .inl hx
  ·rename_i x hx; simp only [Option.some.injEq] at h; subst h; exact .inr hx
  ·simp at h
 ·simp at h
theorem zwp {M : Mem} {b : Pos} {c : List SV} (hb : b.num < M.next.num) (h : M.t.get b = some (.ro c) ∨ M.t.get b = some (.fix c)) : ro M b = some c := by
 unfold ro
 rw [if_pos hb]
 rcases h with h | h <;> rw [h]
theorem zyt {M : Mem} {b : Pos} {c : List SV} (hb : b.num < M.next.num) (h : zen M b = some c) : rd M b = some c := by
 unfold rd
 rw [if_pos hb, h]
theorem zwq {M : Mem} {b : Pos} {c : List SV} (h : ro M b = some c) : rd M b = some c := by
 obtain ⟨hb, h⟩ := zx9 h
 refine zyt hb ?_
 unfold zen
 rcases h with h | h <;> rw [h]

/-- What lies under a name, of the call's own. -/
structure Own (M : Mem) (b : Pos) (o : SObj) : Prop where
 get : M.t.get b = some o
 low : M.floor ≤ b.num
 lt : b.num < M.next.num
/-- What is only read stays. -/
def RoK (M M' : Mem) : Prop := (∀ b o, b.num < M.next.num → o.own = false → M.t.get b = some o → M'.t.get b = some o) ∧ M.next.num ≤ M'.next.num
theorem RoK.refl (M : Mem) : RoK M M := ⟨fun _ _ _ _ h => h, Nat.le_refl _⟩
theorem RoK.trans {M1 M2 M3 : Mem} (h : RoK M1 M2) (h' : RoK M2 M3) : RoK M1 M3 := ⟨fun b o hb ho hx => h'.1 b o (Nat.lt_of_lt_of_le hb h.2) ho (h.1 b o hb ho hx), Nat.le_trans h.2 h'.2⟩
theorem RoK.rd {M M' : Mem} (h : RoK M M') : ∀ b c, Go.Ev.ro M b = some c → Go.Ev.ro M' b = some c := by
 intro b c hb
 obtain ⟨hlt, hb⟩ := zx9 hb
 refine zwp (Nat.lt_of_lt_of_le hlt h.2) ?_
 rcases hb with hb | hb
 ·exact .inl (h.1 b _ hlt rfl hb)
 ·exact .inr (h.1 b _ hlt rfl hb)
/-- What was known is zo2 known. -/
structure zoh (M M' : Mem) : Prop where
 rok : RoK M M'
 own : ∀ b o, Own M b o → Own M' b o
theorem zoh.ro {M M'} (h : zoh M M') : ∀ b c, Go.Ev.ro M b = some c → Go.Ev.ro M' b = some c := h.rok.rd
theorem zoh.refl (M : Mem) : zoh M M := ⟨.refl M, fun _ _ h => h⟩
theorem Own.rd {M b t kk c} (h : Own M b (.row t kk c)) : Go.Ev.rd M b = some c := zyt h.lt (zj8 h.get)

/-- An element of a list. -/
def idx {α : Type} (l : List α) (j : Int) : Option α := match j with
 | .ofNat i => l[i]?
 | .negSucc _ => none
theorem zrm {α : Type} {l : List α} {j : Int} {a : α} (h : idx l j = some a) : ∃ i : Nat, j = i ∧ i < l.length ∧ l[i]? = some a := by
 cases j with
 | ofNat i => exact ⟨i, rfl, (List.getElem?_eq_some_iff.1 h).1, h⟩
 | negSucc i => simp [idx] at h

abbrev Rd := Pos → Option (List SV)
def Vt (f g : Rd) : Prop := ∀ b c, f b = some c → g b = some c

/-- A slice of nothing: nil, or what is left behind the last element. -/
def zyg (z : Nat) (s : SV) : Prop := s = .nils ∨ (∃ b o p, s = .opz b o p z) ∨ ∃ a, s = .rawz a
/-- s is a slice (of elements of z cells) that holds l. -/
def Slc {α : Type} (f : Rd) (z : Nat) (R : List SV → α → Prop) (s : SV) (l : List α) : Prop :=
 (zyg z s ∧ l = []) ∨ ∃ b off c, ((∃ cap, l.length ≤ cap ∧ s = .slice b off l.length cap) ∨ s = .ope b off l.length z) ∧ f b = some c ∧ off + l.length * z ≤ c.length ∧ ∀ (i : Nat) (a : α), l[i]? = some a → R ((c.drop (off + i * z)).take z) a
/-- Elements that hold no places. -/
def Ta {α : Type} (enc : α → List SV) (cs : List SV) (a : α) : Prop := cs = enc a
/-- A pointer to cells. -/
def zgi (f : Rd) (s : SV) (cs : List SV) : Prop := ∃ b off c, s = .ptr b off ∧ f b = some c ∧ off + cs.length ≤ c.length ∧ (c.drop off).take cs.length = cs

theorem Slc.mono {α : Type} {f g : Rd} {z : Nat} {R R' : List SV → α → Prop} {s : SV} {l : List α} (h : Slc f z R s l) (hf : Vt f g) (hR : ∀ cs a, R cs a → R' cs a) : Slc g z R' s l := by
 rcases h with h | ⟨b, off, c, h1, h2, h3, h4⟩
 ·exact .inl h
 ·exact .inr ⟨b, off, c, h1, hf b c h2, h3, fun i a ha => hR _ _ (h4 i a ha)⟩
theorem zgi.mono {f g : Rd} {s : SV} {cs : List SV} (h : zgi f s cs) (hf : Vt f g) : zgi g s cs := by
 obtain ⟨b, off, c, h1, h2, h3⟩ := h
 exact ⟨b, off, c, h1, hf b c h2, h3⟩
theorem zxa {M : Mem} {b : Pos} {c : List SV} (h : ro M b = some c) : zen M b = some c := zx7 (zwq h)

theorem zgi.field {f : Rd} {s : SV} {cs ds : List SV} {o : Nat} (h : zgi f s cs) (hd : ds = cs.drop o) (ho : o ≤ cs.length) : ∃ b off, s = .ptr b off ∧ zgi f (.ptr b (off + o)) ds := by
 obtain ⟨b, off, c, h1, h2, h3, h4⟩ := h
 refine ⟨b, off, h1, b, off + o, c, rfl, h2, ?_, ?_⟩
 ·subst hd; simp; omega
 ·subst hd
  rw [← List.drop_drop]
  conv => rhs; rw [← h4]
  rw [List.drop_take]
  simp

section
variable {n : Nat} {e : Env} {M : Mem}

/- WHAT OPERATIONS GIVE -/
theorem Tk {x : Operand} {s : SV} (h : ar e x = some s) : Qy P M (treeOf e) (.move x) = .val s M := by
 show zvz M (treeOf e) x = _
 unfold zvz
 rw [zds h]
theorem G8 {x : Operand} {s : SV} (h : ar e x = some s) : Qy P M (treeOf e) (.assign x) = .val s M := Tk (P := P) h
theorem zfx {op : BinOp} {t u : TypeId} {x y : Operand} {a b : SV} (h : ar e x = some a) (h' : ar e y = some b) : Qy P M (treeOf e) (.binOp op t x y u) = zke P op t (cst x || cst y) a b M := by
 show zza P M (treeOf e) op t x y u = _
 unfold zza
 rw [zds h, zds h']
 first | rfl | done
theorem zfm {op : BinOp} {t : TypeId} {c : Bool} {kk : IntKind} {a b : Int} (h1 : op ≠ .shl) (h2 : op ≠ .shr) : zke P op t c (.int kk a) (.int kk b) M = zdz M (zj0 op kk a b) := by
 have e1 : zg3 kk kk = true := by simp [zg3]
 cases op <;> first | (simp [zke, zo7, zya, e1]; done) | exact absurd rfl h1 | exact absurd rfl h2
variable {t u : TypeId} {x y : Operand} {kk : IntKind} {a b : Int}
theorem Qq (h : ar e x = some (.int kk a)) (h' : ar e y = some (.int kk b)) : Qy P M (treeOf e) (.binOp .add t x y u) = .val (.int kk (kk.wrap (a + b))) M := by
 rw [zfx h h', zfm (by simp) (by simp)]; simp [zj0, zdz, zee]
theorem Vb (h : ar e x = some (.int kk a)) (h' : ar e y = some (.int kk b)) : Qy P M (treeOf e) (.binOp .sub t x y u) = .val (.int kk (kk.wrap (a - b))) M := by
 rw [zfx h h', zfm (by simp) (by simp)]; simp [zj0, zdz, zee]; rfl
theorem ex_mul (h : ar e x = some (.int kk a)) (h' : ar e y = some (.int kk b)) : Qy P M (treeOf e) (.binOp .mul t x y u) = .val (.int kk (kk.wrap (a * b))) M := by
 rw [zfx h h', zfm (by simp) (by simp)]; simp [zj0, zdz, zee]
theorem ex_eql (h : ar e x = some (.int kk a)) (h' : ar e y = some (.int kk b)) : Qy P M (treeOf e) (.binOp .eql t x y u) = .val (.bool (a == b)) M := by
 rw [zfx h h', zfm (by simp) (by simp)]; simp [zj0, zdz, zhn]
theorem Gd (h : ar e x = some (.int kk a)) (h' : ar e y = some (.int kk b)) : Qy P M (treeOf e) (.binOp .neq t x y u) = .val (.bool (!(a == b))) M := by
 rw [zfx h h', zfm (by simp) (by simp)]; simp [zj0, zdz, zhn]
theorem Qz (h : ar e x = some (.int kk a)) (h' : ar e y = some (.int kk b)) : Qy P M (treeOf e) (.binOp .lss t x y u) = .val (.bool (decide (a < b))) M := by
 rw [zfx h h', zfm (by simp) (by simp)]; simp only [zj0, zdz, zga]; congr 2; rw [Bool.eq_iff_iff]; simp
theorem Xy (h : ar e x = some (.int kk a)) (h' : ar e y = some (.int kk b)) : Qy P M (treeOf e) (.binOp .leq t x y u) = .val (.bool (decide (a ≤ b))) M := by
 rw [zfx h h', zfm (by simp) (by simp)]; simp only [zj0, zdz, zga]
theorem Xw (h : ar e x = some (.int kk a)) (h' : ar e y = some (.int kk b)) : Qy P M (treeOf e) (.binOp .gtr t x y u) = .val (.bool (decide (b < a))) M := by
 rw [zfx h h', zfm (by simp) (by simp)]; simp only [zj0, zdz, zga]; congr 2; rw [Bool.eq_iff_iff]; simp
theorem Z5 (h : ar e x = some (.int kk a)) (h' : ar e y = some (.int kk b)) : Qy P M (treeOf e) (.binOp .geq t x y u) = .val (.bool (decide (b ≤ a))) M := by
 rw [zfx h h', zfm (by simp) (by simp)]; simp only [zj0, zdz, zga]
theorem ex_shr {kj : IntKind} {j : Nat} (h : ar e x = some (.int kk a)) (h' : ar e y = some (.int kj (j : Int))) : Qy P M (treeOf e) (.binOp .shr t x y u) = .val (.int kk (a.fdiv (2 ^ (min j kk.bits)))) M := by
 rw [zfx h h']
 have : zke P .shr t (cst x || cst y) (.int kk a) (.int kj (j : Int)) M = zdz M (zjy .shr kk a (j : Int)) := by simp [zke, zo7, zya]
 rw [this]
 have e1 : ze9 (j : Int) = some j := rfl
 simp only [zjy, e1, zdz]
 have : Int.fdiv a (Int.ofNat (Nat.pow 2 (Nat.min j kk.bits))) = a.fdiv (2 ^ (min j kk.bits)) := by
  show a.fdiv ((2 ^ (min j kk.bits) : Nat) : Int) = _
  simp
 rw [this]
theorem Jh {p : Bool} (h : ar e x = some (.bool p)) : Qy P M (treeOf e) (.unOp .not t x) = .val (.bool (!p)) M := by
 show eUn M (treeOf e) .not t x = _
 unfold eUn
 rw [zds h]
 cases p <;> rfl
theorem zrf {z : Operand} {s s' : SV} (hc : ar e x = some (.bool true)) (h : ar e y = some s) (h' : ar e z = some s') : Qy P M (treeOf e) (.pick x y z) = .val s M := by
 show ztq M (treeOf e) x y z = _
 unfold ztq
 rw [zds hc, zds h, zds h']
 rfl
theorem zre {z : Operand} {s s' : SV} (hc : ar e x = some (.bool false)) (h : ar e y = some s) (h' : ar e z = some s') : Qy P M (treeOf e) (.pick x y z) = .val s' M := by
 show ztq M (treeOf e) x y z = _
 unfold ztq
 rw [zds hc, zds h, zds h']
 rfl
theorem Qm {l : List SV} {j : Nat} {s : SV} (h : ar e x = some (.tuple l)) (hl : nth l j = some s) : Qy P M (treeOf e) (.extract x j) = .val s M := by
 show znc M (treeOf e) x j = _
 unfold znc
 rw [zds h]
 show zer j (.tuple l) M = _
 unfold zer
 simp only [hl]
noncomputable def ars (e : Env) : List Operand → Option (List SV)
 | [] => some []
 | x :: l => match ar e x, ars e l with
  | some s, some r => some (s :: r)
  | _, _ => none
theorem zhx : ∀ {l : List Operand} {r : List SV}, ars e l = some r → ∀ M, args M (treeOf e) l = some r
 | [], r, h, M => h
 | x :: l, r, h, M => by
  unfold ars at h
  split at h
  ·rename_i s r' hs hr
   simp only [Option.some.injEq] at h
   subst h
   show Option.rec (motive := fun _ => Option (List SV)) none (fun x => Option.rec none (fun r => some (x :: r)) (args M (treeOf e) l)) (arg M (treeOf e) x) = _
   rw [zds hs, zhx hr M]
  ·simp at h

theorem zf5 {bi : Builtin} {xs : Array Operand} {ts : Array TypeId} {l : List SV} (h : ars e xs.toList = some l) : Qy P M (treeOf e) (.call ⟨.builtin bi, xs, ts⟩) = zeq P bi ts.toList l M := by
 show znb P M (treeOf e) xs ts bi = _
 unfold znb
 rw [zhx h M]
 rfl
theorem Tl {f : FuncId} {xs : Array Operand} {ts : Array TypeId} {l : List SV} (h : ars e xs.toList = some l) (hk : J8 P f = none) (hc : Ts P f = true) : Qy P M (treeOf e) (.call ⟨.value (.func f), xs, ts⟩) = .enter f l M := by
 show zoq P M (treeOf e) xs (.func f) = _
 unfold zoq
 rw [zhx h M]
 show zkc P (.fn (.func f) [] []) l M = _
 unfold zkc
 simp only [hk]
 unfold zt3
 simp only [hc, zev]
 simp

theorem zyp {α : Type} {z : Nat} {R : List SV → α → Prop} {f : Rd} {s : SV} {l : List α} (h : ar e x = some s) (hs : Slc f z R s l) (hk : Vr P t = some .sl) : Qy P M (treeOf e) (.call ⟨.builtin .len, #[x], #[u]⟩) = .val (.int .i64 l.length) M ∨ t ≠ u := by
 by_cases htu : t = u
 ·left
  subst htu
  rw [zf5 (l := [s]) (by show (match ar e x, ars e [] with | some s, some r => some (s :: r) | _, _ => none) = _; rw [h]; rfl)]
  show zoc P t s M = _
  rcases hs with ⟨rfl | ⟨_, _, _, rfl⟩ | ⟨_, rfl⟩, rfl⟩ | ⟨b, off, c, (⟨cap, _, rfl⟩ | rfl), _⟩ <;> simp [zoc, zyb, hk, goI]
 ·exact .inr htu
theorem Q3 {α : Type} {z : Nat} {R : List SV → α → Prop} {f : Rd} {s : SV} {l : List α} (h : ar e x = some s) (hs : Slc f z R s l) (hk : Vr P t = some .sl) : Qy P M (treeOf e) (.call ⟨.builtin .len, #[x], #[t]⟩) = .val (.int .i64 l.length) M :=
 (zyp (u := t) h hs hk).resolve_right (by simp)
theorem Vk {s : List UInt8} (h : ar e x = some (.str s)) (hk : Vr P t = some .str) : Qy P M (treeOf e) (.call ⟨.builtin .len, #[x], #[t]⟩) = .val (.int .i64 s.length) M := by
 rw [zf5 (l := [.str s]) (by show (match ar e x, ars e [] with | some s, some r => some (s :: r) | _, _ => none) = _; rw [h]; rfl)]
 show zoc P t (.str s) M = _
 simp [zoc, zyb, hk, goI, zh2]
theorem ex_min (h : ar e x = some (.int kk a)) (h' : ar e y = some (.int kk b)) {ts : Array TypeId} : Qy P M (treeOf e) (.call ⟨.builtin .min, #[x, y], ts⟩) = .val (.int kk (min a b)) M := by
 rw [zf5 (l := [.int kk a, .int kk b]) (by show (match ar e x, (match ar e y, ars e [] with | some s, some r => some (s :: r) | _, _ => none) with | some s, some r => some (s :: r) | _, _ => none) = _; rw [h, h']; rfl)]
 show zdz M (zx5 kk a [.int kk b]) = _
 simp only [zx5, zga]
 by_cases hab : a ≤ b
 ·simp [hab, zdz, Int.min_eq_left hab]
 ·simp [hab, zdz, Int.min_eq_right (by omega : b ≤ a)]
theorem ex_max (h : ar e x = some (.int kk a)) (h' : ar e y = some (.int kk b)) {ts : Array TypeId} : Qy P M (treeOf e) (.call ⟨.builtin .max, #[x, y], ts⟩) = .val (.int kk (max a b)) M := by
 rw [zf5 (l := [.int kk a, .int kk b]) (by show (match ar e x, (match ar e y, ars e [] with | some s, some r => some (s :: r) | _, _ => none) with | some s, some r => some (s :: r) | _, _ => none) = _; rw [h, h']; rfl)]
 show zdz M (zx4 kk a [.int kk b]) = _
 simp only [zx4, zga]
 by_cases hab : b ≤ a
 ·simp [hab, zdz, Int.max_eq_left hab]
 ·simp [hab, zdz, Int.max_eq_right (by omega : a ≤ b)]

/-- Loads. -/
theorem zxl {f : Rd} {s : SV} {v : SV} (h : ar e x = some s) (hp : zgi f s [v]) (hf : Vt f (zen M)) (hz : Jw P t = some none) : Qy P M (treeOf e) (.load t x) = .val v M := by
 obtain ⟨b, off, c, rfl, h2, h3, h4⟩ := hp
 show zto P M (treeOf e) t x = _
 unfold zto
 rw [zds h]
 show zil P t (.ptr b off) M = _
 unfold zil
 have hn : nth c off = some v := by
  rw [zmq]
  have := congrArg (fun l => l[0]?) h4
  simpa [List.getElem?_take, List.getElem?_drop] using this
 simp only [hf b c h2, hz, hn]
theorem zw1 {f : Rd} {s : SV} {cs : List SV} (h : ar e x = some s) (hp : zgi f s cs) (hf : Vt f (zen M)) (hz : Jw P t = some (some cs.length)) : Qy P M (treeOf e) (.load t x) = .val (.agg cs) M := by
 obtain ⟨b, off, c, rfl, h2, h3, h4⟩ := hp
 show zto P M (treeOf e) t x = _
 unfold zto
 rw [zds h]
 show zil P t (.ptr b off) M = _
 unfold zil
 have hle : Nat.ble (Nat.add off cs.length) (len c) = true := by rw [zef]; exact Nat.ble_eq_true_of_le h3
 simp only [hf b c h2, hz, hle, zh6, zgw, h4]

theorem Own.row {M b t kk c} (h : Own M b (.row t kk c)) : zen M b = some c := zj8 h.get
theorem T5 {f : Rd} : Vt f f := fun _ _ h => h

theorem T4 {j o off : Nat} {b : Pos} (h : ar e x = some (.ptr b off)) (hf : Jy P t j = some o) : Qy P M (treeOf e) (.fieldAddr t x j) = .val (.ptr b (off + o)) M := by
 show zq0 P M (treeOf e) t x j = _
 unfold zq0
 rw [zds h]
 show zf9 P t j (.ptr b off) M = _
 unfold zf9
 simp only [hf]
 rfl

theorem zyo {s : SV} (h : ar e x = some s) : Qy P M (treeOf e) (.box t x) = .val (.ptr (zff M) 0) (zec t .whole M (cellsOf s)) := by
 show zzb M (treeOf e) t x = _
 unfold zzb
 rw [zds h]
 rfl
theorem Jz {l : List SV} (h : Xd P t = some l) : Qy P M (treeOf e) (.alloc t) = .val (.ptr (zff M) 0) (zec t .whole M l) := by
 show zmz P t M = _
 unfold zmz
 simp only [h]
 rfl

end

/-- Values that hold no places. -/
def plain : SV → Bool
 | .bool _ => true
 | .int _ _ => true
 | .str _ => true
 | .nilp => true
 | .nils => true
 | .nilm => true
 | .nilf => true
 | .nili => true
 | .tuple l => plains l
 | .agg l => plains l
 | _ => false
where plains : List SV → Bool
 | [] => true
 | s :: l => plain s && plains l

mutual
theorem zms : ∀ {s : SV}, plain s = true → ∀ m m' : Map, conc m s = conc m' s
 | .bool _, _, _, _ => rfl
 | .int _ _, _, _, _ => rfl
 | .str _, _, _, _ => rfl
 | .nilp, _, _, _ => rfl
 | .nils, _, _, _ => rfl
 | .nilm, _, _, _ => rfl
 | .nilf, _, _, _ => rfl
 | .nili, _, _, _ => rfl
 | .tuple l, h, m, m' => by simp only [conc]; rw [zh3 (l := l) h m m']
 | .agg l, h, m, m' => by simp only [conc]; rw [zh3 (l := l) h m m']
 | .ptr _ _, h, _, _ => by simp [plain] at h
 | .slice _ _ _ _, h, _, _ => by simp [plain] at h
 | .ope _ _ _ _, h, _, _ => by simp [plain] at h
 | .opz _ _ _ _, h, _, _ => by simp [plain] at h
 | .rawz _, h, _, _ => by simp [plain] at h
 | .map _, h, _, _ => by simp [plain] at h
 | .fn _ _ _, h, _, _ => by simp [plain] at h
 | .yield _, h, _, _ => by simp [plain] at h
 | .iface _ _, h, _, _ => by simp [plain] at h
theorem zh3 : ∀ {l : List SV}, plain.plains l = true → ∀ m m' : Map, concs m l = concs m' l
 | [], _, _, _ => rfl
 | s :: l, h, m, m' => by
  simp only [plain.plains, Bool.and_eq_true] at h
  simp only [concs]
  rw [zms h.1 m m', zh3 h.2 m m']
end


/- PLAIN WORDS -/
theorem btf (b : Bool) : b = true ∨ b = false := by cases b <;> simp
def bnd {α β : Type} (x : Option α) (f : α → Option β) : Option β := match x with
 | some a => f a
 | none => none
theorem T8 {α β : Type} {x : Option α} {f : α → Option β} {r : β} (h : bnd x f = some r) : ∃ a, x = some a ∧ f a = some r := by
 cases x with
 | none => simp [bnd] at h
 | some a => exact ⟨a, rfl, h⟩
theorem Tm {α : Type} {b : Bool} {x y : α} {r : α} (hb : b = true) (h : (bif b then x else y) = r) : x = r := by subst hb; exact h
theorem Tn {α : Type} {b : Bool} {x y : α} {r : α} (hb : b = false) (h : (bif b then x else y) = r) : y = r := by subst hb; exact h
abbrev w64 (n : Int) : Int := IntKind.wrap .i64 n
/-- The elements from lo on, before hi. -/
def sub {α : Type} (l : List α) (lo hi : Int) : Option (List α) := match lo, hi with
 | .ofNat a, .ofNat b => bif decide (a ≤ b) && decide (b ≤ l.length) then some ((l.take b).drop a) else none
 | _, _ => none
def mk {α : Type} (n : Int) (bytes : Nat) (z : α) : Option (List α) := match n with
 | .ofNat j => bif Nat.ble j 4611686018427387904 && Nat.ble (j * bytes) 281474976710656 then some (List.replicate j z) else none
 | .negSucc _ => none
theorem zxv {α : Type} {n : Int} {bytes : Nat} {z : α} {l : List α} (h : mk n bytes z = some l) : ∃ j : Nat, n = j ∧ j ≤ 4611686018427387904 ∧ j * bytes ≤ 281474976710656 ∧ l = List.replicate j z := by
 cases n with
 | ofNat j =>
  rcases btf (Nat.ble j 4611686018427387904 && Nat.ble (j * bytes) 281474976710656) with hc | hc
  ·have h' := Tm hc h
   rw [Bool.and_eq_true] at hc
   exact ⟨j, rfl, Nat.le_of_ble_eq_true hc.1, Nat.le_of_ble_eq_true hc.2, (Option.some.inj h').symm⟩
  ·have h' := Tn hc h
   simp at h'
 | negSucc j => simp [mk] at h
def upd {α : Type} (l : List α) (j : Int) (a : α) : Option (List α) := match j with
 | .ofNat i => bif Nat.blt i l.length then some (l.set i a) else none
 | .negSucc _ => none
theorem zs6 {α : Type} {l l' : List α} {j : Int} {a : α} (h : upd l j a = some l') : ∃ i : Nat, j = i ∧ i < l.length ∧ l' = l.set i a := by
 cases j with
 | ofNat i =>
  rcases btf (Nat.blt i l.length) with hc | hc
  ·exact ⟨i, rfl, Nat.le_of_ble_eq_true hc, (Option.some.inj (Tm hc h)).symm⟩
  ·exact absurd (Tn hc h) (by simp)
 | negSucc i => simp [upd] at h
/-- Is j the place of an element? -/
def inn {α : Type} (l : List α) (j : Int) : Option Nat := match j with
 | .ofNat i => bif Nat.blt i l.length then some i else none
 | .negSucc _ => none
theorem zwc {α : Type} {l : List α} {j : Int} {i : Nat} (h : inn l j = some i) : j = i ∧ i < l.length := by
 cases j with
 | ofNat q =>
  rcases btf (Nat.blt q l.length) with hc | hc
  ·have := Option.some.inj (Tm hc h)
   subst this
   exact ⟨rfl, Nat.le_of_ble_eq_true hc⟩
  ·exact absurd (Tn hc h) (by simp)
 | negSucc i => simp [inn] at h
/-- l, and then l'. -/
def apd {α : Type} (bytes : Nat) (l l' : List α) : Option (List α) :=
 bif Nat.ble (l.length + l'.length) 4611686018427387904 && Nat.ble (2 * (l.length + l'.length) * bytes) 281474976710656 then some (l ++ l') else none
theorem zvp {α : Type} {bytes : Nat} {l l' r : List α} (h : apd bytes l l' = some r) : l.length + l'.length ≤ 4611686018427387904 ∧ 2 * (l.length + l'.length) * bytes ≤ 281474976710656 ∧ r = l ++ l' := by
 rcases btf (Nat.ble (l.length + l'.length) 4611686018427387904 && Nat.ble (2 * (l.length + l'.length) * bytes) 281474976710656) with hc | hc
 ·have h' := Tm hc h
  rw [Bool.and_eq_true] at hc
  exact ⟨Nat.le_of_ble_eq_true hc.1, Nat.le_of_ble_eq_true hc.2, (Option.some.inj h').symm⟩
 ·exact absurd (Tn hc h) (by simp)
theorem ze7 {α : Type} {z : Nat} {enc : α → List SV} (hz : ∀ a, (enc a).length = z) : ∀ l : List α, (l.flatMap enc).length = l.length * z
 | [] => by simp
 | a :: l => by simp [hz, ze7 hz l, Nat.succ_mul]; omega
theorem zjk {α : Type} {z : Nat} {enc : α → List SV} (hz : ∀ a, (enc a).length = z) : ∀ (l : List α) (i : Nat) (a : α), l[i]? = some a → ((l.flatMap enc).drop (i * z)).take z = enc a
 | [], i, a, h => by simp at h
 | b :: l, 0, a, h => by
  simp only [List.getElem?_cons_zero, Option.some.injEq] at h
  subst h
  simp [List.flatMap_cons, hz]
 | b :: l, i + 1, a, h => by
  have ih := zjk hz l i a (by simpa using h)
  rw [List.flatMap_cons, Nat.succ_mul, List.drop_append, hz, List.drop_of_length_le (by rw [hz]; omega), List.nil_append, show i * z + z - z = i * z by omega]
  exact ih
theorem zng {α : Type} {z : Nat} {enc : α → List SV} (hz : ∀ a, (enc a).length = z) : ∀ (l : List α) (i : Nat) (a : α), i < l.length → (l.set i a).flatMap enc = (l.flatMap enc).take (i * z) ++ (enc a ++ (l.flatMap enc).drop (i * z + z))
 | [], i, a, h => by simp at h
 | b :: l, 0, a, h => by
  simp only [List.set_cons_zero, List.flatMap_cons, Nat.zero_mul, List.take_zero, List.nil_append, Nat.zero_add]
  rw [List.drop_append, List.drop_of_length_le (by rw [hz]; exact Nat.le_refl _), hz]
  simp
 | b :: l, i + 1, a, h => by
  have ih := zng hz l i a (by simpa using h)
  have e1 : (i + 1) * z = (enc b).length + i * z := by rw [Nat.succ_mul, hz]; omega
  have e2 : (enc b).length + i * z + z = (enc b).length + (i * z + z) := by omega
  simp only [List.set_cons_succ, List.flatMap_cons]
  rw [ih, e1, e2, List.take_length_add_append, List.drop_length_add_append, List.append_assoc]
theorem zny {α : Type} {enc : α → List SV} {zero : List SV} {a : α} (h : zero = enc a) : ∀ n : Nat, rep n zero = (List.replicate n a).flatMap enc
 | 0 => rfl
 | n + 1 => by
  show app zero (rep n zero) = _
  rw [zev, zny h n, List.replicate_succ, List.flatMap_cons, h]

section
variable {n : Nat} {e : Env} {M : Mem}

variable {t u : TypeId} {x y : Operand} {kk : IntKind} {a b : Int}
theorem Tr {z : Operand} {c : Bool} {s s' : SV} (hx : ar e x = some (.bool c)) (hc : c = true) (h : ar e y = some s) (h' : ar e z = some s') : Qy P M (treeOf e) (.pick x y z) = .val s M := by subst hc; exact zrf hx h h'
theorem Tt {z : Operand} {c : Bool} {s s' : SV} (hx : ar e x = some (.bool c)) (hc : c = false) (h : ar e y = some s) (h' : ar e z = some s') : Qy P M (treeOf e) (.pick x y z) = .val s' M := by subst hc; exact zre hx h h'
theorem Zb {y : Operand} {s : SV} (h : ar e y = some s) (M : Mem) : zpv M (treeOf e) (some y) = some (some s) := by
 show (match arg M (treeOf e) y with | some s => some (some s) | none => none : Option (Option SV)) = _
 rw [zds h M]

/-- A new slice, of zeros. -/
theorem zxm {j : Nat} {kk' : IntKind} {el : Elt} (h : ar e x = some (.int kk (j : Int))) (h' : ar e y = some (.int kk' (j : Int))) (hx : Jx P t = some el) (h1 : j ≤ 4611686018427387904) (h2 : j * el.bytes ≤ 281474976710656) :
  Qy P M (treeOf e) (.makeSlice t x y) = .val (.slice (zff M) 0 j j) (zec el.ty (.head 0) M (rep j el.zero)) := by
 show ztp P M (treeOf e) t x y = _
 unfold ztp
 rw [zds h, zds h']
 show zt7 P t (.int kk (j : Int)) (.int kk' (j : Int)) M = _
 unfold zt7
 have e1 : ze9 (j : Int) = some j := rfl
 have e2 : Nat.ble (Nat.mul j el.bytes) 281474976710656 = true := Nat.ble_eq_true_of_le h2
 simp only [e1, hx, Nat.ble_eq_true_of_le (Nat.le_refl j), Nat.ble_eq_true_of_le h1, e2]

noncomputable def zy0 (e : Env) : List (Nat × Operand) → Option (List (Nat × SV))
 | [] => some []
 | (i, x) :: l => match ar e x, zy0 e l with
  | some s, some r => some ((i, s) :: r)
  | _, _ => none
theorem zlo : ∀ {l : List (Nat × Operand)} {r : List (Nat × SV)}, zy0 e l = some r → ∀ M, zek M (treeOf e) l = some r
 | [], r, h, M => h
 | (i, x) :: l, r, h, M => by
  unfold zy0 at h
  split at h
  ·rename_i s r' hs hr
   simp only [Option.some.injEq] at h
   subst h
   simp only [zek, zds hs, zlo hr M]
  ·simp at h
theorem Yk {ps : Array (Nat × Operand)} {l : List (Nat × SV)} {z r : List SV} {pl : List (Nat × Nat)} (h : zy0 e ps.toList = some l) (hz : Xd P t = some z) (hp : Zm P t = some (.st pl)) (hf : Zw (zjt pl) z l = some r) :
  Qy P M (treeOf e) (.build t ps) = .val (.agg r) M := by
 show ztm P M (treeOf e) t ps = _
 unfold ztm
 rw [zlo h M]
 show zkb P t l M = _
 unfold zkb
 simp only [hz, hp, hf]
theorem ziz {ps : Array (Nat × Operand)} {l : List (Nat × SV)} {r : List SV} {j : Nat} {el : Elt} (h : zy0 e ps.toList = some l) (hx : Jx P t = some el) (hj : Nat.ble (j * el.size) 16777216 = true) (hf : Zw (fun i => some (Nat.mul i el.size, el.size)) (rep j el.zero) l = some r) :
  Qy P M (treeOf e) (.buildSlice t j ps) = .val (.slice (zff M) 0 j j) (zec el.ty (.head 0) M r) := by
 show zpz P M (treeOf e) t j ps = _
 unfold zpz
 rw [zlo h M]
 show zfl P t j l M = _
 unfold zfl
 have hj' : Nat.ble (Nat.mul j el.size) 16777216 = true := hj
 simp only [hx, hj', hf]

section
variable {α : Type} {M M' : Mem} {av : List Pos} {tt : TypeId} {z : Nat} {enc : α → List SV} {s : SV} {l : List α}
end

theorem zkq {α : Type} {enc : α → List SV} (h1 : ∀ a, Zn (enc a) = true) : ∀ l : List α, Zn (l.flatMap enc) = true
 | [] => rfl
 | a :: l => by
  have happ : ∀ (p q : List SV), Zn p = true → Zn q = true → Zn (p ++ q) = true := by
   intro p
   induction p with
   | nil => intro q _ h; exact h
   | cons x p ih =>
    intro q hp hq
    have hp' : Bool.rec (motive := fun _ => Bool) false (Zn p) (one x) = true := hp
    show Bool.rec (motive := fun _ => Bool) false (Zn (p ++ q)) (one x) = true
    cases hx : one x with
    | false => rw [hx] at hp'; exact absurd hp' (by simp)
    | true => rw [hx] at hp'; exact ih q hp' hq
  rw [List.flatMap_cons]
  exact happ _ _ (h1 a) (zkq h1 l)

theorem zpl {el : Elt} {s2 : SV} {new : List SV} (hx : appT P t u = some el) (hl : zuk el s2 = some 0) (hn : ze5 M el.size 0 s2 = some new) : zfe P t u .nils s2 M = .val .nils M := by
 unfold zfe
 simp only [hx, hl, hn]
theorem zpm {el : Elt} {s2 : SV} {j : Nat} {new : List SV} (hx : appT P t u = some el) (hl : zuk el s2 = some (j + 1)) (hn : ze5 M el.size (j + 1) s2 = some new) : zfe P t u .nils s2 M = grow (.head 0) M el (j + 1) new := by
 unfold zfe
 simp only [hx, hl, hn]
theorem zpn {el : Elt} {s2 : SV} {off q z : Nat} {bb : Pos} {new old : List SV} {te : TypeId} {rk : RK} (hx : appT P t u = some el) (hl : zuk el s2 = some 0) (hn : ze5 M el.size 0 s2 = some new) (hz : Nat.beq z el.size = true) (ho : zxz M bb = some (te, rk)) (hf : ze5 M el.size q (.ope bb off q z) = some old) :
  zfe P t u (.ope bb off q z) s2 M = .val (.ope bb off q z) M := by
 unfold zfe
 simp only [hx, hl, hn, hz, ho, hf]
theorem zpo {el : Elt} {s2 : SV} {j off q z : Nat} {bb : Pos} {new old : List SV} {te : TypeId} {rk : RK} (hx : appT P t u = some el) (hl : zuk el s2 = some (j + 1)) (hn : ze5 M el.size (j + 1) s2 = some new) (hz : Nat.beq z el.size = true) (ho : zxz M bb = some (te, rk)) (hf : ze5 M el.size q (.ope bb off q z) = some old)
  (h1 : Zn new = true) (h2 : Nat.beq te el.ty = true) (h3 : znk rk (Nat.add off (Nat.mul q el.size)) = true) :
  zfe P t u (.ope bb off q z) s2 M = grow (zmx rk off) (zhm M bb) el (Nat.add q (j + 1)) (app old new) := by
 unfold zfe
 simp only [hx, hl, hn, hz, ho, hf, h1, h2, h3]

end


section
variable {n : Nat} {e : Env} {M : Mem} {all : Array Oper}

/-- Values that are the same as themselves. -/
noncomputable def zia : SV → Bool
 | .fn f a b => zvs f f && (selfs a && selfs b)
 | .iface _ _ => false
 | .agg l => selfs l
 | .tuple l => selfs l
 | _ => true
where selfs : List SV → Bool
 | [] => true
 | s :: l => zia s && selfs l
theorem zju (p : Pos) : p.beq p = true := (Pos.beq_iff p p).2 rfl
mutual
theorem zjh : ∀ {s : SV}, zia s = true → ze8 s s = true
 | .bool _, _ => by simp [ze8]
 | .int _ _, _ => by simp [ze8, zhn, zg3]
 | .str _, _ => by simp [ze8, zfw]
 | .nilp, _ => by simp [ze8]
 | .ptr _ _, _ => by simp [ze8, zju]
 | .nils, _ => by simp [ze8]
 | .slice _ _ _ _, _ => by simp [ze8, zju]
 | .ope _ _ _ _, _ => by simp [ze8, zju]
 | .opz _ _ _ _, _ => by simp [ze8, zju]
 | .rawz _, _ => by simp [ze8]
 | .nilm, _ => by simp [ze8]
 | .map _, _ => by simp [ze8, zju]
 | .nilf, _ => by simp [ze8]
 | .yield _, _ => by simp [ze8, zju]
 | .nili, _ => by simp [ze8]
 | .fn f a b, h => by
  simp only [zia, Bool.and_eq_true] at h
  simp only [ze8, h.1, zg2 (l := a) h.2.1, zg2 (l := b) h.2.2, Bool.and_self]
 | .iface _ _, h => by simp [zia] at h
 | .agg l, h => by simp only [ze8]; exact zg2 (l := l) h
 | .tuple l, h => by simp only [ze8]; exact zg2 (l := l) h
theorem zg2 : ∀ {l : List SV}, zia.selfs l = true → zhf l l = true
 | [], _ => by simp [zhf]
 | s :: l, h => by
  simp only [zia.selfs, Bool.and_eq_true] at h
  simp only [zhf, zjh h.1, zg2 h.2, Bool.and_self]
end
/- Elements. -/
variable {t u : TypeId} {x y : Operand} {kk : IntKind} {a : Int}
theorem zgi.fld {f : Rd} {b : Pos} {off o : Nat} {cs : List SV} (h : zgi f (.ptr b off) cs) (ho : Nat.ble o cs.length = true) : zgi f (.ptr b (off + o)) (cs.drop o) := by
 obtain ⟨b', off', h1, h2⟩ := h.field (o := o) rfl (Nat.le_of_ble_eq_true ho)
 simp only [SV.ptr.injEq] at h1
 obtain ⟨rfl, rfl⟩ := h1
 exact h2
/-- The first cell. -/
theorem Tb {f : Rd} {s v : SV} {cs : List SV} (h : ar e x = some s) (hp : zgi f s (v :: cs)) (hf : Vt f (zen M)) (hz : Jw P t = some none) : Qy P M (treeOf e) (.load t x) = .val v M := by
 obtain ⟨b, off, c, rfl, h2, h3, h4⟩ := hp
 refine zxl (f := f) h ⟨b, off, c, rfl, h2, ?_, ?_⟩ hf hz
 ·simp at h3 ⊢; omega
 ·have := congrArg (List.take 1) h4
  simpa [List.take_take] using this
theorem Tj {f : Rd} {s : SV} {cs ds : List SV} {j : Nat} (h : ar e x = some s) (hp : zgi f s cs) (hf : Vt f (zen M)) (hz : Jw P t = some (some j)) (hj : ds.length = j) (hd : cs.take j = ds) (hl : Nat.ble j cs.length = true) : Qy P M (treeOf e) (.load t x) = .val (.agg ds) M := by
 obtain ⟨b, off, c, rfl, h2, h3, h4⟩ := hp
 have hl' := Nat.le_of_ble_eq_true hl
 subst hj
 refine zw1 (f := f) h ⟨b, off, c, rfl, h2, ?_, ?_⟩ hf hz
 ·omega
 ·have := congrArg (List.take ds.length) h4
  rw [List.take_take, Nat.min_eq_left hl', hd] at this
  exact this
/-- Cells of a row of the call's own, from off on. -/
theorem Own.at {M : Mem} {b : Pos} {t : TypeId} {kk : RK} {c : List SV} (h : Own M b (.row t kk c)) (off : Nat) (hl : Nat.ble off c.length = true) : zgi (zen M) (.ptr b off) (c.drop off) :=
 ⟨b, off, c, rfl, h.row, by have := Nat.le_of_ble_eq_true hl; simp; omega, List.take_of_length_le (Nat.le_refl _)⟩
theorem Own.el {α : Type} {M : Mem} {b : Pos} {t : TypeId} {kk : RK} {l : List α} {z : Nat} {enc : α → List SV} (h : Own M b (.row t kk (l.flatMap enc))) (hz : ∀ a, (enc a).length = z) {i : Nat} {a : α} (ha : l[i]? = some a) : zgi (zen M) (.ptr b (0 + i * z)) (enc a) := by
 have hi := (List.getElem?_eq_some_iff.1 ha).1
 have h1 : (i + 1) * z ≤ l.length * z := Nat.mul_le_mul_right z hi
 refine ⟨b, 0 + i * z, _, rfl, h.row, ?_, ?_⟩
 ·rw [ze7 hz, hz, Nat.zero_add]; rw [Nat.succ_mul] at h1; exact h1
 ·rw [Nat.zero_add, hz]; exact zjk hz l i a ha

theorem Vn {s v : SV} (h : Qy P M (treeOf [(0, s)]) (.load t (.tmp 0)) = .val v M) : zil P t s M = .val v M := h
end
section
variable {n : Nat} {e : Env} {M : Mem} {all : Array Oper} {t u : TypeId} {x y : Operand} {kk : IntKind} {a : Int}

section
variable {α : Type} {z : Nat} {R : List SV → α → Prop} {f : Rd} {s : SV} {l l' : List α} {lo hi : Int} {r : List Oper} {d : Tmp} {ty : TypeId} {pos : String} {af : Array Edge} {g : Option (Nat × Bool)}
end

variable {D : Jg}
section
variable {i : Nat} {op : Op} {ty : TypeId} {pos : String} {af : Array Edge} {g : Option (Nat × Bool)} {dd : Tmp} {s : SV} {L : List Nat} {r : List PE}
end
/- Strings, Booleans, structs. -/
theorem ex_eqlS {p q : List UInt8} (h : ar e x = some (.str p)) (h' : ar e y = some (.str q)) : Qy P M (treeOf e) (.binOp .eql t x y u) = .val (.bool (p == q)) M := by
 rw [zfx h h']
 show zdz M (zqs .eql p q) = _
 simp [zqs, zdz, zfw]
theorem ex_neqS {p q : List UInt8} (h : ar e x = some (.str p)) (h' : ar e y = some (.str q)) : Qy P M (treeOf e) (.binOp .neq t x y u) = .val (.bool (!(p == q))) M := by
 rw [zfx h h']
 show zdz M (zqs .neq p q) = _
 simp [zqs, zdz, zfw]
theorem zze {p q : Bool} (h : ar e x = some (.bool p)) (h' : ar e y = some (.bool q)) (hk : eqK P t = some .bool) : Qy P M (treeOf e) (.binOp .eql t x y u) = .val (.bool (p == q)) M := by
 rw [zfx h h']
 show (match eqS P t (.bool p) (.bool q) with | some r => Out.val (.bool r) M | none => .bad) = _
 unfold eqS
 simp only [hk]
 cases p <;> cases q <;> rfl
theorem ex_neqB {p q : Bool} (h : ar e x = some (.bool p)) (h' : ar e y = some (.bool q)) (hk : eqK P t = some .bool) : Qy P M (treeOf e) (.binOp .neq t x y u) = .val (.bool (!(p == q))) M := by
 rw [zfx h h']
 show (match eqS P t (.bool p) (.bool q) with | some r => Out.val (.bool (Bool.rec true false r)) M | none => .bad) = _
 unfold eqS
 simp only [hk]
 cases p <;> cases q <;> rfl
theorem ex_neqA {p q : List SV} {r : Bool} (h : ar e x = some (.agg p)) (h' : ar e y = some (.agg q)) (hk : aggEq P t = false) (hq : eqA P 12 t (.agg p) (.agg q) = some r) : Qy P M (treeOf e) (.binOp .neq t x y u) = .val (.bool (!r)) M := by
 rw [zfx h h']
 simp only [zke, zo7, hk, hq]
 cases r <;> rfl
theorem eqFs_cons {eq : TypeId → SV → SV → Option Bool} {xs ys : List SV} {f : Field} {l : List Field} {p q : SV} {r r' : Bool} (hn : (f.name == "_") = false) (h1 : zij P f.type xs f.offset = some p) (h2 : zij P f.type ys f.offset = some q) (he : eq f.type p q = some r) (hl : ztv P eq xs ys l = some r') : ztv P eq xs ys (f :: l) = some (r && r') := by
 unfold ztv
 simp only [hn, h1, h2, he]
 cases r
 ·rfl
 ·exact hl
theorem eqFs_nil {eq : TypeId → SV → SV → Option Bool} {xs ys : List SV} : ztv P eq xs ys [] = some true := rfl
theorem eqA_int {d : Nat} {kk : IntKind} {p q : Int} (h : aggK P t = some .int) : eqA P (d + 1) t (.int kk p) (.int kk q) = some (p == q) := by
 have e1 : zg3 kk kk = true := by simp [zg3]
 unfold eqA
 simp only [h, e1, zhn]
theorem eqA_st {d : Nat} {xs ys : List SV} {fs : List Field} {r : Bool} (h : aggK P t = some (.st fs)) (he : ztv P (eqA P d) xs ys fs = some r) : eqA P (d + 1) t (.agg xs) (.agg ys) = some r := by
 unfold eqA
 simp only [h, he]
theorem Zk {l : List SV} {off : Nat} {s : SV} (h : Jw P t = some none) (hs : nth l off = some s) : zij P t l off = some s := by
 unfold zij
 simp only [h, hs]

section
variable {s : SV}
end
theorem G2 {α : Type} {f : Rd} {z : Nat} {R : List SV → α → Prop} {s : SV} {l : List α} (h : Slc f z R s l) : zia s = true := by
 rcases h with ⟨rfl | ⟨_, _, _, rfl⟩ | ⟨_, rfl⟩, _⟩ | ⟨b, off, c, ⟨cap, _, rfl⟩ | rfl, _⟩ <;> rfl
theorem Wb : zia.selfs [] = true := rfl
theorem G0 {s : SV} {l : List SV} (h : zia s = true) (h' : zia.selfs l = true) : zia.selfs (s :: l) = true := by
 simp only [zia.selfs, h, h', Bool.and_self]
theorem W8 {l : List SV} (h : zia.selfs l = true) : zia (.agg l) = true := h
end

section
variable {α β : Type} {M M' : Mem} {av av' av2 av2' : List Pos} {tt tt2 : TypeId} {z z2 : Nat} {enc : α → List SV} {enc2 : β → List SV} {s s' s2 : SV} {l l' : List α} {l2 : List β}
end

section
variable {n : Nat} {e : Env} {M : Mem} {all : Array Oper}

section
variable {op : Op} {ty : TypeId} {pos : String} {af : Array Edge} {g : Option (Nat × Bool)} {dd : Tmp} {s : SV} {r tl : List Oper}
end
end

/-- and, or, xor of numbers that are not negative. -/
def top (k : IntKind) : Nat := match k with
 | .i8 => 127 | .i16 => 32767 | .i32 => 2147483647 | .i64 => 9223372036854775807 | .u8 => 255 | .u16 => 65535 | .u32 => 4294967295 | .u64 => 18446744073709551615
theorem zxd (k : IntKind) : zgt k = top k := by cases k <;> rfl
def bitZ (f : Nat → Nat → Nat) (k : IntKind) (a b : Int) : Option Int := match a, b with
 | .ofNat x, .ofNat y => bif Nat.ble x (top k) && Nat.ble y (top k) then some (k.wrap (f x y : Nat)) else none
 | _, _ => none
theorem ztd {f : Nat → Nat → Nat} {k : IntKind} {a b r : Int} (h : bitZ f k a b = some r) : ∃ x y : Nat, a = x ∧ b = y ∧ x ≤ top k ∧ y ≤ top k ∧ r = k.wrap (f x y : Nat) := by
 unfold bitZ at h
 split at h
 ·rename_i x y
  rcases btf (Nat.ble x (top k) && Nat.ble y (top k)) with hc | hc
  ·rw [hc] at h
   rw [Bool.and_eq_true] at hc
   exact ⟨x, y, rfl, rfl, Nat.le_of_ble_eq_true hc.1, Nat.le_of_ble_eq_true hc.2, (Option.some.inj h).symm⟩
  ·rw [hc] at h; simp at h
 ·simp at h
/-- A byte of a string. -/
def sAt (l : List UInt8) (j : Int) : Option Int := match j with
 | .ofNat i => (l[i]?).map fun c => (c.toNat : Int)
 | .negSucc _ => none
section
variable {e : Env} {M : Mem} {t u : TypeId} {x y : Operand} {kk : IntKind} {a b r : Int}
theorem ex_and (h : ar e x = some (.int kk a)) (h' : ar e y = some (.int kk b)) (hb : bitZ Nat.land kk a b = some r) : Qy P M (treeOf e) (.binOp .and t x y u) = .val (.int kk r) M := by
 obtain ⟨p, q, rfl, rfl, hp, hq, rfl⟩ := ztd hb
 rw [zfx h h', zfm (by simp) (by simp)]
 have e1 : ze9 (p : Int) = some p := rfl
 have e2 : ze9 (q : Int) = some q := rfl
 have e3 : Nat.ble p (zgt kk) = true := Nat.ble_eq_true_of_le (by rw [zxd]; exact hp)
 have e4 : Nat.ble q (zgt kk) = true := Nat.ble_eq_true_of_le (by rw [zxd]; exact hq)
 simp only [zj0, e1, e2, e3, e4, zdz, zee]
 rfl
theorem ex_conv {s d : TypeId} {k : IntKind} (h : ar e x = some (.int kk a)) (hu : uvK P s d = none) (hc : cvK P s d = some (.int k)) : Qy P M (treeOf e) (.convert s d x) = .val (.int k (k.wrap a)) M := by
 show ztn P M (treeOf e) s d x = _
 unfold ztn
 rw [zds h]
 show zey P s d (.int kk a) M = _
 unfold zey
 simp only [hu, zh7, hc, zee]
theorem ex_sAt {l : List UInt8} (h : ar e x = some (.str l)) (h' : ar e y = some (.int kk a)) (hw : whole P t = some .str) (hr : sAt l a = some r) : Qy P M (treeOf e) (.index t x y) = .val (.int .u8 r) M := by
 show zop P M (treeOf e) t x y = _
 unfold zop
 rw [zds h, zds h']
 show zid P t (.str l) (.int kk a) M = _
 unfold sAt at hr
 split at hr
 ·rename_i i
  rw [Option.map_eq_some_iff] at hr
  obtain ⟨c, hc, rfl⟩ := hr
  have e1 : ze9 (Int.ofNat i) = some i := rfl
  simp only [zid, hw, e1, zky, hc]
  rfl
 ·simp at hr

theorem ex_pickB {z : Operand} {p q r : Bool} (hc : ar e x = some (.bool p)) (h : ar e y = some (.bool q)) (h' : ar e z = some (.bool r)) : Qy P M (treeOf e) (.pick x y z) = .val (.bool (bif p then q else r)) M := by
 cases p with
 | true => exact zrf hc h h'
 | false => exact zre hc h h'
end

section
variable {α β : Type} {M M' Me : Mem} {av av2 : List Pos} {tt tt2 : TypeId} {z z2 : Nat} {enc : α → List SV} {enc2 : β → List SV} {s s2 q : SV} {l : List α} {l2 : List β}

theorem zig {enc : α → List SV} (hz : ∀ a, (enc a).length = z) {c : List SV} : ∀ (l : List α) (off : Nat), off + l.length * z ≤ c.length → (∀ (i : Nat) (a : α), l[i]? = some a → (c.drop (off + i * z)).take z = enc a) → (c.drop off).take (l.length * z) = l.flatMap enc
 | [], off, _, _ => by simp
 | a :: l, off, hle, h => by
  have h0 := h 0 a rfl
  rw [Nat.zero_mul, Nat.add_zero] at h0
  have hl : (a :: l).length * z = z + l.length * z := by rw [List.length_cons, Nat.succ_mul]; omega
  rw [hl] at hle
  have hle' : off + z + l.length * z ≤ c.length := by omega
  have ih := zig hz l (off + z) hle' fun i b hb => by
   have := h (i + 1) b (by simpa using hb)
   rw [Nat.succ_mul] at this
   rw [show off + z + i * z = off + (i * z + z) by omega]
   exact this
  rw [hl, List.take_add, h0, List.drop_drop, ih]
  rfl
theorem Zi {f : Rd} (h : Slc f z (Ta enc) s l) (hf : Vt f (zen M)) (hz : ∀ a, (enc a).length = z) : ze5 M z l.length s = some (l.flatMap enc) := by
 rcases h with ⟨rfl | ⟨_, _, _, rfl⟩ | ⟨_, rfl⟩, rfl⟩ | ⟨b, off, c, hs, hc, hle, hel⟩
 ·rfl
 ·rfl
 ·rfl
 ·have hr := hf b c hc
  have hb : Nat.ble (Nat.add off (Nat.mul l.length z)) (len c) = true := by
   rw [zef]
   exact Nat.ble_eq_true_of_le hle
  have hb' : Nat.ble (Nat.add off (l.length * z)) (len c) = true := hb
  have hfl := zig (enc := enc) hz l off hle fun i a ha => hel i a ha
  rcases hs with ⟨cap, _, rfl⟩ | rfl
  ·unfold ze5
   simp only [hr, zh6, zgw, Nat.mul_eq, hb', hfl]
  ·unfold ze5
   simp only [hr, zh6, zgw, Nat.mul_eq, hb', hfl]
theorem V9 {f : Rd} {R : List SV → α → Prop} {x : Elt} (h : Slc f z R s l) : zuk x s = some l.length := by
 rcases h with ⟨rfl | ⟨_, _, _, rfl⟩ | ⟨_, rfl⟩, rfl⟩ | ⟨b, off, c, hs, _⟩
 ·rfl
 ·rfl
 ·rfl
 ·rcases hs with ⟨cap, _, rfl⟩ | rfl <;> rfl

end

/- WHAT THE RUN OWNS -/
/-- The row that a slice lies in. -/
def blk : SV → List Pos
 | .slice b _ _ _ => [b]
 | .ope b _ _ _ => [b]
 | .opz b _ _ _ => [b]
 | _ => []
/-- Something under a name; a slice that the run owns, from its block's beginning to where its room may end: of which type, of how many cells an element is, how many, the slice, its cells. -/
inductive Ent where
 | obj (b : Pos) (o : SObj)
 | vec (tt z n : Nat) (s : SV) (c : List SV)
 | fixd (b : Pos) (c : List SV)
def Ent.fp : Ent → List Pos
 | .obj b _ => [b]
 | .vec _ _ _ s _ => blk s
 | .fixd _ _ => []
def Ent.ok (M : Mem) : Ent → Prop
 | .obj b o => Own M b o ∧ o.own = true
 | .vec tt z n s c => (s = .nils ∧ n = 0 ∧ c = []) ∨ ∃ b, (s = .slice b 0 n n ∨ s = .ope b 0 n z) ∧ c.length = n * z ∧ Own M b (.row tt (.head 0) c)
 | .fixd b c => M.t.get b = some (.fix c) ∧ b.num < M.next.num
structure Has (F : Rd) (M : Mem) (H : List Ent) : Prop where
 base : Vt F (ro M)
 ok : ∀ x ∈ H, x.ok M
 nd : (H.flatMap Ent.fp).Nodup
section
variable {F F' : Rd} {M M' : Mem} {H : List Ent} {x y : Ent}
theorem Ent.ok_keep {S : List Pos} (hro : RoK M M') (hk : ∀ b o, b ∉ S → Own M b o → Own M' b o) (hd : ∀ b ∈ x.fp, b ∉ S) (h : x.ok M) : x.ok M' := by
 cases x with
 | obj b o => exact ⟨hk b o (hd b (by simp [Ent.fp])) h.1, h.2⟩
 | vec tt z n s c =>
  rcases h with h | ⟨b, hs, hc, ho⟩
  ·exact .inl h
  ·refine .inr ⟨b, hs, hc, hk b _ (hd b ?_) ho⟩
   rcases hs with rfl | rfl <;> simp [Ent.fp, blk]
 | fixd b c => exact ⟨hro.1 b _ h.2 rfl h.1, Nat.lt_of_lt_of_le h.2 hro.2⟩
theorem Ent.lt (h : x.ok M) : ∀ b ∈ x.fp, b.num < M.next.num := by
 intro b hb
 cases x with
 | obj c o =>
  simp only [Ent.fp, List.mem_cons, List.not_mem_nil, or_false] at hb
  subst hb
  exact h.1.lt
 | vec tt z n s c =>
  rcases h with ⟨rfl, _⟩ | ⟨c, hs, _, ho⟩
  ·simp [Ent.fp, blk] at hb
  ·rcases hs with rfl | rfl <;> (simp only [Ent.fp, blk, List.mem_cons, List.not_mem_nil, or_false] at hb; subst hb; exact ho.lt)
 | fixd c r => simp [Ent.fp] at hb
theorem Ent.fp_nd : x.fp.Nodup := by
 cases x with
 | obj b o => simp [Ent.fp]
 | vec tt z n s c => cases s <;> simp [Ent.fp, blk]
 | fixd b c => simp [Ent.fp]
theorem Has.nil (M : Mem) : Has (ro M) M [] := ⟨fun _ _ h => h, fun x h => by simp at h, by simp⟩
theorem Has.get (h : Has F M H) {i : Nat} (hi : H[i]? = some x) : x.ok M := h.ok x (List.mem_of_getElem? hi)
theorem Has.upF (h : Has F M H) (hf : Vt F' (ro M)) : Has F' M H := ⟨hf, h.ok, h.nd⟩
theorem Has.mem (h : Has F M H) (hM : zoh M M') : Has F M' H :=
 ⟨fun b c hb => hM.ro b c (h.base b c hb), fun x hx => Ent.ok_keep (S := []) hM.rok (fun b o _ ho => hM.own b o ho) (fun _ _ hb => by simp at hb) (h.ok x hx), h.nd⟩
/-- Another one in the place of one. -/
theorem Has.upd (h : Has F M H) {i : Nat} (hi : H[i]? = some x) (hro : RoK M M') (hk : ∀ b o, b ∉ x.fp → Own M b o → Own M' b o) (hy : y.ok M') (hfp : ∀ b ∈ y.fp, b ∈ x.fp ∨ M.next.num ≤ b.num) : Has F M' (H.set i y) := by
 obtain ⟨hlt, hx⟩ := List.getElem?_eq_some_iff.1 hi
 have hH : H = H.take i ++ x :: H.drop (i + 1) := by
  conv => lhs; rw [← List.take_append_drop i H, List.drop_eq_getElem_cons hlt, hx]
 have hS : H.set i y = H.take i ++ y :: H.drop (i + 1) := List.set_eq_take_append_cons_drop.trans (if_pos hlt)
 generalize H.take i = A at hH hS
 generalize H.drop (i + 1) = C at hH hS
 have hn := h.nd
 have ho := h.ok
 rw [hH] at hn ho
 rw [List.flatMap_append, List.flatMap_cons, List.nodup_append, List.nodup_append] at hn
 obtain ⟨n1, ⟨n2, n3, n4⟩, n5⟩ := hn
 have key : ∀ z ∈ A ++ C, ∀ b ∈ z.fp, b ∉ x.fp := by
  intro z hz b hb hbx
  rcases List.mem_append.1 hz with hz | hz
  ·exact n5 b (List.mem_flatMap.2 ⟨z, hz, hb⟩) b (List.mem_append.2 (.inl hbx)) rfl
  ·exact n4 b hbx b (List.mem_flatMap.2 ⟨z, hz, hb⟩) rfl
 have okz : ∀ z ∈ A ++ C, z.ok M := fun z hz => by
  rcases List.mem_append.1 hz with hz | hz
  ·exact ho z (List.mem_append.2 (.inl hz))
  ·exact ho z (List.mem_append.2 (.inr (List.mem_cons_of_mem _ hz)))
 have d : ∀ z ∈ A ++ C, ∀ b ∈ z.fp, b ∉ y.fp := by
  intro z hz b hb hby
  rcases hfp b hby with h' | h'
  ·exact key z hz b hb h'
  ·have := Ent.lt (okz z hz) b hb
   omega
 rw [hS]
 refine ⟨fun b c hb => hro.rd b c (h.base b c hb), fun z hz => ?_, ?_⟩
 ·rcases List.mem_append.1 hz with hz | hz
  ·exact Ent.ok_keep hro hk (key z (List.mem_append.2 (.inl hz))) (okz z (List.mem_append.2 (.inl hz)))
  ·rcases List.mem_cons.1 hz with rfl | hz
   ·exact hy
   ·exact Ent.ok_keep hro hk (key z (List.mem_append.2 (.inr hz))) (okz z (List.mem_append.2 (.inr hz)))
 ·rw [List.flatMap_append, List.flatMap_cons, List.nodup_append, List.nodup_append]
  refine ⟨n1, ⟨Ent.fp_nd, n3, ?_⟩, ?_⟩
  ·rintro b hb _ hc rfl
   obtain ⟨z, hz, hbz⟩ := List.mem_flatMap.1 hc
   exact d z (List.mem_append.2 (.inr hz)) b hbz hb
  ·rintro b hb c hc rfl
   obtain ⟨z, hz, hbz⟩ := List.mem_flatMap.1 hb
   rcases List.mem_append.1 hc with hc | hc
   ·exact d z (List.mem_append.2 (.inl hz)) b hbz hc
   ·exact n5 b hb b (List.mem_append.2 (.inr hc)) rfl
/-- A new one. -/
theorem Has.cons (h : Has F M H) (hM : zoh M M') (hy : y.ok M') (hfp : ∀ b ∈ y.fp, M.next.num ≤ b.num) : Has F M' (y :: H) := by
 have h' := h.mem hM
 refine ⟨h'.base, fun z hz => ?_, ?_⟩
 ·rcases List.mem_cons.1 hz with rfl | hz
  ·exact hy
  ·exact h'.ok z hz
 ·rw [List.flatMap_cons, List.nodup_append]
  refine ⟨Ent.fp_nd, h.nd, ?_⟩
  rintro b hb c hc rfl
  obtain ⟨z, hz, hbz⟩ := List.mem_flatMap.1 hc
  have := Ent.lt (h.ok z hz) b hbz
  have := hfp b hb
  omega
theorem Has.nils (h : Has F M H) (tt z : Nat) : Has F M (.vec tt z 0 .nils [] :: H) := h.cons (.refl M) (.inl ⟨rfl, rfl, rfl⟩) (fun b hb => by simp [Ent.fp, blk] at hb)
/-- Some of them, in another order. -/
def znx : List Nat → List Ent → List Ent
 | [], _ => []
 | i :: l, H => match H[i]? with
  | some x => x :: znx l H
  | none => znx l H
def zwh (i : Nat) : List Nat → Bool
 | [] => true
 | j :: l => !Nat.beq i j && zwh i l
def zrs : List Nat → Bool
 | [] => true
 | i :: l => zwh i l && zrs l
theorem zp7 {i : Nat} : ∀ {l : List Nat}, zwh i l = true → i ∉ l
 | [], _ => by simp
 | j :: l, h => by
  simp only [zwh, Bool.and_eq_true, Bool.not_eq_true'] at h
  intro hm
  rcases List.mem_cons.1 hm with rfl | hm
  ·rw [Nat.beq_refl] at h; exact absurd h.1 (by simp)
  ·exact zp7 h.2 hm
theorem zhq {z : Ent} : ∀ {l : List Nat}, z ∈ znx l H → ∃ j ∈ l, H[j]? = some z
 | [], h => by simp [znx] at h
 | i :: l, h => by
  unfold znx at h
  split at h
  ·rename_i x hx
   rcases List.mem_cons.1 h with rfl | h
   ·exact ⟨i, by simp, hx⟩
   ·obtain ⟨j, hj, hz⟩ := zhq h
    exact ⟨j, List.mem_cons_of_mem _ hj, hz⟩
  ·obtain ⟨j, hj, hz⟩ := zhq h
   exact ⟨j, List.mem_cons_of_mem _ hj, hz⟩
theorem zri : ∀ {H : List Ent}, (H.flatMap Ent.fp).Nodup → ∀ {i j : Nat} {x y : Ent}, H[i]? = some x → H[j]? = some y → i ≠ j → ∀ b ∈ x.fp, b ∉ y.fp
 | [], _, i, j, x, y, hi, _, _, _, _ => by simp at hi
 | z :: H, hn, i, j, x, y, hi, hj, hne, b, hb => by
  rw [List.flatMap_cons, List.nodup_append] at hn
  intro hby
  cases i with
  | zero =>
   cases j with
   | zero => exact hne rfl
   | succ j =>
    simp only [List.getElem?_cons_zero, Option.some.injEq] at hi
    subst hi
    exact hn.2.2 b hb b (List.mem_flatMap.2 ⟨y, List.mem_of_getElem? (by simpa using hj), hby⟩) rfl
  | succ i =>
   cases j with
   | zero =>
    simp only [List.getElem?_cons_zero, Option.some.injEq] at hj
    subst hj
    exact hn.2.2 b hby b (List.mem_flatMap.2 ⟨x, List.mem_of_getElem? (by simpa using hi), hb⟩) rfl
   | succ j => exact zri hn.2.1 (by simpa using hi) (by simpa using hj) (by omega) b hb hby
theorem Has.pick (h : Has F M H) (l : List Nat) (hl : zrs l = true) {H' : List Ent} (he : znx l H = H') : Has F M H' := by
 subst he
 refine ⟨h.base, fun z hz => ?_, ?_⟩
 ·obtain ⟨j, _, hj⟩ := zhq hz
  exact h.get hj
 ·induction l with
  | nil => simp [znx]
  | cons i l ih =>
   simp only [zrs, Bool.and_eq_true] at hl
   unfold znx
   split
   ·rename_i x hx
    rw [List.flatMap_cons, List.nodup_append]
    refine ⟨Ent.fp_nd, ih hl.2, ?_⟩
    rintro b hb c hc rfl
    obtain ⟨z, hz, hbz⟩ := List.mem_flatMap.1 hc
    obtain ⟨j, hj, hzj⟩ := zhq hz
    exact zri h.nd hx hzj (fun e => zp7 hl.1 (e ▸ hj)) b hb hbz
   ·exact ih hl.2

/- OPERATIONS ON WHAT IS OWNED -/
variable {e : Env} {t u : TypeId} {p q : Operand} {op : Op}
theorem WF.memLe_new (h : WF M) (o : SObj) : zoh M ⟨M.t.put (some o) M.next, M.next.succ, M.floor⟩ := by
 have hne : ∀ b x, M.t.get b = some x → M.next ≠ b := by
  intro b x hx he
  have := h.fresh hx
  rw [← he] at this
  omega
 have hlt : ∀ b : Pos, b.num < M.next.num → b.num < M.next.succ.num := by intro b h; rw [Pos.num_succ]; omega
 refine ⟨⟨fun b o' _ _ h => ?_, by show M.next.num ≤ M.next.succ.num; rw [Pos.num_succ]; omega⟩, fun b o h => ⟨?_, h.low, hlt b h.lt⟩⟩
 ·show Tree.get b (M.t.put _ _) = _
  rw [Tree.get_put_other _ _ (hne b _ h)]; exact h
 ·show Tree.get b (M.t.put _ _) = _
  rw [Tree.get_put_other _ _ (hne b _ h.get)]
  exact h.get
theorem WF.own_new (h : WF M) (o : SObj) : Own ⟨M.t.put (some o) M.next, M.next.succ, M.floor⟩ M.next o :=
 ⟨Tree.get_put_same _ _ _, h.2, by show M.next.num < M.next.succ.num; rw [Pos.num_succ]; omega⟩
theorem Has.newObj (h : Has F M H) (hw : WF M) {o : SObj} (ho : o.own = true) : Has F ⟨M.t.put (some o) M.next, M.next.succ, M.floor⟩ (.obj M.next o :: H) :=
 h.cons (hw.memLe_new o) ⟨hw.own_new o, ho⟩ (fun b hb => by simp only [Ent.fp, List.mem_cons, List.not_mem_nil, or_false] at hb; subst hb; exact Nat.le_refl _)
/-- Another object under a name. -/
theorem zka {b : Pos} {o : SObj} {o' : Option SObj} (ho : Own M b o) (hown : o.own = true) : RoK M ⟨M.t.put o' b, M.next, M.floor⟩ := by
 refine ⟨fun c r _ hr hc => ?_, Nat.le_refl _⟩
 have hne : b ≠ c := by
  intro he
  subst he
  rw [ho.get] at hc
  simp only [Option.some.injEq] at hc
  subst hc
  rw [hown] at hr
  exact absurd hr (by simp)
 show Tree.get c (M.t.put _ _) = _
 rw [Tree.get_put_other _ _ hne]
 exact hc
theorem zgd {b : Pos} {o' : Option SObj} : ∀ c o, c ∉ [b] → Own M c o → Own ⟨M.t.put o' b, M.next, M.floor⟩ c o := by
 intro c o hc h
 refine ⟨?_, h.low, h.lt⟩
 show Tree.get c (M.t.put _ _) = _
 rw [Tree.get_put_other _ _ (fun he => hc (by simp [he]))]
 exact h.get
theorem WF.put (hw : WF M) {b : Pos} {o : Option SObj} (hl : M.floor ≤ b.num) (hb : b.num < M.next.num) : Aft M ⟨M.t.put o b, M.next, M.floor⟩ := ⟨hw.set o hb, rfl, Nat.le_refl _, fun c hc => Tree.get_put_other _ _ (fun e => by subst e; omega)⟩
theorem Has.putObj (h : Has F M H) {i : Nat} {b : Pos} {o o' : SObj} (hi : H[i]? = some (.obj b o)) (ho' : o'.own = true) : Has F ⟨M.t.put (some o') b, M.next, M.floor⟩ (H.set i (.obj b o')) := by
 have hx := h.get hi
 exact h.upd hi (zka hx.1 hx.2) zgd ⟨⟨Tree.get_put_same _ _ _, hx.1.low, hx.1.lt⟩, ho'⟩ (fun c hc => .inl hc)

theorem ExG.new {tt : TypeId} {kk : RK} {v : Pos → SV} {c : List SV} (hx : Qy P M (treeOf e) op = .val (v (zff M)) (zec tt kk M c)) (hH : Has F M H) : ExG P M e op fun s M' => ∃ b, s = v b ∧ Has F M' (.obj b (.row tt kk c) :: H) := by
 intro hw
 have hnr : zec tt kk M c = ⟨M.t.put (some (.row tt kk c)) M.next, M.next.succ, M.floor⟩ := by cases M; rfl
 rw [hnr, zew] at hx
 exact ⟨_, _, hx, hw.anew _, M.next, rfl, hH.newObj hw rfl⟩
theorem ExG.newVec {tt : TypeId} {n z : Nat} {c : List SV} (hx : Qy P M (treeOf e) op = .val (.slice (zff M) 0 n n) (zec tt (.head 0) M c)) (hc : c.length = n * z) (hH : Has F M H) : ExG P M e op fun s M' => Has F M' (.vec tt z n s c :: H) := by
 intro hw
 have hnr : zec tt (.head 0) M c = ⟨M.t.put (some (.row tt (.head 0) c)) M.next, M.next.succ, M.floor⟩ := by cases M; rfl
 rw [hnr, zew] at hx
 refine ⟨_, _, hx, hw.anew _, hH.cons (hw.memLe_new _) (.inr ⟨M.next, .inl rfl, hc, hw.own_new _⟩) fun b hb => ?_⟩
 simp only [Ent.fp, blk, List.mem_cons, List.not_mem_nil, or_false] at hb
 subst hb
 exact Nat.le_refl _
theorem zfr {bb : Pos} {off zz : Nat} {tt : TypeId} {rk : RK} {c c' l : List SV} (ho : Own M bb (.row tt rk c)) (hl : l.length = zz) (hk : znk rk off = true) (hle : off + zz ≤ c.length) (h1 : Zn l = true) (hc : c' = c.take off ++ (l ++ c.drop (off + zz))) : putCells M bb off l = some ⟨M.t.put (some (.row tt rk c')) bb, M.next, M.floor⟩ := by
 unfold putCells
 have ha : above M bb = true := Nat.ble_eq_true_of_le ho.low
 have hb : Nat.ble (Nat.add off zz) c.length = true := Nat.ble_eq_true_of_le hle
 simp only [ho.get, ha, hk, h1, zev, zh6, zgw, zef, hl, hc, hb]
 rfl
theorem zm1 {bb : Pos} {off zz : Nat} {s : SV} {M1 : Mem} (h : ar e p = some (.ptr bb off)) (h' : ar e q = some s) (hz : Zx P t = some zz) (hl : (cellsOf s).length = zz) (hput : putCells M bb off (cellsOf s) = some M1) : Qy P M (treeOf e) (.store t p q) = .val (.tuple []) M1 := by
 show zts P M (treeOf e) t p q = _
 unfold zts
 rw [zds h, zds h']
 show zn6 P t (.ptr bb off) s M = _
 unfold zn6
 have hb : Nat.beq (len (cellsOf s)) zz = true := by rw [zef, hl]; exact Nat.beq_refl zz
 simp only [hz, hb, hput]
/-- A store into a row. -/
theorem ExG.store {i : Nat} {bb : Pos} {off zz : Nat} {s : SV} {tt : TypeId} {rk : RK} {c c' : List SV} (h : ar e p = some (.ptr bb off)) (h' : ar e q = some s) (hH : Has F M H) (hi : H[i]? = some (.obj bb (.row tt rk c))) (hz : Zx P t = some zz) (hl : (cellsOf s).length = zz) (hk : znk rk off = true) (hle : Nat.ble (off + zz) c.length = true) (h1 : Zn (cellsOf s) = true) (hc : c.take off ++ (cellsOf s ++ c.drop (off + zz)) = c') :
  ExG P M e (.store t p q) fun s M' => s = .tuple [] ∧ Has F M' (H.set i (.obj bb (.row tt rk c'))) := by
 intro hw
 have ho := (hH.get hi).1
 exact ⟨_, _, zm1 h h' hz hl (zfr ho hl hk (Nat.le_of_ble_eq_true hle) h1 hc.symm), hw.put ho.low ho.lt, rfl, hH.putObj hi rfl⟩
/-- A store into an element of a slice. -/
theorem ExG.storeEl {α : Type} {enc : α → List SV} {i j z : Nat} {bb : Pos} {s sv : SV} {v : α} {l l' : List α} {tt : TypeId} (h : ar e p = some (.ptr bb (0 + j * z))) (h' : ar e q = some s) (hH : Has F M H) (hi : H[i]? = some (.vec tt z l.length sv (l.flatMap enc))) (hb : blk sv = [bb]) (hu : upd l j v = some l') (hz : Zx P t = some z) (hs : cellsOf s = enc v) (hlen : ∀ a, (enc a).length = z) (h1 : ∀ a, Zn (enc a) = true) :
  ExG P M e (.store t p q) fun s M' => s = .tuple [] ∧ Has F M' (H.set i (.vec tt z l'.length sv (l'.flatMap enc))) := by
 intro hw
 obtain ⟨j', hj, hlt, rfl⟩ := zs6 hu
 have hj' : j' = j := by omega
 subst hj'
 rcases hH.get hi with ⟨rfl, _⟩ | ⟨b, hsv, hc, ho⟩
 ·simp [blk] at hb
 ·have hbb : b = bb := by rcases hsv with rfl | rfl <;> (simp only [blk, List.cons.injEq, and_true] at hb; exact hb)
  subst hbb
  have hle : (j' + 1) * z ≤ l.length * z := Nat.mul_le_mul_right z hlt
  rw [Nat.succ_mul] at hle
  have hput := zfr (l := cellsOf s) (off := 0 + j' * z) (zz := z) (c' := (l.set j' v).flatMap enc) ho (by rw [hs, hlen]) rfl (by rw [hc]; omega) (by rw [hs]; exact h1 v) (by rw [hs, Nat.zero_add]; exact zng hlen l j' v hlt)
  refine ⟨_, _, zm1 h h' hz (by rw [hs, hlen]) hput, hw.put ho.low ho.lt, rfl, hH.upd hi (zka ho rfl) ?_ (.inr ⟨b, by simpa using hsv, by rw [ze7 hlen], ⟨Tree.get_put_same _ _ _, ho.low, ho.lt⟩⟩) fun c hc => .inl hc⟩
  intro c o hc
  refine zgd c o ?_
  show c ∉ [b]
  rw [← hb]; exact hc
/-- Its cells. -/
theorem Has.at {α : Type} {enc : α → List SV} {i j z : Nat} {sv : SV} {l : List α} {a : α} {tt : TypeId} {b : Pos} (hH : Has F M H) (hi : H[i]? = some (.vec tt z l.length sv (l.flatMap enc))) (hb : blk sv = [b]) (ha : l[j]? = some a) (hlen : ∀ a, (enc a).length = z) : zgi (zen M) (.ptr b (0 + j * z)) (enc a) := by
 rcases hH.get hi with ⟨rfl, _⟩ | ⟨c, hsv, _, ho⟩
 ·simp [blk] at hb
 ·have hbb : c = b := by rcases hsv with rfl | rfl <;> (simp only [blk, List.cons.injEq, and_true] at hb; exact hb)
  subst hbb
  exact ho.el hlen ha
theorem Has.cells {i : Nat} {b : Pos} {tt : TypeId} {rk : RK} {c : List SV} (hH : Has F M H) (hi : H[i]? = some (.obj b (.row tt rk c))) (off : Nat) (hl : Nat.ble off c.length = true) : zgi (zen M) (.ptr b off) (c.drop off) := (hH.get hi).1.at off hl
/-- A slice of the run's own is data. -/
theorem Has.slc {α : Type} {enc : α → List SV} {i z : Nat} {sv : SV} {l : List α} {tt : TypeId} (hH : Has F M H) (hi : H[i]? = some (.vec tt z l.length sv (l.flatMap enc))) (hlen : ∀ a, (enc a).length = z) : Slc (rd M) z (Ta enc) sv l := by
 rcases hH.get hi with ⟨rfl, h0, _⟩ | ⟨b, hsv, hc, ho⟩
 ·exact .inl ⟨.inl rfl, List.length_eq_zero_iff.1 h0⟩
 ·refine .inr ⟨b, 0, _, ?_, ho.rd, by rw [hc]; omega, fun i a ha => by rw [Nat.zero_add]; exact zjk hlen l i a ha⟩
  rcases hsv with h | h
  ·exact .inl ⟨_, Nat.le_refl _, h⟩
  ·exact .inr h
theorem Has.slcF {α : Type} {R : List SV → α → Prop} {z : Nat} {s : SV} {l : List α} (hH : Has F M H) (h : Slc F z R s l) : Slc (rd M) z R s l := h.mono (fun b c hb => zwq (hH.base b c hb)) (fun _ _ h => h)
theorem Has.ptrF {s : SV} {cs : List SV} (hH : Has F M H) (h : zgi F s cs) : zgi (zen M) s cs := h.mono fun b c hb => zxa (hH.base b c hb)
theorem Yp (M : Mem) : Vt (rd M) (zen M) := fun _ _ h => zx7 h

theorem zxp {kk : RK} {el : Elt} {n : Nat} {c : List SV} (h1 : n ≤ 4611686018427387904) (h2 : 2 * n * el.bytes ≤ 281474976710656) (h3 : 1 ≤ el.size) : grow kk M el n c = .val (.ope M.next 0 n el.size) ⟨M.t.put (some (.row el.ty kk c)) M.next, M.next.succ, M.floor⟩ := by
 unfold grow
 have g1 : Nat.ble n 4611686018427387904 = true := Nat.ble_eq_true_of_le h1
 have g2 : Nat.ble (Nat.mul (Nat.mul 2 n) el.bytes) 281474976710656 = true := Nat.ble_eq_true_of_le h2
 have g3 : Nat.ble 1 el.size = true := Nat.ble_eq_true_of_le h3
 simp only [g1, g2, g3]
 cases M
 rfl
theorem ExG.append {α : Type} {enc : α → List SV} {i z : Nat} {el : Elt} {s s2 : SV} {l l2 l' : List α} (h : ar e p = some s) (h' : ar e q = some s2) (hH : Has F M H) (hi : H[i]? = some (.vec el.ty z l.length s (l.flatMap enc))) (hz : ∀ a, (enc a).length = z) (hz1 : Nat.ble 1 z = true) (ho : ∀ a, Zn (enc a) = true) (hx : appT P t u = some el) (hsz : el.size = z)
  (hlz : zuk el s2 = some l2.length) (hnew : ze5 M z l2.length s2 = some (l2.flatMap enc)) (hl : apd el.bytes l l2 = some l') :
  ExG P M e (.call ⟨.builtin .append, #[p, q], #[t, u]⟩) fun s' M' => Has F M' (H.set i (.vec el.ty z l'.length s' (l'.flatMap enc))) := by
 intro hw
 have d := Nat.le_of_ble_eq_true hz1
 obtain ⟨hl1, hl2, rfl⟩ := zvp hl
 have hxx : Qy P M (treeOf e) (.call ⟨.builtin .append, #[p, q], #[t, u]⟩) = zfe P t u s s2 M := by
  rw [zf5 (l := [s, s2]) (by show ars e [p, q] = _; simp only [ars, h, h'])]
  rfl
 rw [← hsz] at hnew
 have hsame : l2 = [] → Has F M (H.set i (.vec el.ty z (l ++ l2).length s ((l ++ l2).flatMap enc))) := by
  intro h0
  subst h0
  rw [List.append_nil]
  obtain ⟨hlt, he⟩ := List.getElem?_eq_some_iff.1 hi
  rw [← he, List.set_getElem_self]
  exact hH
 have hlenR : ((l ++ l2).flatMap enc).length = (l ++ l2).length * z := ze7 hz _
 -- a new row
 have hnewrow : ∀ (M1 : Mem), M1.next = M.next → M1.floor = M.floor → WF M1 → RoK M M1 → (∀ b o, b ∉ (Ent.vec el.ty z l.length s (l.flatMap enc)).fp → Own M b o → Own M1 b o) →
   Has F ⟨M1.t.put (some (.row el.ty (.head 0) ((l ++ l2).flatMap enc))) M1.next, M1.next.succ, M1.floor⟩ (H.set i (.vec el.ty z (l ++ l2).length (.ope M.next 0 (l.length + l2.length) el.size) ((l ++ l2).flatMap enc))) := by
  intro M1 e1 e2 hw1 hro hk
  have hm := hw1.memLe_new (.row el.ty (.head 0) ((l ++ l2).flatMap enc))
  refine hH.upd hi (hro.trans hm.rok) (fun b o hb hbo => hm.own b o (hk b o hb hbo)) (.inr ⟨M.next, .inr (by rw [List.length_append, hsz]), hlenR, ?_⟩) fun b hb => ?_
  ·rw [← e1]
   exact hw1.own_new _
  ·simp only [Ent.fp, blk, List.mem_cons, List.not_mem_nil, or_false] at hb
   subst hb
   exact .inr (Nat.le_refl _)
 have hgrow : ∀ M1 : Mem, grow (.head 0) M1 el (l.length + l2.length) (l.flatMap enc ++ l2.flatMap enc) = .val (.ope M1.next 0 (l.length + l2.length) el.size) ⟨M1.t.put (some (.row el.ty (.head 0) ((l ++ l2).flatMap enc))) M1.next, M1.next.succ, M1.floor⟩ := by
  intro M1
  rw [List.flatMap_append]
  exact zxp hl1 hl2 (by omega)
 rcases hH.get hi with ⟨rfl, h0, hc0⟩ | ⟨bb, hs, hlc, hown⟩
 ·have hl0 : l = [] := List.length_eq_zero_iff.1 h0
  cases hl2c : l2 with
  | nil =>
   subst hl2c
   exact ⟨.nils, M, by rw [hxx]; exact zpl hx hlz hnew, .refl hw, hsame rfl⟩
  | cons a0 r0 =>
   have hlen : l2.length = r0.length + 1 := by rw [hl2c]; rfl
   rw [← hl2c]
   have hg := hgrow M
   have c : l.flatMap enc = [] := by rw [hl0]; rfl
   have e0 : l.length + l2.length = l2.length := by rw [h0]; omega
   rw [c, List.nil_append] at hg
   refine ⟨_, _, ?_, hw.anew _, hnewrow M rfl rfl hw (.refl M) (fun _ _ _ h => h)⟩
   rw [hxx]
   have := zpm (P := P) (M := M) (t := t) (u := u) (el := el) (s2 := s2) (j := r0.length) (new := l2.flatMap enc) hx (by rw [← hlen]; exact hlz) (by rw [← hlen]; exact hnew)
   rw [this, show r0.length + 1 = l.length + l2.length by omega]
   exact hg
 ·have hrow : zen M bb = some (l.flatMap enc) := hown.row
  have hle' : Nat.ble (Nat.add 0 (l.length * el.size)) (len (l.flatMap enc)) = true := by
   rw [zef, hlc, hsz]
   exact Nat.ble_eq_true_of_le (by simp)
  have htake : (l.flatMap enc).take (l.length * el.size) = l.flatMap enc := List.take_of_length_le (by rw [hlc, hsz]; exact Nat.le_refl _)
  rcases hs with rfl | rfl
  ·have hfirst : ze5 M el.size l.length (.slice bb 0 l.length l.length) = some (l.flatMap enc) := by
    unfold ze5
    simp only [hrow, zh6, zgw, Nat.mul_eq, List.drop_zero, hle', htake]
   cases hl2c : l2 with
   | nil =>
    subst hl2c
    refine ⟨.slice bb 0 l.length l.length, M, ?_, .refl hw, hsame rfl⟩
    rw [hxx]
    unfold zfe
    have g2 : zuk el s2 = some 0 := hlz
    have g3 : ze5 M el.size 0 s2 = some [] := hnew
    have g4 : Nat.ble (Nat.add l.length 0) l.length = true := Nat.ble_eq_true_of_le (Nat.le_refl _)
    simp only [hx, g2, g3, g4]
    rfl
   | cons a0 r0 =>
    rw [← hl2c]
    have hlen : 1 ≤ l2.length := by rw [hl2c]; simp
    refine ⟨_, _, ?_, hw.anew _, hnewrow M rfl rfl hw (.refl M) (fun _ _ _ h => h)⟩
    rw [hxx]
    unfold zfe
    have g4 : Nat.ble (Nat.add l.length l2.length) l.length = false := by
     cases hb : Nat.ble (Nat.add l.length l2.length) l.length with
     | false => rfl
     | true => have h9 : l.length + l2.length ≤ l.length := Nat.le_of_ble_eq_true hb; omega
    simp only [hx, hlz, hnew, g4, hfirst, zev]
    exact hgrow M
  ·have hfirst : ze5 M el.size l.length (.ope bb 0 l.length z) = some (l.flatMap enc) := by
    unfold ze5
    simp only [hrow, zh6, zgw, Nat.mul_eq, List.drop_zero, hle', htake]
   have hok : zxz M bb = some (el.ty, .head 0) := by
    unfold zxz
    have ha : above M bb = true := Nat.ble_eq_true_of_le hown.low
    simp only [hown.get, ha]
   cases hl2c : l2 with
   | nil =>
    subst hl2c
    exact ⟨.ope bb 0 l.length z, M, by rw [hxx]; exact zpn hx hlz hnew (by rw [hsz]; exact Nat.beq_refl z) hok hfirst, .refl hw, hsame rfl⟩
   | cons a0 r0 =>
    have hlen : l2.length = r0.length + 1 := by rw [hl2c]; rfl
    rw [← hl2c]
    have hdrop : zhm M bb = ⟨M.t.put none bb, M.next, M.floor⟩ := by cases M; rfl
    have hw0 := hw.put (o := none) hown.low hown.lt
    have hw1 : WF ⟨M.t.put none bb, M.next, M.floor⟩ := hw0.wf
    refine ⟨_, _, ?_, hw0.trans (hw1.anew _), hnewrow ⟨M.t.put none bb, M.next, M.floor⟩ rfl rfl hw1 (zka hown rfl) (fun b o hb hbo => zgd b o hb hbo)⟩
    rw [hxx]
    have f2 : Nat.beq el.ty el.ty = true := Nat.beq_refl _
    have f3 : znk (.head 0) (Nat.add 0 (Nat.mul l.length el.size)) = true := rfl
    have h5 := zpo (P := P) (M := M) (t := t) (u := u) (el := el) (s2 := s2) (j := r0.length) (off := 0) (q := l.length) (z := z) (bb := bb) (new := l2.flatMap enc) (old := l.flatMap enc) hx (by rw [← hlen]; exact hlz) (by rw [← hlen]; exact hnew) (by rw [hsz]; exact Nat.beq_refl z) hok hfirst (zkq ho l2) f2 f3
    rw [h5, ← hlen, hdrop, zev]
    exact hgrow ⟨M.t.put none bb, M.next, M.floor⟩
theorem ExG.make {α : Type} {z0 : α} {enc : α → List SV} {el : Elt} {l : List α} {nn : Int} {by' z : Nat} {kk kk' : IntKind} (h : ar e p = some (.int kk nn)) (h' : ar e q = some (.int kk' nn)) (hl : mk nn by' z0 = some l) (hel : Jx P t = some el) (hby : el.bytes = by') (hz : el.zero = enc z0) (hlen : ∀ a, (enc a).length = z) (hH : Has F M H) :
  ExG P M e (.makeSlice t p q) fun s M' => Has F M' (.vec el.ty z l.length s (l.flatMap enc) :: H) := by
 subst hby
 obtain ⟨j, rfl, h1, h2, rfl⟩ := zxv hl
 refine ExG.newVec ?_ (ze7 hlen _) hH
 rw [List.length_replicate, ← zny hz]
 exact zxm h h' hel h1 h2
theorem ExG.built {α : Type} {enc : α → List SV} {el : Elt} {l : List α} {z j : Nat} {ps : Array (Nat × Operand)} {r : List (Nat × SV)} (h : zy0 e ps.toList = some r) (hx : Jx P t = some el) (hj : Nat.ble (j * el.size) 16777216 = true) (hf : Zw (fun i => some (Nat.mul i el.size, el.size)) (rep j el.zero) r = some (l.flatMap enc)) (hl : l.length = j) (hlen : ∀ a, (enc a).length = z) (hH : Has F M H) :
  ExG P M e (.buildSlice t j ps) fun s M' => Has F M' (.vec el.ty z l.length s (l.flatMap enc) :: H) := by
 subst hl
 exact ExG.newVec (ziz h hx hj hf) (ze7 hlen _) hH
end
end Go.Ev

