/- A part of the small machine. -/
import Derived.Test.YtoobfmfgbcohcabGreatDoorEvV14e
import Derived.RangeFuncLeaves
import Derived.RangeFuncNested
set_option linter.unusedVariables false
/- An operation of a region, as a whole. -/
namespace Go.Ev
open Go.RowKit
variable {P : Program}

noncomputable def zi6 {α : Type} (x : Option α) (k : α → Out) : Out := Option.rec .bad (fun s => k s) x

section
variable {B : Nat} {m : Map} {M : Mem} {w : World} {σ : Tree SV} {tm : Array Value}

theorem zi1 {α : Type} {q : Sem Next} {x : Option α} {k : α → Out} (h : ∀ s, x = some s → zib P B m M w q (k s)) : zib P B m M w q (zi6 x k) := by
 cases x with
 | none => trivial
 | some s => exact h s rfl

noncomputable def ztl (M : Mem) (σ : Tree SV) (x : Option Operand) : Option (Option SV) :=
 match x with
 | none => some none
 | some x => match arg M σ x with
  | some s => some (some s)
  | none => none

theorem zr9 (hr : MRel B m M w) (ht : zku m σ tm) {x : Option Operand} {s : Option SV} (h : ztl M σ x = some s) : zo2 m s (x.map (den tm)) := by
 unfold ztl at h
 split at h
 ·simp only [Option.some.injEq] at h; subst h; trivial
 ·split at h
  ·rename_i hs
   simp only [Option.some.injEq] at h; subst h
   exact zmm hr ht hs
  ·simp at h

/-- Operators on structs and arrays, too. -/
noncomputable def aggEq (P : Program) (t : TypeId) : Bool := P.eqGuardType P.depth t
noncomputable def zrm (P : Program) (op : BinOp) (t : TypeId) (c : Bool) (a b : SV) (M : Mem) : Out :=
 match a with
 | .agg x => match b with
  | .agg y => match op, aggEq P t with
   | .eql, false => match eqA P 12 t (.agg x) (.agg y) with
    | some r => .val (.bool r) M
    | none => .bad
   | .neq, false => match eqA P 12 t (.agg x) (.agg y) with
    | some r => .val (.bool (Bool.rec true false r)) M
    | none => .bad
   | _, _ => .bad
  | _ => .bad
 | a => y0k P op t c a b M

theorem zqo (hr : MRel B m M w) {op : BinOp} {t : TypeId} {x y : Operand} {a b : SV} {v u : Value} (ha : conc m a = some v) (hb : conc m b = some u) :
  zib P B m M w (do Pure.pure (Next.value (← (do eqGuard op t x y v u; binOp op t v u)))) (zrm P op t (cst x || cst y) a b M) := by
 unfold zrm
 split
 next xs =>
  split
  next ys =>
   obtain ⟨vs, hvs, rfl⟩ := zjv ha
   obtain ⟨us, hus, rfl⟩ := zjv hb
   split
   next hg =>
    split
    next r hr' =>
     have he := zx4 (P := P) (w := w) hr' ha hb
     have hgr : (eqGuard .eql t x y (.agg vs.toArray) (.agg us.toArray)).run P w = .ok () w := by
      have hg' : P.eqGuardType P.depth t = false := hg
      simp [eqGuard, Sem.run_bind, program, Sem.run, hg']
     refine zib.pure hr (v := .bool r) ?_ rfl
     rw [zp1 ⟨by simp, by simp, by simp, by simp⟩]
     simp only [Sem.run_bind, hgr, he, Result.andThen_ok, Sem.run_pure]
    next => trivial
   next hg =>
    split
    next r hr' =>
     have he := zx4 (P := P) (w := w) hr' ha hb
     have hgr : (eqGuard .neq t x y (.agg vs.toArray) (.agg us.toArray)).run P w = .ok () w := by
      have hg' : P.eqGuardType P.depth t = false := hg
      simp [eqGuard, Sem.run_bind, program, Sem.run, hg']
     refine zib.pure hr (v := .bool !r) ?_ (by cases r <;> rfl)
     rw [zpl ⟨by simp, by simp, by simp, by simp⟩]
     simp only [Sem.run_bind, hgr, he, Result.andThen_ok, Sem.run_pure]
    next => trivial
   next => trivial
  next => trivial
 next => exact zwu hr ha hb

noncomputable def zmg (P : Program) (op : BinOp) (t : TypeId) (c : Bool) (a b : SV) (M : Mem) : Out :=
 match a with
 | .ptr x o => match zw0 P op t (.ptr x o) b with
  | some r => .val (.bool r) M
  | none => zrm P op t c (.ptr x o) b M
 | a => zrm P op t c a b M
theorem zva (hr : MRel B m M w) {op : BinOp} {t : TypeId} {x y : Operand} {a b : SV} {v u : Value} (ha : conc m a = some v) (hb : conc m b = some u) :
  zib P B m M w (do Pure.pure (Next.value (← (do eqGuard op t x y v u; binOp op t v u)))) (zmg P op t (cst x || cst y) a b M) := by
 unfold zmg
 split
 next xs o =>
  split
  next r hr' => exact zib.pure hr (v := .bool r) (zx7 hr' ha hb x y) rfl
  next => exact zqo hr ha hb
 next => exact zqo hr ha hb

noncomputable def zrp (P : Program) (t : TypeId) (x : SV) (M : Mem) : Out :=
 match x with
 | .map b => match lenK P t, zzc M b with
  | some .map, some (es, _) => .val (goI es.length) M
  | _, _ => .bad
 | x => zzs P t x M

theorem zj3.len {α β : Type} {R : α → β → Prop} : ∀ {l : List α} {k : List β}, zj3 R l k → l.length = k.length
 | _, _, .nil => rfl
 | _, _, .cons _ h => by simp [zj3.len h]

theorem zvq (hr : MRel B m M w) {t ty : TypeId} {x : SV} {v : Value} (hv : conc m x = some v) :
  zib P B m M w (do Pure.pure (Next.value (← Builtin.len_ #[t] ty #[v]))) (zrp P t x M) := by
 unfold zrp
 split
 next b =>
  obtain ⟨p, hp, rfl⟩ := zyu hv
  split
  next es c hk hb =>
   obtain ⟨k, e, hd⟩ := zuh hk
   obtain ⟨a, ha, hent⟩ := y0r hr hb hp
   have hget : (getObj p.block).run P w = .ok (.map a c) w := by simp [getObj, Sem.run, ha]
   refine zib.pure hr (v := goInt a.size) ?_ ?_
   ·simp only [Builtin.len_, List.getElem?_toArray, List.getElem?_cons_zero, Sem.run_bind, run_underlying hd, Result.andThen_ok, hget, Sem.run_pure]
   ·have := hent.len
    simp only [Array.length_toList] at this
    rw [this]; rfl
  next => trivial
 next => exact zwa hr hv

/-- MIN, MAX of numbers -/
noncomputable def y0h (k : IntKind) (x : Int) : List SV → Option SV
 | [] => some (.int k x)
 | .int _ y :: l => match leZ x y with
  | true => y0h k x l
  | false => y0h k y l
 | _ => none
noncomputable def y0j (k : IntKind) (x : Int) : List SV → Option SV
 | [] => some (.int k x)
 | .int _ y :: l => match leZ y x with
  | true => y0j k x l
  | false => y0j k y l
 | _ => none

theorem zqt (w : World) : ∀ {l : List SV} {k : IntKind} {x : Int} {s : SV} {vs : List Value}, y0h k x l = some s → concs m l = some vs → ∃ v, (vs.foldlM Builtin.min2 (.int k x)).run P w = .ok v w ∧ conc m s = some v
 | [], k, x, s, vs, h, hc => by
  simp only [y0h, Option.some.injEq] at h
  simp only [concs, Option.some.injEq] at hc
  subst h hc
  exact ⟨_, rfl, rfl⟩
 | a :: l, k, x, s, vs, h, hc => by
  obtain ⟨v, r, h1, h2, rfl⟩ := zi3 hc
  unfold y0h at h
  split at h
  ·rename_i heq; simp at heq
  ·rename_i k' y l' heq
   simp only [List.cons.injEq] at heq
   obtain ⟨rfl, rfl⟩ := heq
   obtain rfl := zi8 h1
   rw [List.foldlM_cons]
   split at h
   ·rename_i hle
    rw [zln] at hle
    have : ¬ (y < x) := by have := of_decide_eq_true hle; omega
    obtain ⟨u, hu, huc⟩ := zqt w h h2
    exact ⟨u, by simp only [Sem.run_bind, Builtin.min2, if_neg this, Sem.run_pure, Result.andThen_ok]; exact hu, huc⟩
   ·rename_i hle
    rw [zln] at hle
    have : y < x := by have := of_decide_eq_false hle; omega
    obtain ⟨u, hu, huc⟩ := zqt w h h2
    exact ⟨u, by simp only [Sem.run_bind, Builtin.min2, if_pos this, Sem.run_pure, Result.andThen_ok]; exact hu, huc⟩
  ·simp at h
theorem zro (w : World) : ∀ {l : List SV} {k : IntKind} {x : Int} {s : SV} {vs : List Value}, y0j k x l = some s → concs m l = some vs → ∃ v, (vs.foldlM Builtin.max2 (.int k x)).run P w = .ok v w ∧ conc m s = some v
 | [], k, x, s, vs, h, hc => by
  simp only [y0j, Option.some.injEq] at h
  simp only [concs, Option.some.injEq] at hc
  subst h hc
  exact ⟨_, rfl, rfl⟩
 | a :: l, k, x, s, vs, h, hc => by
  obtain ⟨v, r, h1, h2, rfl⟩ := zi3 hc
  unfold y0j at h
  split at h
  ·rename_i heq; simp at heq
  ·rename_i k' y l' heq
   simp only [List.cons.injEq] at heq
   obtain ⟨rfl, rfl⟩ := heq
   obtain rfl := zi8 h1
   rw [List.foldlM_cons]
   split at h
   ·rename_i hle
    rw [zln] at hle
    have : ¬ (y > x) := by have := of_decide_eq_true hle; omega
    obtain ⟨u, hu, huc⟩ := zro w h h2
    exact ⟨u, by simp only [Sem.run_bind, Builtin.max2, if_neg this, Sem.run_pure, Result.andThen_ok]; exact hu, huc⟩
   ·rename_i hle
    rw [zln] at hle
    have : y > x := by have := of_decide_eq_false hle; omega
    obtain ⟨u, hu, huc⟩ := zro w h h2
    exact ⟨u, by simp only [Sem.run_bind, Builtin.max2, if_pos this, Sem.run_pure, Result.andThen_ok]; exact hu, huc⟩
  ·simp at h

noncomputable def y0l (as : List SV) (M : Mem) : Out := match as with
 | .int k x :: l => ziy M (y0h k x l)
 | _ => .bad
noncomputable def y0v (as : List SV) (M : Mem) : Out := match as with
 | .int k x :: l => ziy M (y0j k x l)
 | _ => .bad
theorem zxb (hr : MRel B m M w) {as : List SV} {ts : Array TypeId} {ty : TypeId} {vs : Array Value} (h : concs m as = some vs.toList) : zib P B m M w (do Pure.pure (Next.value (← Builtin.min_ ts ty vs))) (y0l as M) := by
 unfold y0l
 split
 next k x l =>
  obtain ⟨v, r, h1, h2, h3⟩ := zi3 h
  obtain rfl := zi8 h1
  refine zjr hr fun s hs => ?_
  obtain ⟨u, hu, huc⟩ := zqt (P := P) w hs h2
  exact ⟨u, by unfold Builtin.min_; rw [h3]; exact hu, huc⟩
 next => trivial
theorem zxu (hr : MRel B m M w) {as : List SV} {ts : Array TypeId} {ty : TypeId} {vs : Array Value} (h : concs m as = some vs.toList) : zib P B m M w (do Pure.pure (Next.value (← Builtin.max_ ts ty vs))) (y0v as M) := by
 unfold y0v
 split
 next k x l =>
  obtain ⟨v, r, h1, h2, h3⟩ := zi3 h
  obtain rfl := zi8 h1
  refine zjr hr fun s hs => ?_
  obtain ⟨u, hu, huc⟩ := zro (P := P) w hs h2
  exact ⟨u, by unfold Builtin.max_; rw [h3]; exact hu, huc⟩
 next => trivial

noncomputable def zj5 (P : Program) (b : Builtin) (ts : List TypeId) (as : List SV) (M : Mem) : Out :=
 match b with
 | .append => match ts, as with
  | [t, u], [x, y] => zj2 P t u x y M
  | _, _ => .bad
 | .copy => match ts, as with
  | [t, _], [x, y] => y14 P t x y M
  | _, _ => .bad
 | .len => match ts, as with
  | [t], [x] => zrp P t x M
  | _, _ => .bad
 | .min => y0l as M
 | .max => y0v as M
 | .cap => match ts, as with
  | [t], [x] => y16 P t x M
  | _, _ => .bad
 | .delete => match ts, as with
  | [t, _], [x, k] => zxi P t x k M
  | _, _ => .bad
 | .unsafeSliceData => match as with
  | [x] => zj8 x M
  | _ => .bad
 | .unsafeString => match as with
  | [x, l] => zmw P ts x l M
  | _ => .bad
 | _ => .bad

theorem zqw (hr : MRel B m M w) {b : Builtin} {ts : Array TypeId} {ty : TypeId} {cs : Array Bool} {as : List SV} {vs : Array Value} (h : concs m as = some vs.toList) :
  zib P B m M w (builtin b ts ty cs vs) (zj5 P b ts.toList as M) := by
 obtain ⟨ts⟩ := ts
 obtain ⟨vs⟩ := vs
 simp only at h
 unfold zj5
 split
 ·split
  ·obtain ⟨v, u, h1, h2, rfl⟩ := zm3 h
   rename_i hts
   simp only at hts
   subst hts
   exact zsa hr h1 h2
  ·trivial
 ·split
  ·obtain ⟨v, u, h1, h2, rfl⟩ := zm3 h
   rename_i hts
   simp only at hts
   subst hts
   exact zvh hr h1 h2
  ·trivial
 ·split
  ·obtain ⟨v, h1, rfl⟩ := zkc h
   rename_i hts
   simp only at hts
   subst hts
   exact zvq hr h1
  ·trivial
 ·exact zxb hr h
 ·exact zxu hr h
 ·split
  ·obtain ⟨v, h1, rfl⟩ := zkc h
   rename_i hts
   simp only at hts
   subst hts
   exact zwq hr h1
  ·trivial
 ·split
  ·obtain ⟨v, u, h1, h2, rfl⟩ := zm3 h
   rename_i hts
   simp only at hts
   subst hts
   exact zsc hr h1 h2
  ·trivial
 ·split
  ·obtain ⟨v, h1, rfl⟩ := zkc h
   exact zp4 hr h1
  ·trivial
 ·split
  ·obtain ⟨v, u, h1, h2, rfl⟩ := zm3 h
   exact zrr hr h1 h2
  ·trivial
 ·trivial

/-- CALLS OF A METHOD THROUGH AN INTERFACE: the dynamic type's own method. -/
noncomputable def zvm (P : Program) (t : TypeId) (name : String) : Option FuncId :=
 match P.info? t with
 | none => none
 | some i => match i.methods.find? (·.name == name) with
  | none => none
  | some mt => match mt.path.toList, mt.func with
   | [], some (f, true) => match P.underlying t with
    | some (.pointer _) => some f
    | _ => none
   | [], some (f, false) => match P.underlying t with
    | some (.pointer _) => none
    | some _ => some f
    | none => none
   | _, _ => none

theorem zxr {t : TypeId} {name : String} {f : FuncId} (h : zvm P t name = some f) (v : Value) (k : Nat) : (method (k + 1) t v name).run P w = .ok (f, v) w := by
 unfold zvm at h
 split at h
 ·simp at h
 ·rename_i i hi
  split at h
  ·simp at h
  ·rename_i mt hm
   have hti : (typeInfo t).run P w = .ok i w := by simp [typeInfo, Sem.run_bind, program, Sem.run, hi]
   split at h
   ·rename_i g hp hf
    split at h
    ·rename_i e hu
     simp only [Option.some.injEq] at h
     subst h
     simp only [method, Sem.run_bind, hti, Result.andThen_ok, hm, hp, follow, Sem.run_pure, hf, receiverAt, run_underlying hu, Place.get]
    ·simp at h
   ·rename_i g hp hf
    split at h
    ·simp at h
    ·rename_i d hne hu
     simp only [Option.some.injEq] at h
     subst h
     simp only [method, Sem.run_bind, hti, Result.andThen_ok, hm, hp, follow, Sem.run_pure, hf, receiverAt, run_underlying hu]
     simp [Place.get]
    ·simp at h
   ·simp at h

/-- A method's value of an interface value: its receiver is asked ahead. -/
noncomputable def zvf (P : Program) (x : SV) (M : Mem) : Out :=
 match x with
 | .fn (.method name) (.iface t v :: as) cs => match zvm P t name with
  | some _ => match P.underlying t with
   | some (.pointer _) => .val (.fn (.method name) (.iface t v :: as) cs) M
   | _ => .bad
  | none => .bad
 | x => zpc x M

theorem zxc {t : TypeId} {name : String} {f : FuncId} {e : TypeId} (h : zvm P t name = some f) (hu : P.underlying t = some (.pointer e)) (v : Value) (k : Nat) : (nilAhead (k + 1) t v name).run P w = .ok (some false) w := by
 unfold zvm at h
 split at h
 ·simp at h
 ·rename_i i hi
  split at h
  ·simp at h
  ·rename_i mt hm
   have hti : (typeInfo t).run P w = .ok i w := by simp [typeInfo, Sem.run_bind, program, Sem.run, hi]
   split at h
   ·rename_i g hp hf
    simp only [nilAhead, Sem.run_bind, hti, Result.andThen_ok, hm, hp, followBlind, Sem.run_pure, hf]
   ·rename_i g hp hf
    split at h
    ·simp at h
    ·rename_i d hne hu'
     rw [hu'] at hu
     simp only [Option.some.injEq] at hu
     exact absurd hu (hne e)
    ·simp at h
   ·simp at h

noncomputable def zrj (P : Program) (name : String) (r : SV) (as : List SV) (M : Mem) : Out :=
 match r with
 | .iface t v => match zvm P t name with
  | none => .bad
  | some f => match callable P f with
   | true => .enter f (v :: as) M
   | false => .bad
 | _ => .bad

theorem zsd (hr : MRel B m M w) {r : SV} {as : List SV} {rv : Value} {vs : Array Value} {name : String} (hf : conc m r = some rv) (has : concs m as = some vs.toList) :
  zib P B m M w (invoke (.fn (.method name) #[]) (#[rv] ++ vs)) (zrj P name r as M) := by
 unfold zrj
 split
 next t v =>
  simp only [conc, Option.map_eq_some_iff] at hf
  obtain ⟨x, hx, rfl⟩ := hf
  split
  next => trivial
  next f hm =>
   split
   next hc =>
    refine ⟨#[x] ++ vs, m, w, ?_, ?_, .refl hr⟩
    ·have h0 : (#[Value.iface t x] ++ vs)[0]? = some (.iface t x) := by
      rw [← Array.getElem?_toList, Array.toList_append]
      rfl
     have h1 : (#[Value.iface t x] ++ vs).extract 1 (#[Value.iface t x] ++ vs).size = vs := by
      apply Array.ext'
      rw [Array.toList_extract, Array.toList_append, Array.size_append]
      show ((Value.iface t x) :: vs.toList).extract 1 (1 + vs.size) = vs.toList
      simp [List.extract, List.take_of_length_le]
     have hk := zxr (P := P) (w := w) hm x (P.types.size + 99)
     simp only [invoke, h0, h1, callMethod, Sem.run_bind, program]
     rw [show Sem.run P (Sem.program .pure) w = .ok P w from rfl]
     simp only [Result.andThen_ok]
     rw [show P.types.size + Made.depth = P.types.size + 99 + 1 from rfl, hk]
     exact zlz hc _ _
    ·have := concs_cons hx has
     simpa using this
   next => trivial
 next => trivial

noncomputable def zw9 (c a b : SV) (M : Mem) : Out :=
 match c with
 | .bool true => .val a M
 | .bool false => .val b M
 | _ => .bad

noncomputable def zic (P : Program) (M : Mem) (σ : Tree SV) (o : Oper) : Out :=
 match o.op with
 | .move x => zi6 (arg M σ x) fun s => .val s M
 | .assign x => zi6 (arg M σ x) fun s => .val s M
 | .pick c a b => zi6 (arg M σ c) fun c => zi6 (arg M σ a) fun a => zi6 (arg M σ b) fun b => zw9 c a b M
 | .alloc e => zqd P e M
 | .box t x => zi6 (arg M σ x) fun s => y18 t (cellsOf s) M
 | .build t ps => zi6 (zj0 M σ ps.toList) fun l => zmk P t l M
 | .buildSlice t n ps => zi6 (zj0 M σ ps.toList) fun l => zjs P t n l M
 | .load t a => zi6 (arg M σ a) fun a => zmq P t a M
 | .store t a x => zi6 (arg M σ a) fun a => zi6 (arg M σ x) fun x => zqm P t a x M
 | .nilCheck x => zi6 (arg M σ x) fun x => zvf P x M
 | .binOp op t x y _ => zi6 (arg M σ x) fun a => zi6 (arg M σ y) fun b => zmg P op t (cst x || cst y) a b M
 | .unOp op _ x => zi6 (arg M σ x) fun x => xUn op x M
 | .convert s d x => zi6 (arg M σ x) fun x => ziq P s d x M
 | .makeInterface t x => zi6 (arg M σ x) fun x => zqh P t x M
 | .makeFunc fn a b => zi6 (args M σ a.toList) fun a => zi6 (args M σ b.toList) fun b => .val (.fn fn a b) M
 | .makeSlice t l c => zi6 (arg M σ l) fun l => zi6 (arg M σ c) fun c => zyp P t l c M
 | .slice t x lo hi mx => zi6 (arg M σ x) fun x => zi6 (ztl M σ lo) fun lo => zi6 (ztl M σ hi) fun hi => zi6 (ztl M σ mx) fun mx => zk2 P t x lo hi mx M
 | .fieldAddr t x k => zi6 (arg M σ x) fun x => zjg P t k x M
 | .field t x k => zi6 (arg M σ x) fun x => zq9 P t k x M
 | .indexAddr t x i => zi6 (arg M σ x) fun x => zi6 (arg M σ i) fun i => zih P t x i M
 | .index t x i => zi6 (arg M σ x) fun x => zi6 (arg M σ i) fun i => zmh P t x i M
 | .extract x k => zi6 (arg M σ x) fun x => zj6 k x M
 | .makeMap _ none => zqs M
 | .lookup t x k ok => zi6 (arg M σ x) fun x => zi6 (arg M σ k) fun k => zrx P t x k ok M
 | .mapUpdate t x k v => zi6 (arg M σ x) fun x => zi6 (arg M σ k) fun k => zi6 (arg M σ v) fun v => zm7 P t x k v M
 | .insert t x k v => zi6 (arg M σ x) fun x => zi6 (arg M σ k) fun k => zi6 (arg M σ v) fun v => zm7 P t x k v M
 | .call c => match c.callee with
  | .builtin b => zi6 (args M σ c.args.toList) fun as => zj5 P b c.argTypes.toList as M
  | .value f => zi6 (arg M σ f) fun f => zi6 (args M σ c.args.toList) fun as => zmj P f as M
  | .invoke r n => zi6 (arg M σ r) fun r => zi6 (args M σ c.args.toList) fun as => zrj P n r as M
 | _ => .bad

/- The same, each case a constant of its own: less to carry about in a step. -/
noncomputable def zzd (M : Mem) (σ : Tree SV) (x : Operand) : Out := Option.rec .bad (fun s => .val s M) (arg M σ x)
noncomputable def zwo (M : Mem) (σ : Tree SV) (c a b : Operand) : Out := zi6 (arg M σ c) fun c => zi6 (arg M σ a) fun a => zi6 (arg M σ b) fun b => zw9 c a b M
noncomputable def y0x (P : Program) (M : Mem) (e : TypeId) : Out := zqd P e M
noncomputable def y1g (M : Mem) (σ : Tree SV) (t : TypeId) (x : Operand) : Out := zi6 (arg M σ x) fun s => y18 t (cellsOf s) M
noncomputable def zt4 (P : Program) (M : Mem) (σ : Tree SV) (t : TypeId) (ps : Array (Nat × Operand)) : Out := zi6 (zj0 M σ ps.toList) fun l => zmk P t l M
noncomputable def zu1 (P : Program) (M : Mem) (σ : Tree SV) (t : TypeId) (n : Nat) (ps : Array (Nat × Operand)) : Out := zi6 (zj0 M σ ps.toList) fun l => zjs P t n l M
noncomputable def zwv (P : Program) (M : Mem) (σ : Tree SV) (t : TypeId) (a : Operand) : Out := zi6 (arg M σ a) fun a => zmq P t a M
noncomputable def zxd (P : Program) (M : Mem) (σ : Tree SV) (t : TypeId) (a x : Operand) : Out := zi6 (arg M σ a) fun a => zi6 (arg M σ x) fun x => zqm P t a x M
noncomputable def y1q (P : Program) (M : Mem) (σ : Tree SV) (x : Operand) : Out := zi6 (arg M σ x) fun x => zvf P x M
noncomputable def y1a (P : Program) (M : Mem) (σ : Tree SV) (op : BinOp) (t : TypeId) (x y : Operand) (_ : TypeId) : Out := zi6 (arg M σ x) fun a => zi6 (arg M σ y) fun b => zmg P op t (cst x || cst y) a b M
noncomputable def eUn (M : Mem) (σ : Tree SV) (op : UnOp) (_ : TypeId) (x : Operand) : Out := zi6 (arg M σ x) fun x => xUn op x M
noncomputable def zt6 (P : Program) (M : Mem) (σ : Tree SV) (s d : TypeId) (x : Operand) : Out := zi6 (arg M σ x) fun x => ziq P s d x M
noncomputable def y15 (P : Program) (M : Mem) (σ : Tree SV) (t : TypeId) (x : Operand) : Out := zi6 (arg M σ x) fun x => zqh P t x M
noncomputable def y1m (M : Mem) (σ : Tree SV) (fn : Fn) (a b : Array Operand) : Out := zi6 (args M σ a.toList) fun a => zi6 (args M σ b.toList) fun b => .val (.fn fn a b) M
noncomputable def y0o (P : Program) (M : Mem) (σ : Tree SV) (t : TypeId) (l c : Operand) : Out := zi6 (arg M σ l) fun l => zi6 (arg M σ c) fun c => zyp P t l c M
noncomputable def zww (P : Program) (M : Mem) (σ : Tree SV) (t : TypeId) (x : Operand) (lo hi mx : Option Operand) : Out := zi6 (arg M σ x) fun x => zi6 (ztl M σ lo) fun lo => zi6 (ztl M σ hi) fun hi => zi6 (ztl M σ mx) fun mx => zk2 P t x lo hi mx M
noncomputable def ztq (P : Program) (M : Mem) (σ : Tree SV) (t : TypeId) (x : Operand) (k : Nat) : Out := zi6 (arg M σ x) fun x => zjg P t k x M
noncomputable def y0w (P : Program) (M : Mem) (σ : Tree SV) (t : TypeId) (x : Operand) (k : Nat) : Out := zi6 (arg M σ x) fun x => zq9 P t k x M
noncomputable def zu0 (P : Program) (M : Mem) (σ : Tree SV) (t : TypeId) (x i : Operand) : Out := zi6 (arg M σ x) fun x => zi6 (arg M σ i) fun i => zih P t x i M
noncomputable def zsn (P : Program) (M : Mem) (σ : Tree SV) (t : TypeId) (x i : Operand) : Out := zi6 (arg M σ x) fun x => zi6 (arg M σ i) fun i => zmh P t x i M
noncomputable def zr2 (M : Mem) (σ : Tree SV) (x : Operand) (k : Nat) : Out := zi6 (arg M σ x) fun x => zj6 k x M
noncomputable def y13 (M : Mem) (_ : TypeId) (r : Option Operand) : Out := match r with
 | none => zqs M
 | some _ => .bad
noncomputable def y07 (P : Program) (M : Mem) (σ : Tree SV) (t : TypeId) (x k : Operand) (ok : Bool) : Out := zi6 (arg M σ x) fun x => zi6 (arg M σ k) fun k => zrx P t x k ok M
noncomputable def zxo (P : Program) (M : Mem) (σ : Tree SV) (t : TypeId) (x k v : Operand) : Out := zi6 (arg M σ x) fun x => zi6 (arg M σ k) fun k => zi6 (arg M σ v) fun v => zm7 P t x k v M
noncomputable def zs0 (P : Program) (M : Mem) (σ : Tree SV) (as : Array Operand) (ts : Array TypeId) (b : Builtin) : Out := zi6 (args M σ as.toList) fun as => zj5 P b ts.toList as M
noncomputable def zpv (P : Program) (M : Mem) (σ : Tree SV) (as : Array Operand) (f : Operand) : Out := zi6 (arg M σ f) fun f => zi6 (args M σ as.toList) fun as => zmj P f as M
noncomputable def y02 (P : Program) (M : Mem) (σ : Tree SV) (as : Array Operand) (r : Operand) (n : String) : Out := zi6 (arg M σ r) fun r => zi6 (args M σ as.toList) fun as => zrj P n r as M
noncomputable def y1h (P : Program) (M : Mem) (σ : Tree SV) (c : Call) : Out := Call.rec (fun callee as ts => Callee.rec (motive := fun _ => Out) (zpv P M σ as) (y02 P M σ as) (zs0 P M σ as ts) callee) c

noncomputable def execO (P : Program) (M : Mem) (σ : Tree SV) (o : Op) : Out :=
 Op.rec (motive := fun _ => Out) (zzd M σ) (zzd M σ) (zwo M σ) (y0x P M) (y1g M σ) (zt4 P M σ) (zu1 P M σ) (zxo P M σ) (zwv P M σ) (zxd P M σ)
  (fun _ => .bad) (fun _ => .bad) (y1q P M σ) (y1a P M σ) (eUn M σ) (zt6 P M σ) (fun _ _ => .bad) (y15 P M σ) (y1m M σ) (y13 M) (fun _ _ => .bad) (y0o P M σ) (zww P M σ)
  (ztq P M σ) (y0w P M σ) (zu0 P M σ) (zsn P M σ) (y07 P M σ) (zxo P M σ) (fun _ _ _ => .bad) (fun _ _ _ _ => .bad) (fun _ _ => .bad) (fun _ _ => .bad) (fun _ => .bad) (fun _ _ _ _ => .bad)
  (zr2 M σ) (y1h P M σ) (fun _ => .bad) (fun _ => .bad) (fun _ => .bad) (fun _ _ => .bad) (fun _ _ _ => .bad) (fun _ _ => .bad) o
noncomputable def exec (P : Program) (M : Mem) (σ : Tree SV) (o : Oper) : Out := Oper.rec (fun _ op _ _ _ _ => execO P M σ op) o

theorem zkk (P : Program) (M : Mem) (σ : Tree SV) (o : Oper) : exec P M σ o = zic P M σ o := by
 obtain ⟨dst, op, type, pos, after, guard⟩ := o
 cases op with
 | makeMap t r => cases r <;> rfl
 | call c =>
  obtain ⟨callee, as, ts⟩ := c
  cases callee <;> rfl
 | _ => rfl

theorem zkh (hr : MRel B m M w) (ht : zku m σ tm) (o : Oper) : zib P B m M w (execOp (den tm) o) (exec P M σ o) := by
 have A : ∀ {x : Operand} {s : SV}, arg M σ x = some s → conc m s = some (den tm x) := fun h => zmm hr ht h
 have AS : ∀ {l : Array Operand} {r : List SV}, args M σ l.toList = some r → concs m r = some (l.map (den tm)).toList := by
  intro l r h
  rw [Array.toList_map]
  exact zuz hr ht h
 have PS : ∀ {l : Array (Nat × Operand)} {r : List (Nat × SV)}, zj0 M σ l.toList = some r → zn5 m r (l.map fun (i, x) => (i, den tm x)).toList := by
  intro l r h
  rw [Array.toList_map]
  exact zo4 hr ht h
 rw [zkk]
 obtain ⟨dst, op, type, pos, after, guard⟩ := o
 cases op with
 | move x => exact zi1 fun s h => ⟨.value _, m, w, rfl, A h, .refl hr⟩
 | assign x => exact zi1 fun s h => ⟨.value _, m, w, rfl, A h, .refl hr⟩
 | pick c a b =>
  refine zi1 fun c' hc => zi1 fun a' ha => zi1 fun b' hb => ?_
  have hc' := A hc
  unfold zw9
  split
  ·have e : den tm c = .bool true := by simp [conc] at hc'; exact hc'.symm
   refine ⟨.value (den tm a), m, w, ?_, A ha, .refl hr⟩
   show (do Pure.pure (Next.value (if ← asBool (den tm c) then den tm a else den tm b)) : Sem Next).run P w = _
   rw [e]
   simp [asBool]
  ·have e : den tm c = .bool false := by simp [conc] at hc'; exact hc'.symm
   refine ⟨.value (den tm b), m, w, ?_, A hb, .refl hr⟩
   show (do Pure.pure (Next.value (if ← asBool (den tm c) then den tm a else den tm b)) : Sem Next).run P w = _
   rw [e]
   simp [asBool]
  ·trivial
 | alloc e => exact zto hr e
 | box e x => exact zi1 fun s h => zwl hr e (A h)
 | build t ps => exact zi1 fun s h => zu9 hr (PS h)
 | buildSlice t n ps => exact zi1 fun s h => zoi hr (PS h)
 | load t a => exact zi1 fun s h => zqf hr (A h)
 | store t a x => exact zi1 fun s h => zi1 fun s' h' => zt9 hr (A h) (A h')
 | nilCheck x =>
  refine zi1 fun s h => ?_
  have hc := A h
  unfold zvf
  split
  next name t v as cs =>
   split
   next f hm =>
    split
    next e hu =>
     have hc' := hc
     simp only [conc, concs, Option.bind_eq_some_iff, Option.map_eq_some_iff] at hc'
     obtain ⟨a, ⟨i, ⟨x', _, rfl⟩, r, _, rfl⟩, b, _, he⟩ := hc'
     refine ⟨.value (den tm x), m, w, ?_, hc, .refl hr⟩
     have hk := zxc (P := P) (w := w) hm hu x' (P.types.size + 99)
     unfold execOp
     simp only [← he, List.getElem?_toArray, List.getElem?_cons_zero, Sem.run_bind, program]
     rw [show Sem.run P (Sem.program .pure) w = .ok P w from rfl]
     simp only [Result.andThen_ok]
     rw [show P.types.size + Made.depth = P.types.size + 99 + 1 from rfl, hk]
     simp
    next => trivial
   next => trivial
  unfold zpc
  split
  ·obtain ⟨p, hp, e⟩ := zit hc
   refine ⟨.value (den tm x), m, w, ?_, hc, .refl hr⟩
   unfold execOp
   simp only [e]
   rfl
  ·have hc' := hc
   simp only [conc, Option.map_eq_some_iff] at hc'
   obtain ⟨v, _, e⟩ := hc'
   refine ⟨.value (den tm x), m, w, ?_, hc, .refl hr⟩
   unfold execOp
   simp only [← e]
   rfl
  ·obtain ⟨fs, cs, _, _, e⟩ := zo1 hc
   refine ⟨.value (den tm x), m, w, ?_, hc, .refl hr⟩
   unfold execOp
   simp only [e]
   rfl
  ·trivial
 | binOp op t x y u => exact zi1 fun s h => zi1 fun s' h' => zva hr (A h) (A h')
 | unOp op t x => exact zi1 fun s h => zyl hr (A h)
 | convert s d x => exact zi1 fun s h => zq2 hr (A h)
 | makeInterface t x => exact zi1 fun s h => ztv hr (A h)
 | makeFunc fn a b => exact zi1 fun s h => zi1 fun s' h' => zvs hr (AS h) (AS h')
 | makeSlice t l c => exact zi1 fun s h => zi1 fun s' h' => zvc hr (A h) (A h')
 | slice t x lo hi mx => exact zi1 fun s h => zi1 fun a ha => zi1 fun b hb => zi1 fun c hc => zu8 hr (A h) (zr9 hr ht ha) (zr9 hr ht hb) (zr9 hr ht hc)
 | fieldAddr t x k => exact zi1 fun s h => zp0 hr (A h)
 | field t x k => exact zi1 fun s h => ztj hr (A h)
 | indexAddr t x i => exact zi1 fun s h => zi1 fun s' h' => zpj hr (A h) (A h')
 | index t x i => exact zi1 fun s h => zi1 fun s' h' => zty hr (A h) (A h')
 | extract x k => exact zi1 fun s h => zra hr (A h)
 | makeMap t r =>
  cases r with
  | none => exact zqu hr t
  | some x => trivial
 | lookup t x k ok => exact zi1 fun s h => zi1 fun s' h' => zs6 hr (A h) (A h')
 | mapUpdate t x k v => exact zi1 fun s h => zi1 fun s' h' => zi1 fun s'' h'' => zlu hr (A h) (A h') (A h'')
 | insert t x k v => exact zi1 fun s h => zi1 fun s' h' => zi1 fun s'' h'' => zlu hr (A h) (A h') (A h'')
 | call c =>
  obtain ⟨callee, as, ts⟩ := c
  cases callee with
  | builtin b => exact zi1 fun s h => zqw hr (AS h)
  | value f =>
   refine zi1 fun s h => zi1 fun s' h' => ?_
   exact zts hr (A h) (AS h')
  | invoke r n =>
   refine zi1 fun s h => zi1 fun s' h' => ?_
   exact zsd hr (A h) (AS h')
 | _ => trivial

end
end Go.Ev

/- Frames, temporaries, guards; calls that are known. -/
namespace Go.Ev
open Go.RowKit
variable {P : Program}

/-- Calls that are known. -/
abbrev Known := FuncId → List SV → Mem → Option (SV × Mem)

noncomputable def zlp (σ : Tree SV) (n : Nat) (d : Option Tmp) (s : SV) : Option (Tree SV) :=
 match d with
 | none => some σ
 | some d => match Nat.ble (Nat.succ d) n with
  | true => some (σ.put (some s) (Pos.ofNat d))
  | false => none

/-- Is an operation to be carried out? -/
noncomputable def zil (all : Array Oper) (σ : Tree SV) (o : Oper) : Option Bool :=
 match o.guard with
 | none => some true
 | some (j, want) => match (all[j]?).bind (·.dst) with
  | none => some false
  | some d => match σ.get (Pos.ofNat d) with
   | some (.bool b) => some (b == want)
   | some (.tuple []) => some false
   | _ => none

/-- A frame that runs. -/
structure Cx where
 fn : FuncId
 ds : List Deferred
 rd : Option Nat
def mkF (cx : Cx) (tm : Array Value) (todo : List Item) : Frame := { fn := cx.fn, tmps := tm, todo, defers := cx.ds, mode := .run, kind := .normal, roundOf := cx.rd }

theorem zkf {M : Mem} {σ : Tree SV} {o : Oper} (h : exec P M σ o ≠ .bad) : ∀ c, o.op ≠ .defer c := by
 intro c hc
 apply h
 rw [zkk]
 unfold zic
 rw [hc]

theorem zja (tm : Array Value) (ds : List Deferred) : (Act.eval ⟨tm, ds⟩) = den tm := by
 funext x; cases x <;> rfl

/-- The known calls are as they are said to be. -/
def Sound (P : Program) (B : Nat) (I : Known) : Prop := ∀ f as M s M', I f as M = some (s, M') → ∀ (m : Map) (w : World) (vs : Array Value), MRel B m M w → concs m as = some vs.toList →
 ∀ (c : Frame) (cs : List Frame), ∃ m' w' v, zi0 B m M w m' M' w' ∧ conc m' s = some v ∧ Steps P (lone (Frame.enter P f vs .normal) (c :: cs) w) (lone (c.finish v) cs w')

theorem sound_none (P : Program) (B : Nat) : Sound P B (fun _ _ _ => none) := by
 intro f as M s M' h
 simp at h

section
variable {B : Nat} {m : Map} {M : Mem} {w : World}

theorem zm9 {σ σ' : Tree SV} {tm : Array Value} {n : Nat} {d : Option Tmp} {s : SV} {v : Value} (h : zlp σ n d s = some σ') (ht : zku m σ tm) (hn : tm.size = n) (hv : conc m s = some v) :
  ∃ tm', (∀ ds, Act.put ⟨tm, ds⟩ d v = ⟨tm', ds⟩) ∧ zku m σ' tm' ∧ tm'.size = n := by
 unfold zlp at h
 split at h
 ·simp only [Option.some.injEq] at h
  subst h
  exact ⟨tm, fun _ => rfl, ht, hn⟩
 ·rename_i d
  split at h
  ·rename_i hb
   simp only [Option.some.injEq] at h
   subst h
   have := Nat.le_of_ble_eq_true hb
   exact ⟨tm.setIfInBounds d v, fun _ => rfl, ht.put (by omega) hv, by simpa using hn⟩
  ·simp at h

theorem zj9 {all : Array Oper} {σ : Tree SV} {tm : Array Value} {o : Oper} {b : Bool} (h : zil all σ o = some b) (ht : zku m σ tm) : Region.wanted o (yielded all tm) = b := by
 unfold zil at h
 unfold Region.wanted
 split at h
 ·rename_i hg
  rw [hg]
  simpa using h
 ·rename_i j want hg
  rw [hg]
  simp only [yielded]
  split at h
  ·rename_i hd
   simp only [Option.some.injEq] at h
   subst h
   rw [hd]
   rfl
  ·rename_i d hd
   rw [hd]
   split at h
   ·rename_i x hx
    simp only [Option.some.injEq] at h
    subst h
    obtain ⟨v, h1, h2⟩ := ht _ _ hx
    have : v = .bool x := by simp [conc] at h2; exact h2.symm
    subst this
    simp [h1]
   ·rename_i hx
    simp only [Option.some.injEq] at h
    subst h
    obtain ⟨v, h1, h2⟩ := ht _ _ hx
    have : v = .tuple #[] := by simp [conc, concs] at h2; exact h2.symm
    subst this
    simp [h1]
   ·simp at h

end
end Go.Ev

