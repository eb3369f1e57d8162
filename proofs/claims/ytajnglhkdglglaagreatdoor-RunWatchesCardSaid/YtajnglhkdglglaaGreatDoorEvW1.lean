/- A part of the small machine. -/
import Derived.Test.YtajnglhkdglglaaGreatDoorEvV14e
import Derived.RangeFuncLeaves
import Derived.RangeFuncNested
set_option linter.unusedVariables false
/- An operation of a region, as a whole. -/
namespace Go.Ev
open Go.RowKit
variable {P : Program}

noncomputable def zdi {α : Type} (x : Option α) (k : α → Out) : Out := Option.rec .bad (fun s => k s) x

section
variable {B : Nat} {m : Map} {M : Mem} {w : World} {σ : Tree SV} {tm : Array Value}

theorem zde {α : Type} {q : Sem Next} {x : Option α} {k : α → Out} (h : ∀ s, x = some s → zdo P B m M w q (k s)) : zdo P B m M w q (zdi x k) := by
 cases x with
 | none => trivial
 | some s => exact h s rfl

noncomputable def zpv (M : Mem) (σ : Tree SV) (x : Option Operand) : Option (Option SV) :=
 match x with
 | none => some none
 | some x => match arg M σ x with
  | some s => some (some s)
  | none => none

theorem zn8 (hr : MRel B m M w) (ht : zfg m σ tm) {x : Option Operand} {s : Option SV} (h : zpv M σ x = some s) : zk1 m s (x.map (den tm)) := by
 unfold zpv at h
 split at h
 ·simp only [Option.some.injEq] at h; subst h; trivial
 ·split at h
  ·rename_i hs
   simp only [Option.some.injEq] at h; subst h
   exact zif hr ht hs
  ·simp at h

/-- Operators on structs and arrays, too. -/
noncomputable def aggEq (P : Program) (t : TypeId) : Bool := P.eqGuardType P.depth t
noncomputable def zo7 (P : Program) (op : BinOp) (t : TypeId) (c : Bool) (a b : SV) (M : Mem) : Out :=
 match a with
 | .agg x => match b with
  | .agg y => match op, aggEq P t with
   | .eql, false => match eqA P 12 t (.agg x) (.agg y) with
    | some r => .val (.bool r) M
    | none => .bad
   | .neq, false => match eqA P 12 t (.agg x) (.agg y) with
    | some r => .val (.bool (Bool.rec true false r)) M
    | none => .bad
   | _, _ => .bad
  | _ => .bad
 | a => zya P op t c a b M

theorem zn0 (hr : MRel B m M w) {op : BinOp} {t : TypeId} {x y : Operand} {a b : SV} {v u : Value} (ha : conc m a = some v) (hb : conc m b = some u) :
  zdo P B m M w (do Pure.pure (Next.value (← (do eqGuard op t x y v u; binOp op t v u)))) (zo7 P op t (cst x || cst y) a b M) := by
 unfold zo7
 split
 next xs =>
  split
  next ys =>
   obtain ⟨vs, hvs, rfl⟩ := zez ha
   obtain ⟨us, hus, rfl⟩ := zez hb
   split
   next hg =>
    split
    next r hr' =>
     have he := zq3 (P := P) (w := w) hr' ha hb
     have hgr : (eqGuard .eql t x y (.agg vs.toArray) (.agg us.toArray)).run P w = .ok () w := by
      have hg' : P.eqGuardType P.depth t = false := hg
      simp [eqGuard, Sem.run_bind, program, Sem.run, hg']
     refine zdo.pure hr (v := .bool r) ?_ rfl
     rw [zkw ⟨by simp, by simp, by simp, by simp⟩]
     simp only [Sem.run_bind, hgr, he, Result.andThen_ok, Sem.run_pure]
    next => trivial
   next hg =>
    split
    next r hr' =>
     have he := zq3 (P := P) (w := w) hr' ha hb
     have hgr : (eqGuard .neq t x y (.agg vs.toArray) (.agg us.toArray)).run P w = .ok () w := by
      have hg' : P.eqGuardType P.depth t = false := hg
      simp [eqGuard, Sem.run_bind, program, Sem.run, hg']
     refine zdo.pure hr (v := .bool !r) ?_ (by cases r <;> rfl)
     rw [zkx ⟨by simp, by simp, by simp, by simp⟩]
     simp only [Sem.run_bind, hgr, he, Result.andThen_ok, Sem.run_pure]
    next => trivial
   next => trivial
  next => trivial
 next => exact zvd hr ha hb

noncomputable def zke (P : Program) (op : BinOp) (t : TypeId) (c : Bool) (a b : SV) (M : Mem) : Out :=
 match a with
 | .ptr x o => match zy1 P op t (.ptr x o) b with
  | some r => .val (.bool r) M
  | none => zo7 P op t c (.ptr x o) b M
 | a => zo7 P op t c a b M
theorem zt2 (hr : MRel B m M w) {op : BinOp} {t : TypeId} {x y : Operand} {a b : SV} {v u : Value} (ha : conc m a = some v) (hb : conc m b = some u) :
  zdo P B m M w (do Pure.pure (Next.value (← (do eqGuard op t x y v u; binOp op t v u)))) (zke P op t (cst x || cst y) a b M) := by
 unfold zke
 split
 next xs o =>
  split
  next r hr' => exact zdo.pure hr (v := .bool r) (zuv hr' ha hb x y) rfl
  next => exact zn0 hr ha hb
 next => exact zn0 hr ha hb

noncomputable def zoc (P : Program) (t : TypeId) (x : SV) (M : Mem) : Out :=
 match x with
 | .map b => match Vr P t, zmk M b with
  | some .map, some (es, _) => .val (goI es.length) M
  | _, _ => .bad
 | x => zyb P t x M

theorem ze1.len {α β : Type} {R : α → β → Prop} : ∀ {l : List α} {k : List β}, ze1 R l k → l.length = k.length
 | _, _, .nil => rfl
 | _, _, .cons _ h => by simp [ze1.len h]

theorem zt6 (hr : MRel B m M w) {t ty : TypeId} {x : SV} {v : Value} (hv : conc m x = some v) :
  zdo P B m M w (do Pure.pure (Next.value (← Builtin.len_ #[t] ty #[v]))) (zoc P t x M) := by
 unfold zoc
 split
 next b =>
  obtain ⟨p, hp, rfl⟩ := zkj hv
  split
  next es c hk hb =>
   obtain ⟨k, e, hd⟩ := zro hk
   obtain ⟨a, ha, hent⟩ := zrq hr hb hp
   have hget : (getObj p.block).run P w = .ok (.map a c) w := by simp [getObj, Sem.run, ha]
   refine zdo.pure hr (v := goInt a.size) ?_ ?_
   ·simp only [Builtin.len_, List.getElem?_toArray, List.getElem?_cons_zero, Sem.run_bind, run_underlying hd, Result.andThen_ok, hget, Sem.run_pure]
   ·have := hent.len
    simp only [Array.length_toList] at this
    rw [this]; rfl
  next => trivial
 next => exact zvh hr hv

/-- MIN, MAX of numbers -/
noncomputable def zx5 (k : IntKind) (x : Int) : List SV → Option SV
 | [] => some (.int k x)
 | .int _ y :: l => match leZ x y with
  | true => zx5 k x l
  | false => zx5 k y l
 | _ => none
noncomputable def zx4 (k : IntKind) (x : Int) : List SV → Option SV
 | [] => some (.int k x)
 | .int _ y :: l => match leZ y x with
  | true => zx4 k x l
  | false => zx4 k y l
 | _ => none

theorem zns (w : World) : ∀ {l : List SV} {k : IntKind} {x : Int} {s : SV} {vs : List Value}, zx5 k x l = some s → concs m l = some vs → ∃ v, (vs.foldlM Builtin.min2 (.int k x)).run P w = .ok v w ∧ conc m s = some v
 | [], k, x, s, vs, h, hc => by
  simp only [zx5, Option.some.injEq] at h
  simp only [concs, Option.some.injEq] at hc
  subst h hc
  exact ⟨_, rfl, rfl⟩
 | a :: l, k, x, s, vs, h, hc => by
  obtain ⟨v, r, h1, h2, rfl⟩ := zdf hc
  unfold zx5 at h
  split at h
  ·rename_i heq; simp at heq
  ·rename_i k' y l' heq
   simp only [List.cons.injEq] at heq
   obtain ⟨rfl, rfl⟩ := heq
   obtain rfl := zdk h1
   rw [List.foldlM_cons]
   split at h
   ·rename_i hle
    rw [zga] at hle
    have : ¬ (y < x) := by have := of_decide_eq_true hle; omega
    obtain ⟨u, hu, huc⟩ := zns w h h2
    exact ⟨u, by simp only [Sem.run_bind, Builtin.min2, if_neg this, Sem.run_pure, Result.andThen_ok]; exact hu, huc⟩
   ·rename_i hle
    rw [zga] at hle
    have : y < x := by have := of_decide_eq_false hle; omega
    obtain ⟨u, hu, huc⟩ := zns w h h2
    exact ⟨u, by simp only [Sem.run_bind, Builtin.min2, if_pos this, Sem.run_pure, Result.andThen_ok]; exact hu, huc⟩
  ·simp at h
theorem znr (w : World) : ∀ {l : List SV} {k : IntKind} {x : Int} {s : SV} {vs : List Value}, zx4 k x l = some s → concs m l = some vs → ∃ v, (vs.foldlM Builtin.max2 (.int k x)).run P w = .ok v w ∧ conc m s = some v
 | [], k, x, s, vs, h, hc => by
  simp only [zx4, Option.some.injEq] at h
  simp only [concs, Option.some.injEq] at hc
  subst h hc
  exact ⟨_, rfl, rfl⟩
 | a :: l, k, x, s, vs, h, hc => by
  obtain ⟨v, r, h1, h2, rfl⟩ := zdf hc
  unfold zx4 at h
  split at h
  ·rename_i heq; simp at heq
  ·rename_i k' y l' heq
   simp only [List.cons.injEq] at heq
   obtain ⟨rfl, rfl⟩ := heq
   obtain rfl := zdk h1
   rw [List.foldlM_cons]
   split at h
   ·rename_i hle
    rw [zga] at hle
    have : ¬ (y > x) := by have := of_decide_eq_true hle; omega
    obtain ⟨u, hu, huc⟩ := znr w h h2
    exact ⟨u, by simp only [Sem.run_bind, Builtin.max2, if_neg this, Sem.run_pure, Result.andThen_ok]; exact hu, huc⟩
   ·rename_i hle
    rw [zga] at hle
    have : y > x := by have := of_decide_eq_false hle; omega
    obtain ⟨u, hu, huc⟩ := znr w h h2
    exact ⟨u, by simp only [Sem.run_bind, Builtin.max2, if_pos this, Sem.run_pure, Result.andThen_ok]; exact hu, huc⟩
  ·simp at h

noncomputable def zz1 (as : List SV) (M : Mem) : Out := match as with
 | .int k x :: l => zdz M (zx5 k x l)
 | _ => .bad
noncomputable def zz0 (as : List SV) (M : Mem) : Out := match as with
 | .int k x :: l => zdz M (zx4 k x l)
 | _ => .bad
theorem zvj (hr : MRel B m M w) {as : List SV} {ts : Array TypeId} {ty : TypeId} {vs : Array Value} (h : concs m as = some vs.toList) : zdo P B m M w (do Pure.pure (Next.value (← Builtin.min_ ts ty vs))) (zz1 as M) := by
 unfold zz1
 split
 next k x l =>
  obtain ⟨v, r, h1, h2, h3⟩ := zdf h
  obtain rfl := zdk h1
  refine zfj hr fun s hs => ?_
  obtain ⟨u, hu, huc⟩ := zns (P := P) w hs h2
  exact ⟨u, by unfold Builtin.min_; rw [h3]; exact hu, huc⟩
 next => trivial
theorem zvi (hr : MRel B m M w) {as : List SV} {ts : Array TypeId} {ty : TypeId} {vs : Array Value} (h : concs m as = some vs.toList) : zdo P B m M w (do Pure.pure (Next.value (← Builtin.max_ ts ty vs))) (zz0 as M) := by
 unfold zz0
 split
 next k x l =>
  obtain ⟨v, r, h1, h2, h3⟩ := zdf h
  obtain rfl := zdk h1
  refine zfj hr fun s hs => ?_
  obtain ⟨u, hu, huc⟩ := znr (P := P) w hs h2
  exact ⟨u, by unfold Builtin.max_; rw [h3]; exact hu, huc⟩
 next => trivial

noncomputable def zeq (P : Program) (b : Builtin) (ts : List TypeId) (as : List SV) (M : Mem) : Out :=
 match b with
 | .append => match ts, as with
  | [t, u], [x, y] => zfe P t u x y M
  | _, _ => .bad
 | .copy => match ts, as with
  | [t, _], [x, y] => zqy P t x y M
  | _, _ => .bad
 | .len => match ts, as with
  | [t], [x] => zoc P t x M
  | _, _ => .bad
 | .min => zz1 as M
 | .max => zz0 as M
 | .cap => match ts, as with
  | [t], [x] => zyz P t x M
  | _, _ => .bad
 | .delete => match ts, as with
  | [t, _], [x, k] => zqz P t x k M
  | _, _ => .bad
 | .clear => match ts, as with
  | [t], [x] => zn2 P t x M
  | _, _ => .bad
 | .unsafeSliceData => match as with
  | [x] => zgu x M
  | _ => .bad
 | .unsafeString => match as with
  | [x, l] => zoe P ts x l M
  | _ => .bad
 | _ => .bad

theorem zo8 (hr : MRel B m M w) {b : Builtin} {ts : Array TypeId} {ty : TypeId} {cs : Array Bool} {as : List SV} {vs : Array Value} (h : concs m as = some vs.toList) :
  zdo P B m M w (builtin b ts ty cs vs) (zeq P b ts.toList as M) := by
 obtain ⟨ts⟩ := ts
 obtain ⟨vs⟩ := vs
 simp only at h
 unfold zeq
 split
 ·split
  ·obtain ⟨v, u, h1, h2, rfl⟩ := zhl h
   rename_i hts
   simp only at hts
   subst hts
   exact zpk hr h1 h2
  ·trivial
 ·split
  ·obtain ⟨v, u, h1, h2, rfl⟩ := zhl h
   rename_i hts
   simp only at hts
   subst hts
   exact zt4 hr h1 h2
  ·trivial
 ·split
  ·obtain ⟨v, h1, rfl⟩ := zfo h
   rename_i hts
   simp only at hts
   subst hts
   exact zt6 hr h1
  ·trivial
 ·exact zvj hr h
 ·exact zvi hr h
 ·split
  ·obtain ⟨v, h1, rfl⟩ := zfo h
   rename_i hts
   simp only at hts
   subst hts
   exact zvf hr h1
  ·trivial
 ·split
  ·obtain ⟨v, u, h1, h2, rfl⟩ := zhl h
   rename_i hts
   simp only at hts
   subst hts
   exact zpp hr h1 h2
  ·trivial
 ·split
  ·obtain ⟨v, h1, rfl⟩ := zfo h
   rename_i hts
   simp only at hts
   subst hts
   exact zqx hr h1
  ·trivial
 ·split
  ·obtain ⟨v, h1, rfl⟩ := zfo h
   exact zmc hr h1
  ·trivial
 ·split
  ·obtain ⟨v, u, h1, h2, rfl⟩ := zhl h
   exact zof hr h1 h2
  ·trivial
 ·trivial

/-- CALLS OF A METHOD THROUGH AN INTERFACE: the dynamic type's own method. -/
noncomputable def zsn (P : Program) (t : TypeId) (name : String) : Option FuncId :=
 match P.info? t with
 | none => none
 | some i => match i.methods.find? (·.name == name) with
  | none => none
  | some mt => match mt.path.toList, mt.func with
   | [], some (f, true) => match P.underlying t with
    | some (.pointer _) => some f
    | _ => none
   | [], some (f, false) => match P.underlying t with
    | some (.pointer _) => none
    | some _ => some f
    | none => none
   | _, _ => none

theorem zur {t : TypeId} {name : String} {f : FuncId} (h : zsn P t name = some f) (v : Value) (k : Nat) : (method (k + 1) t v name).run P w = .ok (f, v) w := by
 unfold zsn at h
 split at h
 ·simp at h
 ·rename_i i hi
  split at h
  ·simp at h
  ·rename_i mt hm
   have hti : (typeInfo t).run P w = .ok i w := by simp [typeInfo, Sem.run_bind, program, Sem.run, hi]
   split at h
   ·rename_i g hp hf
    split at h
    ·rename_i e hu
     simp only [Option.some.injEq] at h
     subst h
     simp only [method, Sem.run_bind, hti, Result.andThen_ok, hm, hp, follow, Sem.run_pure, hf, receiverAt, run_underlying hu, Place.get]
    ·simp at h
   ·rename_i g hp hf
    split at h
    ·simp at h
    ·rename_i d hne hu
     simp only [Option.some.injEq] at h
     subst h
     simp only [method, Sem.run_bind, hti, Result.andThen_ok, hm, hp, follow, Sem.run_pure, hf, receiverAt, run_underlying hu]
     simp [Place.get]
    ·simp at h
   ·simp at h

/-- A method's value of an interface value: its receiver is asked ahead. -/
noncomputable def zvk (P : Program) (x : SV) (M : Mem) : Out :=
 match x with
 | .fn (.method name) (.iface t v :: as) cs => match zsn P t name with
  | some _ => match P.underlying t with
   | some (.pointer _) => .val (.fn (.method name) (.iface t v :: as) cs) M
   | _ => .bad
  | none => .bad
 | x => zmb x M

theorem zuq {t : TypeId} {name : String} {f : FuncId} {e : TypeId} (h : zsn P t name = some f) (hu : P.underlying t = some (.pointer e)) (v : Value) (k : Nat) : (nilAhead (k + 1) t v name).run P w = .ok (some false) w := by
 unfold zsn at h
 split at h
 ·simp at h
 ·rename_i i hi
  split at h
  ·simp at h
  ·rename_i mt hm
   have hti : (typeInfo t).run P w = .ok i w := by simp [typeInfo, Sem.run_bind, program, Sem.run, hi]
   split at h
   ·rename_i g hp hf
    simp only [nilAhead, Sem.run_bind, hti, Result.andThen_ok, hm, hp, followBlind, Sem.run_pure, hf]
   ·rename_i g hp hf
    split at h
    ·simp at h
    ·rename_i d hne hu'
     rw [hu'] at hu
     simp only [Option.some.injEq] at hu
     exact absurd hu (hne e)
    ·simp at h
   ·simp at h

noncomputable def zob (P : Program) (name : String) (r : SV) (as : List SV) (M : Mem) : Out :=
 match r with
 | .iface t v => match zsn P t name with
  | none => .bad
  | some f => match Ts P f with
   | true => .enter f (v :: as) M
   | false => .bad
 | _ => .bad

theorem zpq (hr : MRel B m M w) {r : SV} {as : List SV} {rv : Value} {vs : Array Value} {name : String} (hf : conc m r = some rv) (has : concs m as = some vs.toList) :
  zdo P B m M w (invoke (.fn (.method name) #[]) (#[rv] ++ vs)) (zob P name r as M) := by
 unfold zob
 split
 next t v =>
  simp only [conc, Option.map_eq_some_iff] at hf
  obtain ⟨x, hx, rfl⟩ := hf
  split
  next => trivial
  next f hm =>
   split
   next hc =>
    refine ⟨#[x] ++ vs, m, w, ?_, ?_, .refl hr⟩
    ·have h0 : (#[Value.iface t x] ++ vs)[0]? = some (.iface t x) := by
      rw [← Array.getElem?_toList, Array.toList_append]
      rfl
     have h1 : (#[Value.iface t x] ++ vs).extract 1 (#[Value.iface t x] ++ vs).size = vs := by
      apply Array.ext'
      rw [Array.toList_extract, Array.toList_append, Array.size_append]
      show ((Value.iface t x) :: vs.toList).extract 1 (1 + vs.size) = vs.toList
      simp [List.extract, List.take_of_length_le]
     have hk := zur (P := P) (w := w) hm x (P.types.size + 99)
     simp only [invoke, h0, h1, callMethod, Sem.run_bind, program]
     rw [show Sem.run P (Sem.program .pure) w = .ok P w from rfl]
     simp only [Result.andThen_ok]
     rw [show P.types.size + Made.depth = P.types.size + 99 + 1 from rfl, hk]
     exact zhj hc _ _
    ·have := K4 hx has
     simpa using this
   next => trivial
 next => trivial

noncomputable def zvl (c a b : SV) (M : Mem) : Out :=
 match c with
 | .bool true => .val a M
 | .bool false => .val b M
 | _ => .bad

noncomputable def zdq (P : Program) (M : Mem) (σ : Tree SV) (o : Oper) : Out :=
 match o.op with
 | .move x => zdi (arg M σ x) fun s => .val s M
 | .assign x => zdi (arg M σ x) fun s => .val s M
 | .pick c a b => zdi (arg M σ c) fun c => zdi (arg M σ a) fun a => zdi (arg M σ b) fun b => zvl c a b M
 | .alloc e => zmz P e M
 | .box t x => zdi (arg M σ x) fun s => zz2 t (cellsOf s) M
 | .build t ps => zdi (zek M σ ps.toList) fun l => zkb P t l M
 | .buildSlice t n ps => zdi (zek M σ ps.toList) fun l => zfl P t n l M
 | .load t a => zdi (arg M σ a) fun a => zil P t a M
 | .store t a x => zdi (arg M σ a) fun a => zdi (arg M σ x) fun x => zn6 P t a x M
 | .nilCheck x => zdi (arg M σ x) fun x => zvk P x M
 | .binOp op t x y _ => zdi (arg M σ x) fun a => zdi (arg M σ y) fun b => zke P op t (cst x || cst y) a b M
 | .unOp op _ x => zdi (arg M σ x) fun x => xUn op x M
 | .convert s d x => zdi (arg M σ x) fun x => zey P s d x M
 | .makeInterface t x => zdi (arg M σ x) fun x => zn4 P t x M
 | .makeFunc fn a b => zdi (args M σ a.toList) fun a => zdi (args M σ b.toList) fun b => .val (.fn fn a b) M
 | .makeSlice t l c => zdi (arg M σ l) fun l => zdi (arg M σ c) fun c => zt7 P t l c M
 | .slice t x lo hi mx => zdi (arg M σ x) fun x => zdi (zpv M σ lo) fun lo => zdi (zpv M σ hi) fun hi => zdi (zpv M σ mx) fun mx => zft P t x lo hi mx M
 | .fieldAddr t x k => zdi (arg M σ x) fun x => zf9 P t k x M
 | .field t x k => zdi (arg M σ x) fun x => zn3 P t k x M
 | .indexAddr t x i => zdi (arg M σ x) fun x => zdi (arg M σ i) fun i => zdr P t x i M
 | .index t x i => zdi (arg M σ x) fun x => zdi (arg M σ i) fun i => zid P t x i M
 | .extract x k => zdi (arg M σ x) fun x => zer k x M
 | .makeMap _ none => zjf M
 | .lookup t x k ok => zdi (arg M σ x) fun x => zdi (arg M σ k) fun k => zh8 P t x k ok M
 | .mapUpdate t x k v => zdi (arg M σ x) fun x => zdi (arg M σ k) fun k => zdi (arg M σ v) fun v => zes P t x k v M
 | .insert t x k v => zdi (arg M σ x) fun x => zdi (arg M σ k) fun k => zdi (arg M σ v) fun v => zes P t x k v M
 | .call c => match c.callee with
  | .builtin b => zdi (args M σ c.args.toList) fun as => zeq P b c.argTypes.toList as M
  | .value f => zdi (arg M σ f) fun f => zdi (args M σ c.args.toList) fun as => zkc P f as M
  | .invoke r n => zdi (arg M σ r) fun r => zdi (args M σ c.args.toList) fun as => zob P n r as M
 | _ => .bad

/- The same, each case a constant of its own: less to carry about in a step. -/
noncomputable def zvz (M : Mem) (σ : Tree SV) (x : Operand) : Out := Option.rec .bad (fun s => .val s M) (arg M σ x)
noncomputable def ztq (M : Mem) (σ : Tree SV) (c a b : Operand) : Out := zdi (arg M σ c) fun c => zdi (arg M σ a) fun a => zdi (arg M σ b) fun b => zvl c a b M
noncomputable def zyi (P : Program) (M : Mem) (e : TypeId) : Out := zmz P e M
noncomputable def zzb (M : Mem) (σ : Tree SV) (t : TypeId) (x : Operand) : Out := zdi (arg M σ x) fun s => zz2 t (cellsOf s) M
noncomputable def ztm (P : Program) (M : Mem) (σ : Tree SV) (t : TypeId) (ps : Array (Nat × Operand)) : Out := zdi (zek M σ ps.toList) fun l => zkb P t l M
noncomputable def zpz (P : Program) (M : Mem) (σ : Tree SV) (t : TypeId) (n : Nat) (ps : Array (Nat × Operand)) : Out := zdi (zek M σ ps.toList) fun l => zfl P t n l M
noncomputable def zto (P : Program) (M : Mem) (σ : Tree SV) (t : TypeId) (a : Operand) : Out := zdi (arg M σ a) fun a => zil P t a M
noncomputable def zts (P : Program) (M : Mem) (σ : Tree SV) (t : TypeId) (a x : Operand) : Out := zdi (arg M σ a) fun a => zdi (arg M σ x) fun x => zn6 P t a x M
noncomputable def zzt (P : Program) (M : Mem) (σ : Tree SV) (x : Operand) : Out := zdi (arg M σ x) fun x => zvk P x M
noncomputable def zza (P : Program) (M : Mem) (σ : Tree SV) (op : BinOp) (t : TypeId) (x y : Operand) (_ : TypeId) : Out := zdi (arg M σ x) fun a => zdi (arg M σ y) fun b => zke P op t (cst x || cst y) a b M
noncomputable def eUn (M : Mem) (σ : Tree SV) (op : UnOp) (_ : TypeId) (x : Operand) : Out := zdi (arg M σ x) fun x => xUn op x M
noncomputable def ztn (P : Program) (M : Mem) (σ : Tree SV) (s d : TypeId) (x : Operand) : Out := zdi (arg M σ x) fun x => zey P s d x M
noncomputable def zyk (P : Program) (M : Mem) (σ : Tree SV) (t : TypeId) (x : Operand) : Out := zdi (arg M σ x) fun x => zn4 P t x M
noncomputable def zzd (M : Mem) (σ : Tree SV) (fn : Fn) (a b : Array Operand) : Out := zdi (args M σ a.toList) fun a => zdi (args M σ b.toList) fun b => .val (.fn fn a b) M
noncomputable def ztp (P : Program) (M : Mem) (σ : Tree SV) (t : TypeId) (l c : Operand) : Out := zdi (arg M σ l) fun l => zdi (arg M σ c) fun c => zt7 P t l c M
noncomputable def ztr (P : Program) (M : Mem) (σ : Tree SV) (t : TypeId) (x : Operand) (lo hi mx : Option Operand) : Out := zdi (arg M σ x) fun x => zdi (zpv M σ lo) fun lo => zdi (zpv M σ hi) fun hi => zdi (zpv M σ mx) fun mx => zft P t x lo hi mx M
noncomputable def zq0 (P : Program) (M : Mem) (σ : Tree SV) (t : TypeId) (x : Operand) (k : Nat) : Out := zdi (arg M σ x) fun x => zf9 P t k x M
noncomputable def zyj (P : Program) (M : Mem) (σ : Tree SV) (t : TypeId) (x : Operand) (k : Nat) : Out := zdi (arg M σ x) fun x => zn3 P t k x M
noncomputable def zq1 (P : Program) (M : Mem) (σ : Tree SV) (t : TypeId) (x i : Operand) : Out := zdi (arg M σ x) fun x => zdi (arg M σ i) fun i => zdr P t x i M
noncomputable def zop (P : Program) (M : Mem) (σ : Tree SV) (t : TypeId) (x i : Operand) : Out := zdi (arg M σ x) fun x => zdi (arg M σ i) fun i => zid P t x i M
noncomputable def znc (M : Mem) (σ : Tree SV) (x : Operand) (k : Nat) : Out := zdi (arg M σ x) fun x => zer k x M
noncomputable def zyl (M : Mem) (_ : TypeId) (r : Option Operand) : Out := match r with
 | none => zjf M
 | some _ => .bad
noncomputable def zxk (P : Program) (M : Mem) (σ : Tree SV) (t : TypeId) (x k : Operand) (ok : Bool) : Out := zdi (arg M σ x) fun x => zdi (arg M σ k) fun k => zh8 P t x k ok M
noncomputable def ztt (P : Program) (M : Mem) (σ : Tree SV) (t : TypeId) (x k v : Operand) : Out := zdi (arg M σ x) fun x => zdi (arg M σ k) fun k => zdi (arg M σ v) fun v => zes P t x k v M
noncomputable def znb (P : Program) (M : Mem) (σ : Tree SV) (as : Array Operand) (ts : Array TypeId) (b : Builtin) : Out := zdi (args M σ as.toList) fun as => zeq P b ts.toList as M
noncomputable def zoq (P : Program) (M : Mem) (σ : Tree SV) (as : Array Operand) (f : Operand) : Out := zdi (arg M σ f) fun f => zdi (args M σ as.toList) fun as => zkc P f as M
noncomputable def zxj (P : Program) (M : Mem) (σ : Tree SV) (as : Array Operand) (r : Operand) (n : String) : Out := zdi (arg M σ r) fun r => zdi (args M σ as.toList) fun as => zob P n r as M
noncomputable def zzc (P : Program) (M : Mem) (σ : Tree SV) (c : Call) : Out := Call.rec (fun callee as ts => Callee.rec (motive := fun _ => Out) (zoq P M σ as) (zxj P M σ as) (znb P M σ as ts) callee) c

noncomputable def Qy (P : Program) (M : Mem) (σ : Tree SV) (o : Op) : Out :=
 Op.rec (motive := fun _ => Out) (zvz M σ) (zvz M σ) (ztq M σ) (zyi P M) (zzb M σ) (ztm P M σ) (zpz P M σ) (ztt P M σ) (zto P M σ) (zts P M σ)
  (fun _ => .bad) (fun _ => .bad) (zzt P M σ) (zza P M σ) (eUn M σ) (ztn P M σ) (fun _ _ => .bad) (zyk P M σ) (zzd M σ) (zyl M) (fun _ _ => .bad) (ztp P M σ) (ztr P M σ)
  (zq0 P M σ) (zyj P M σ) (zq1 P M σ) (zop P M σ) (zxk P M σ) (ztt P M σ) (fun _ _ _ => .bad) (fun _ _ _ _ => .bad) (fun _ _ => .bad) (fun _ _ => .bad) (fun _ => .bad) (fun _ _ _ _ => .bad)
  (znc M σ) (zzc P M σ) (fun _ => .bad) (fun _ => .bad) (fun _ => .bad) (fun _ _ => .bad) (fun _ _ _ => .bad) (fun _ _ => .bad) o
noncomputable def exec (P : Program) (M : Mem) (σ : Tree SV) (o : Oper) : Out := Oper.rec (fun _ op _ _ _ _ => Qy P M σ op) o

theorem zg9 (P : Program) (M : Mem) (σ : Tree SV) (o : Oper) : exec P M σ o = zdq P M σ o := by
 obtain ⟨dst, op, type, pos, after, guard⟩ := o
 cases op with
 | makeMap t r => cases r <;> rfl
 | call c =>
  obtain ⟨callee, as, ts⟩ := c
  cases callee <;> rfl
 | _ => rfl

theorem zfp (hr : MRel B m M w) (ht : zfg m σ tm) (o : Oper) : zdo P B m M w (execOp (den tm) o) (exec P M σ o) := by
 have A : ∀ {x : Operand} {s : SV}, arg M σ x = some s → conc m s = some (den tm x) := fun h => zif hr ht h
 have AS : ∀ {l : Array Operand} {r : List SV}, args M σ l.toList = some r → concs m r = some (l.map (den tm)).toList := by
  intro l r h
  rw [Array.toList_map]
  exact zr7 hr ht h
 have PS : ∀ {l : Array (Nat × Operand)} {r : List (Nat × SV)}, zek M σ l.toList = some r → zj3 m r (l.map fun (i, x) => (i, den tm x)).toList := by
  intro l r h
  rw [Array.toList_map]
  exact zk9 hr ht h
 rw [zg9]
 obtain ⟨dst, op, type, pos, after, guard⟩ := o
 cases op with
 | move x => exact zde fun s h => ⟨.value _, m, w, rfl, A h, .refl hr⟩
 | assign x => exact zde fun s h => ⟨.value _, m, w, rfl, A h, .refl hr⟩
 | pick c a b =>
  refine zde fun c' hc => zde fun a' ha => zde fun b' hb => ?_
  have hc' := A hc
  unfold zvl
  split
  ·have e : den tm c = .bool true := by simp [conc] at hc'; exact hc'.symm
   refine ⟨.value (den tm a), m, w, ?_, A ha, .refl hr⟩
   show (do Pure.pure (Next.value (if ← asBool (den tm c) then den tm a else den tm b)) : Sem Next).run P w = _
   rw [e]
   simp [asBool]
  ·have e : den tm c = .bool false := by simp [conc] at hc'; exact hc'.symm
   refine ⟨.value (den tm b), m, w, ?_, A hb, .refl hr⟩
   show (do Pure.pure (Next.value (if ← asBool (den tm c) then den tm a else den tm b)) : Sem Next).run P w = _
   rw [e]
   simp [asBool]
  ·trivial
 | alloc e => exact zqu hr e
 | box e x => exact zde fun s h => zve hr e (A h)
 | build t ps => exact zde fun s h => zqv hr (PS h)
 | buildSlice t n ps => exact zde fun s h => zkf hr (PS h)
 | load t a => exact zde fun s h => zn5 hr (A h)
 | store t a x => exact zde fun s h => zde fun s' h' => zr5 hr (A h) (A h')
 | nilCheck x =>
  refine zde fun s h => ?_
  have hc := A h
  unfold zvk
  split
  next name t v as cs =>
   split
   next f hm =>
    split
    next e hu =>
     have hc' := hc
     simp only [conc, concs, Option.bind_eq_some_iff, Option.map_eq_some_iff] at hc'
     obtain ⟨a, ⟨i, ⟨x', _, rfl⟩, r, _, rfl⟩, b, _, he⟩ := hc'
     refine ⟨.value (den tm x), m, w, ?_, hc, .refl hr⟩
     have hk := zuq (P := P) (w := w) hm hu x' (P.types.size + 99)
     unfold execOp
     simp only [← he, List.getElem?_toArray, List.getElem?_cons_zero, Sem.run_bind, program]
     rw [show Sem.run P (Sem.program .pure) w = .ok P w from rfl]
     simp only [Result.andThen_ok]
     rw [show P.types.size + Made.depth = P.types.size + 99 + 1 from rfl, hk]
     simp
    next => trivial
   next => trivial
  unfold zmb
  split
  ·obtain ⟨p, hp, e⟩ := zeb hc
   refine ⟨.value (den tm x), m, w, ?_, hc, .refl hr⟩
   unfold execOp
   simp only [e]
   rfl
  ·have hc' := hc
   simp only [conc, Option.map_eq_some_iff] at hc'
   obtain ⟨v, _, e⟩ := hc'
   refine ⟨.value (den tm x), m, w, ?_, hc, .refl hr⟩
   unfold execOp
   simp only [← e]
   rfl
  ·obtain ⟨fs, cs, _, _, e⟩ := zhk hc
   refine ⟨.value (den tm x), m, w, ?_, hc, .refl hr⟩
   unfold execOp
   simp only [e]
   rfl
  ·trivial
 | binOp op t x y u => exact zde fun s h => zde fun s' h' => zt2 hr (A h) (A h')
 | unOp op t x => exact zde fun s h => zwy hr (A h)
 | convert s d x => exact zde fun s h => zml hr (A h)
 | makeInterface t x => exact zde fun s h => zr1 hr (A h)
 | makeFunc fn a b => exact zde fun s h => zde fun s' h' => zt5 hr (AS h) (AS h')
 | makeSlice t l c => exact zde fun s h => zde fun s' h' => zt8 hr (A h) (A h')
 | slice t x lo hi mx => exact zde fun s h => zde fun a ha => zde fun b hb => zde fun c hc => zr4 hr (A h) (zn8 hr ht ha) (zn8 hr ht hb) (zn8 hr ht hc)
 | fieldAddr t x k => exact zde fun s h => zm9 hr (A h)
 | field t x k => exact zde fun s h => zr0 hr (A h)
 | indexAddr t x i => exact zde fun s h => zde fun s' h' => zma hr (A h) (A h')
 | index t x i => exact zde fun s h => zde fun s' h' => zr2 hr (A h) (A h')
 | extract x k => exact zde fun s h => zoa hr (A h)
 | makeMap t r =>
  cases r with
  | none => exact zod hr t
  | some x => trivial
 | lookup t x k ok => exact zde fun s h => zde fun s' h' => zpr hr (A h) (A h')
 | mapUpdate t x k v => exact zde fun s h => zde fun s' h' => zde fun s'' h'' => zhv hr (A h) (A h') (A h'')
 | insert t x k v => exact zde fun s h => zde fun s' h' => zde fun s'' h'' => zhv hr (A h) (A h') (A h'')
 | call c =>
  obtain ⟨callee, as, ts⟩ := c
  cases callee with
  | builtin b => exact zde fun s h => zo8 hr (AS h)
  | value f =>
   refine zde fun s h => zde fun s' h' => ?_
   exact zqw hr (A h) (AS h')
  | invoke r n =>
   refine zde fun s h => zde fun s' h' => ?_
   exact zpq hr (A h) (AS h')
 | _ => trivial

end
end Go.Ev

/- Frames, temporaries, guards; calls that are known. -/
namespace Go.Ev
open Go.RowKit
variable {P : Program}

/-- Calls that are known. -/
abbrev Jg := FuncId → List SV → Mem → Option (SV × Mem)

noncomputable def zgb (σ : Tree SV) (n : Nat) (d : Option Tmp) (s : SV) : Option (Tree SV) :=
 match d with
 | none => some σ
 | some d => match Nat.ble (Nat.succ d) n with
  | true => some (σ.put (some s) (Pos.ofNat d))
  | false => none

/-- Is an operation to be carried out? -/
noncomputable def zdw (all : Array Oper) (σ : Tree SV) (o : Oper) : Option Bool :=
 match o.guard with
 | none => some true
 | some (j, want) => match (all[j]?).bind (·.dst) with
  | none => some false
  | some d => match σ.get (Pos.ofNat d) with
   | some (.bool b) => some (b == want)
   | some (.tuple []) => some false
   | _ => none

/-- A frame that runs. -/
structure Cx where
 fn : FuncId
 ds : List Deferred
 rd : Option Nat
def mkF (cx : Cx) (tm : Array Value) (todo : List Item) : Frame := { fn := cx.fn, tmps := tm, todo, defers := cx.ds, mode := .run, kind := .normal, roundOf := cx.rd }

theorem zfh {M : Mem} {σ : Tree SV} {o : Oper} (h : exec P M σ o ≠ .bad) : ∀ c, o.op ≠ .defer c := by
 intro c hc
 apply h
 rw [zg9]
 unfold zdq
 rw [hc]

theorem zej (tm : Array Value) (ds : List Deferred) : (Act.eval ⟨tm, ds⟩) = den tm := by
 funext x; cases x <;> rfl

/-- The known calls are as they are said to be. -/
def Kz (P : Program) (B : Nat) (I : Jg) : Prop := ∀ f as M s M', I f as M = some (s, M') → ∀ (m : Map) (w : World) (vs : Array Value), MRel B m M w → concs m as = some vs.toList →
 ∀ (c : Frame) (cs : List Frame), ∃ m' w' v, zdc B m M w m' M' w' ∧ conc m' s = some v ∧ Steps P (lone (Frame.enter P f vs .normal) (c :: cs) w) (lone (c.finish v) cs w')

theorem Zl (P : Program) (B : Nat) : Kz P B (fun _ _ _ => none) := by
 intro f as M s M' h
 simp at h

section
variable {B : Nat} {m : Map} {M : Mem} {w : World}

theorem zgc {σ σ' : Tree SV} {tm : Array Value} {n : Nat} {d : Option Tmp} {s : SV} {v : Value} (h : zgb σ n d s = some σ') (ht : zfg m σ tm) (hn : tm.size = n) (hv : conc m s = some v) :
  ∃ tm', (∀ ds, Act.put ⟨tm, ds⟩ d v = ⟨tm', ds⟩) ∧ zfg m σ' tm' ∧ tm'.size = n := by
 unfold zgb at h
 split at h
 ·simp only [Option.some.injEq] at h
  subst h
  exact ⟨tm, fun _ => rfl, ht, hn⟩
 ·rename_i d
  split at h
  ·rename_i hb
   simp only [Option.some.injEq] at h
   subst h
   have := Nat.le_of_ble_eq_true hb
   exact ⟨tm.setIfInBounds d v, fun _ => rfl, ht.put (by omega) hv, by simpa using hn⟩
  ·simp at h

theorem zeh {all : Array Oper} {σ : Tree SV} {tm : Array Value} {o : Oper} {b : Bool} (h : zdw all σ o = some b) (ht : zfg m σ tm) : Region.wanted o (yielded all tm) = b := by
 unfold zdw at h
 unfold Region.wanted
 split at h
 ·rename_i hg
  rw [hg]
  simpa using h
 ·rename_i j want hg
  rw [hg]
  simp only [yielded]
  split at h
  ·rename_i hd
   simp only [Option.some.injEq] at h
   subst h
   rw [hd]
   rfl
  ·rename_i d hd
   rw [hd]
   split at h
   ·rename_i x hx
    simp only [Option.some.injEq] at h
    subst h
    obtain ⟨v, h1, h2⟩ := ht _ _ hx
    have : v = .bool x := by simp [conc] at h2; exact h2.symm
    subst this
    simp [h1]
   ·rename_i hx
    simp only [Option.some.injEq] at h
    subst h
    obtain ⟨v, h1, h2⟩ := ht _ _ hx
    have : v = .tuple #[] := by simp [conc, concs] at h2; exact h2.symm
    subst this
    simp [h1]
   ·simp at h

end
end Go.Ev

