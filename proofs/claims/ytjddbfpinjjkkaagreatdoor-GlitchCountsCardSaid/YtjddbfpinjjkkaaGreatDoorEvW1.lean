/- A part of the small machine. -/
import Derived.Test.YtjddbfpinjjkkaaGreatDoorEvV14e
import Derived.RangeFuncLeaves
import Derived.RangeFuncNested
set_option linter.unusedVariables false
namespace Go.Ev
open Go.RowKit
variable {P : Program}
noncomputable def z87 {α : Type} (x : Option α) (k : α → Out) : Out := Option.rec .bad (fun s => k s) x
section
variable {B : Nat} {m : Map} {M : Mem} {w : World} {σ : Tree SV} {tm : Array Value}
theorem z83 {α : Type} {q : Sem Next} {x : Option α} {k : α → Out} (h : ∀ s, x = some s → z8f P B m M w q (k s)) : z8f P B m M w q (z87 x k) := by
 cases x with
 | none => trivial
 | some s => exact h s rfl
noncomputable def zkf (M : Mem) (σ : Tree SV) (x : Option Operand) : Option (Option SV) :=
 match x with
 | none => some none
 | some x => match arg M σ x with
  | some s => some (some s)
  | none => none
theorem zhv (hr : MRel B m M w) (ht : za6 m σ tm) {x : Option Operand} {s : Option SV} (h : zkf M σ x = some s) : zem m s (x.map (den tm)) := by
 unfold zkf at h
 split at h
 ·simp only [Option.some.injEq] at h; subst h; trivial
 ·split at h
  ·rename_i hs
   simp only [Option.some.injEq] at h; subst h
   exact zd8 hr ht hs
  ·simp at h
noncomputable def aggEq (P : Program) (t : TypeId) : Bool := P.eqGuardType P.depth t
noncomputable def zh5 (P : Program) (op : BinOp) (t : TypeId) (c : Bool) (a b : SV) (M : Mem) : Out :=
 match a with
 | .agg x => match b with
  | .agg y => match op, aggEq P t with
   | .eql, false => match eqA P 12 t (.agg x) (.agg y) with
    | some r => .val (.bool r) M
    | none => .bad
   | .neq, false => match eqA P 12 t (.agg x) (.agg y) with
    | some r => .val (.bool (Bool.rec true false r)) M
    | none => .bad
   | _, _ => .bad
  | _ => .bad
 | a => zru P op t c a b M
theorem zhn (hr : MRel B m M w) {op : BinOp} {t : TypeId} {x y : Operand} {a b : SV} {v u : Value} (ha : conc m a = some v) (hb : conc m b = some u) :
  z8f P B m M w (do Pure.pure (Next.value (← (do eqGuard op t x y v u; binOp op t v u)))) (zh5 P op t (cst x || cst y) a b M) := by
 unfold zh5
 split
 next xs =>
  split
  next ys =>
   obtain ⟨vs, hvs, rfl⟩ := conc_agg ha
   obtain ⟨us, hus, rfl⟩ := conc_agg hb
   split
   next hg =>
    split
    next r hr' =>
     have he := zkm (P := P) (w := w) hr' ha hb
     have hgr : (eqGuard .eql t x y (.agg vs.toArray) (.agg us.toArray)).run P w = .ok () w := by
      have hg' : P.eqGuardType P.depth t = false := hg
      simp [eqGuard, Sem.run_bind, program, Sem.run, hg']
     refine z8f.pure hr (v := .bool r) ?_ rfl
     rw [zfe ⟨by simp, by simp, by simp, by simp⟩]
     simp only [Sem.run_bind, hgr, he, Result.andThen_ok, Sem.run_pure]
    next => trivial
   next hg =>
    split
    next r hr' =>
     have he := zkm (P := P) (w := w) hr' ha hb
     have hgr : (eqGuard .neq t x y (.agg vs.toArray) (.agg us.toArray)).run P w = .ok () w := by
      have hg' : P.eqGuardType P.depth t = false := hg
      simp [eqGuard, Sem.run_bind, program, Sem.run, hg']
     refine z8f.pure hr (v := .bool !r) ?_ (by cases r <;> rfl)
     rw [zff ⟨by simp, by simp, by simp, by simp⟩]
     simp only [Sem.run_bind, hgr, he, Result.andThen_ok, Sem.run_pure]
    next => trivial
   next => trivial
  next => trivial
 next => exact zpt hr ha hb
noncomputable def ze0 (P : Program) (op : BinOp) (t : TypeId) (c : Bool) (a b : SV) (M : Mem) : Out :=
 match a with
 | .ptr x o => match zsh P op t (.ptr x o) b with
  | some r => .val (.bool r) M
  | none => zh5 P op t c (.ptr x o) b M
 | a => zh5 P op t c a b M
theorem zng (hr : MRel B m M w) {op : BinOp} {t : TypeId} {x y : Operand} {a b : SV} {v u : Value} (ha : conc m a = some v) (hb : conc m b = some u) :
  z8f P B m M w (do Pure.pure (Next.value (← (do eqGuard op t x y v u; binOp op t v u)))) (ze0 P op t (cst x || cst y) a b M) := by
 unfold ze0
 split
 next xs o =>
  split
  next r hr' => exact z8f.pure hr (v := .bool r) (zp9 hr' ha hb x y) rfl
  next => exact zhn hr ha hb
 next => exact zhn hr ha hb
noncomputable def ziw (P : Program) (t : TypeId) (x : SV) (M : Mem) : Out :=
 match x with
 | .map b => match lenK P t, zh3 M b with
  | some .map, some (es, _) => .val (goI es.length) M
  | _, _ => .bad
 | x => zss P t x M
theorem z8p.len {α β : Type} {R : α → β → Prop} : ∀ {l : List α} {k : List β}, z8p R l k → l.length = k.length
 | _, _, .nil => rfl
 | _, _, .cons _ h => by simp [z8p.len h]
theorem znj (hr : MRel B m M w) {t ty : TypeId} {x : SV} {v : Value} (hv : conc m x = some v) :
  z8f P B m M w (do Pure.pure (Next.value (← Builtin.len_ #[t] ty #[v]))) (ziw P t x M) := by
 unfold ziw
 split
 next b =>
  obtain ⟨p, hp, rfl⟩ := zf1 hv
  split
  next es c hk hb =>
   obtain ⟨k, e, hd⟩ := zlz hk
   obtain ⟨a, ha, hent⟩ := zm1 hr hb hp
   have hget : (getObj p.block).run P w = .ok (.map a c) w := by simp [getObj, Sem.run, ha]
   refine z8f.pure hr (v := goInt a.size) ?_ ?_
   ·simp only [Builtin.len_, List.getElem?_toArray, List.getElem?_cons_zero, Sem.run_bind, run_underlying hd, Result.andThen_ok, hget, Sem.run_pure]
   ·have := hent.len
    simp only [Array.length_toList] at this
    rw [this]; rfl
  next => trivial
 next => exact zpy hr hv
noncomputable def zrl (k : IntKind) (x : Int) : List SV → Option SV
 | [] => some (.int k x)
 | .int _ y :: l => match leZ x y with
  | true => zrl k x l
  | false => zrl k y l
 | _ => none
noncomputable def zrk (k : IntKind) (x : Int) : List SV → Option SV
 | [] => some (.int k x)
 | .int _ y :: l => match leZ y x with
  | true => zrk k x l
  | false => zrk k y l
 | _ => none
theorem zig (w : World) : ∀ {l : List SV} {k : IntKind} {x : Int} {s : SV} {vs : List Value}, zrl k x l = some s → concs m l = some vs → ∃ v, (vs.foldlM Builtin.min2 (.int k x)).run P w = .ok v w ∧ conc m s = some v
 | [], k, x, s, vs, h, hc => by
  simp only [zrl, Option.some.injEq] at h
  simp only [concs, Option.some.injEq] at hc
  subst h hc
  exact ⟨_, rfl, rfl⟩
 | a :: l, k, x, s, vs, h, hc => by
  obtain ⟨v, r, h1, h2, rfl⟩ := z85 hc
  unfold zrl at h
  split at h
  ·rename_i heq; simp at heq
  ·rename_i k' y l' heq
   simp only [List.cons.injEq] at heq
   obtain ⟨rfl, rfl⟩ := heq
   obtain rfl := conc_int h1
   rw [List.foldlM_cons]
   split at h
   ·rename_i hle
    rw [zb0] at hle
    have : ¬ (y < x) := by have := of_decide_eq_true hle; omega
    obtain ⟨u, hu, huc⟩ := zig w h h2
    exact ⟨u, by simp only [Sem.run_bind, Builtin.min2, if_neg this, Sem.run_pure, Result.andThen_ok]; exact hu, huc⟩
   ·rename_i hle
    rw [zb0] at hle
    have : y < x := by have := of_decide_eq_false hle; omega
    obtain ⟨u, hu, huc⟩ := zig w h h2
    exact ⟨u, by simp only [Sem.run_bind, Builtin.min2, if_pos this, Sem.run_pure, Result.andThen_ok]; exact hu, huc⟩
  ·simp at h
theorem zif (w : World) : ∀ {l : List SV} {k : IntKind} {x : Int} {s : SV} {vs : List Value}, zrk k x l = some s → concs m l = some vs → ∃ v, (vs.foldlM Builtin.max2 (.int k x)).run P w = .ok v w ∧ conc m s = some v
 | [], k, x, s, vs, h, hc => by
  simp only [zrk, Option.some.injEq] at h
  simp only [concs, Option.some.injEq] at hc
  subst h hc
  exact ⟨_, rfl, rfl⟩
 | a :: l, k, x, s, vs, h, hc => by
  obtain ⟨v, r, h1, h2, rfl⟩ := z85 hc
  unfold zrk at h
  split at h
  ·rename_i heq; simp at heq
  ·rename_i k' y l' heq
   simp only [List.cons.injEq] at heq
   obtain ⟨rfl, rfl⟩ := heq
   obtain rfl := conc_int h1
   rw [List.foldlM_cons]
   split at h
   ·rename_i hle
    rw [zb0] at hle
    have : ¬ (y > x) := by have := of_decide_eq_true hle; omega
    obtain ⟨u, hu, huc⟩ := zif w h h2
    exact ⟨u, by simp only [Sem.run_bind, Builtin.max2, if_neg this, Sem.run_pure, Result.andThen_ok]; exact hu, huc⟩
   ·rename_i hle
    rw [zb0] at hle
    have : y > x := by have := of_decide_eq_false hle; omega
    obtain ⟨u, hu, huc⟩ := zif w h h2
    exact ⟨u, by simp only [Sem.run_bind, Builtin.max2, if_pos this, Sem.run_pure, Result.andThen_ok]; exact hu, huc⟩
  ·simp at h
noncomputable def ztm (as : List SV) (M : Mem) : Out := match as with
 | .int k x :: l => z8r M (zrl k x l)
 | _ => .bad
noncomputable def ztl (as : List SV) (M : Mem) : Out := match as with
 | .int k x :: l => z8r M (zrk k x l)
 | _ => .bad
theorem zq0 (hr : MRel B m M w) {as : List SV} {ts : Array TypeId} {ty : TypeId} {vs : Array Value} (h : concs m as = some vs.toList) : z8f P B m M w (do Pure.pure (Next.value (← Builtin.min_ ts ty vs))) (ztm as M) := by
 unfold ztm
 split
 next k x l =>
  obtain ⟨v, r, h1, h2, h3⟩ := z85 h
  obtain rfl := conc_int h1
  refine za9 hr fun s hs => ?_
  obtain ⟨u, hu, huc⟩ := zig (P := P) w hs h2
  exact ⟨u, by unfold Builtin.min_; rw [h3]; exact hu, huc⟩
 next => trivial
theorem zpz (hr : MRel B m M w) {as : List SV} {ts : Array TypeId} {ty : TypeId} {vs : Array Value} (h : concs m as = some vs.toList) : z8f P B m M w (do Pure.pure (Next.value (← Builtin.max_ ts ty vs))) (ztl as M) := by
 unfold ztl
 split
 next k x l =>
  obtain ⟨v, r, h1, h2, h3⟩ := z85 h
  obtain rfl := conc_int h1
  refine za9 hr fun s hs => ?_
  obtain ⟨u, hu, huc⟩ := zif (P := P) w hs h2
  exact ⟨u, by unfold Builtin.max_; rw [h3]; exact hu, huc⟩
 next => trivial
noncomputable def z9e (P : Program) (b : Builtin) (ts : List TypeId) (as : List SV) (M : Mem) : Out :=
 match b with
 | .append => match ts, as with
  | [t, u], [x, y] => za5 P t u x y M
  | _, _ => .bad
 | .copy => match ts, as with
  | [t, _], [x, y] => zsr P t x y M
  | _, _ => .bad
 | .len => match ts, as with
  | [t], [x] => ziw P t x M
  | _, _ => .bad
 | .min => ztm as M
 | .max => ztl as M
 | .cap => match ts, as with
  | [t], [x] => ztk P t x M
  | _, _ => .bad
 | .delete => match ts, as with
  | [t, _], [x, k] => zld P t x k M
  | _, _ => .bad
 | .clear => match ts, as with
  | [t], [x] => zpw P t x M
  | _, _ => .bad
 | .unsafeSliceData => match as with
  | [x] => zbh x M
  | _ => .bad
 | .unsafeString => match as with
  | [x, l] => ziy P ts x l M
  | _ => .bad
 | _ => .bad
theorem zis (hr : MRel B m M w) {b : Builtin} {ts : Array TypeId} {ty : TypeId} {cs : Array Bool} {as : List SV} {vs : Array Value} (h : concs m as = some vs.toList) :
  z8f P B m M w (builtin b ts ty cs vs) (z9e P b ts.toList as M) := by
 obtain ⟨ts⟩ := ts
 obtain ⟨vs⟩ := vs
 simp only at h
 unfold z9e
 split
 ·split
  ·obtain ⟨v, u, h1, h2, rfl⟩ := concs_two h
   rename_i hts
   simp only at hts
   subst hts
   exact zk3 hr h1 h2
  ·trivial
 ·split
  ·obtain ⟨v, u, h1, h2, rfl⟩ := concs_two h
   rename_i hts
   simp only at hts
   subst hts
   exact znh hr h1 h2
  ·trivial
 ·split
  ·obtain ⟨v, h1, rfl⟩ := zad h
   rename_i hts
   simp only at hts
   subst hts
   exact znj hr h1
  ·trivial
 ·exact zq0 hr h
 ·exact zpz hr h
 ·split
  ·obtain ⟨v, h1, rfl⟩ := zad h
   rename_i hts
   simp only at hts
   subst hts
   exact zpv hr h1
  ·trivial
 ·split
  ·obtain ⟨v, u, h1, h2, rfl⟩ := concs_two h
   rename_i hts
   simp only at hts
   subst hts
   exact zk9 hr h1 h2
  ·trivial
 ·split
  ·obtain ⟨v, h1, rfl⟩ := zad h
   rename_i hts
   simp only at hts
   subst hts
   exact zlc hr h1
  ·trivial
 ·split
  ·obtain ⟨v, h1, rfl⟩ := zad h
   exact zgt hr h1
  ·trivial
 ·split
  ·obtain ⟨v, u, h1, h2, rfl⟩ := concs_two h
   exact ziz hr h1 h2
  ·trivial
 ·trivial
noncomputable def zn4 (P : Program) (t : TypeId) (name : String) : Option FuncId :=
 match P.info? t with
 | none => none
 | some i => match i.methods.find? (·.name == name) with
  | none => none
  | some mt => match mt.path.toList, mt.func with
   | [], some (f, true) => match P.underlying t with
    | some (.pointer _) => some f
    | _ => none
   | [], some (f, false) => match P.underlying t with
    | some (.pointer _) => none
    | some _ => some f
    | none => none
   | _, _ => none
theorem zp6 {t : TypeId} {name : String} {f : FuncId} (h : zn4 P t name = some f) (v : Value) (k : Nat) : (method (k + 1) t v name).run P w = .ok (f, v) w := by
 unfold zn4 at h
 split at h
 ·simp at h
 ·rename_i i hi
  split at h
  ·simp at h
  ·rename_i mt hm
   have hti : (typeInfo t).run P w = .ok i w := by simp [typeInfo, Sem.run_bind, program, Sem.run, hi]
   split at h
   ·rename_i g hp hf
    split at h
    ·rename_i e hu
     simp only [Option.some.injEq] at h
     subst h
     simp only [method, Sem.run_bind, hti, Result.andThen_ok, hm, hp, follow, Sem.run_pure, hf, receiverAt, run_underlying hu, Place.get]
    ·simp at h
   ·rename_i g hp hf
    split at h
    ·simp at h
    ·rename_i d hne hu
     simp only [Option.some.injEq] at h
     subst h
     simp only [method, Sem.run_bind, hti, Result.andThen_ok, hm, hp, follow, Sem.run_pure, hf, receiverAt, run_underlying hu]
     simp [Place.get]
    ·simp at h
   ·simp at h
noncomputable def znm (P : Program) (x : SV) (M : Mem) : Out :=
 match x with
 | .fn (.method name) (.iface t v :: as) cs => match zn4 P t name with
  | some _ => match P.underlying t with
   | some (.pointer _) => .val (.fn (.method name) (.iface t v :: as) cs) M
   | _ => .bad
  | none => .bad
 | x => zgs x M
theorem zp5 {t : TypeId} {name : String} {f : FuncId} {e : TypeId} (h : zn4 P t name = some f) (hu : P.underlying t = some (.pointer e)) (v : Value) (k : Nat) : (nilAhead (k + 1) t v name).run P w = .ok (some false) w := by
 unfold zn4 at h
 split at h
 ·simp at h
 ·rename_i i hi
  split at h
  ·simp at h
  ·rename_i mt hm
   have hti : (typeInfo t).run P w = .ok i w := by simp [typeInfo, Sem.run_bind, program, Sem.run, hi]
   split at h
   ·rename_i g hp hf
    simp only [nilAhead, Sem.run_bind, hti, Result.andThen_ok, hm, hp, followBlind, Sem.run_pure, hf]
   ·rename_i g hp hf
    split at h
    ·simp at h
    ·rename_i d hne hu'
     rw [hu'] at hu
     simp only [Option.some.injEq] at hu
     exact absurd hu (hne e)
    ·simp at h
   ·simp at h
noncomputable def ziv (P : Program) (name : String) (r : SV) (as : List SV) (M : Mem) : Out :=
 match r with
 | .iface t v => match zn4 P t name with
  | none => .bad
  | some f => match callable P f with
   | true => .enter f (v :: as) M
   | false => .bad
 | _ => .bad
theorem zka (hr : MRel B m M w) {r : SV} {as : List SV} {rv : Value} {vs : Array Value} {name : String} (hf : conc m r = some rv) (has : concs m as = some vs.toList) :
  z8f P B m M w (invoke (.fn (.method name) #[]) (#[rv] ++ vs)) (ziv P name r as M) := by
 unfold ziv
 split
 next t v =>
  simp only [conc, Option.map_eq_some_iff] at hf
  obtain ⟨x, hx, rfl⟩ := hf
  split
  next => trivial
  next f hm =>
   split
   next hc =>
    refine ⟨#[x] ++ vs, m, w, ?_, ?_, .refl hr⟩
    ·have h0 : (#[Value.iface t x] ++ vs)[0]? = some (.iface t x) := by
      rw [← Array.getElem?_toList, Array.toList_append]
      rfl
     have h1 : (#[Value.iface t x] ++ vs).extract 1 (#[Value.iface t x] ++ vs).size = vs := by
      apply Array.ext'
      rw [Array.toList_extract, Array.toList_append, Array.size_append]
      show ((Value.iface t x) :: vs.toList).extract 1 (1 + vs.size) = vs.toList
      simp [List.extract, List.take_of_length_le]
     have hk := zp6 (P := P) (w := w) hm x (P.types.size + 99)
     simp only [invoke, h0, h1, callMethod, Sem.run_bind, program]
     rw [show Sem.run P (Sem.program .pure) w = .ok P w from rfl]
     simp only [Result.andThen_ok]
     rw [show P.types.size + Made.depth = P.types.size + 99 + 1 from rfl, hk]
     exact zc5 hc _ _
    ·have := concs_cons hx has
     simpa using this
   next => trivial
 next => trivial
noncomputable def zq1 (c a b : SV) (M : Mem) : Out :=
 match c with
 | .bool true => .val a M
 | .bool false => .val b M
 | _ => .bad
noncomputable def z8i (P : Program) (M : Mem) (σ : Tree SV) (o : Oper) : Out :=
 match o.op with
 | .move x => z87 (arg M σ x) fun s => .val s M
 | .assign x => z87 (arg M σ x) fun s => .val s M
 | .pick c a b => z87 (arg M σ c) fun c => z87 (arg M σ a) fun a => z87 (arg M σ b) fun b => zq1 c a b M
 | .alloc e => zhm P e M
 | .box t x => z87 (arg M σ x) fun s => ztn t (cellsOf s) M
 | .build t ps => z87 (z97 M σ ps.toList) fun l => zev P t l M
 | .buildSlice t n ps => z87 (z97 M σ ps.toList) fun l => zab P t n l M
 | .load t a => z87 (arg M σ a) fun a => zel P t a M
 | .store t a x => z87 (arg M σ a) fun a => z87 (arg M σ x) fun x => zht P t a x M
 | .nilCheck x => z87 (arg M σ x) fun x => znm P x M
 | .binOp op t x y _ => z87 (arg M σ x) fun a => z87 (arg M σ y) fun b => ze0 P op t (cst x || cst y) a b M
 | .unOp op _ x => z87 (arg M σ x) fun x => xUn op x M
 | .convert s d x => z87 (arg M σ x) fun x => z9o P s d x M
 | .makeInterface t x => z87 (arg M σ x) fun x => zhq P t x M
 | .makeFunc fn a b => z87 (args M σ a.toList) fun a => z87 (args M σ b.toList) fun b => .val (.fn fn a b) M
 | .makeSlice t l c => z87 (arg M σ l) fun l => z87 (arg M σ c) fun c => znk P t l c M
 | .slice t x lo hi mx => z87 (arg M σ x) fun x => z87 (zkf M σ lo) fun lo => z87 (zkf M σ hi) fun hi => z87 (zkf M σ mx) fun mx => zal P t x lo hi mx M
 | .fieldAddr t x k => z87 (arg M σ x) fun x => za0 P t k x M
 | .field t x k => z87 (arg M σ x) fun x => zhp P t k x M
 | .indexAddr t x i => z87 (arg M σ x) fun x => z87 (arg M σ i) fun i => z8h P t x i M
 | .index t x i => z87 (arg M σ x) fun x => z87 (arg M σ i) fun i => zhr P t x i M
 | .extract x k => z87 (arg M σ x) fun x => z9f k x M
 | .makeMap _ none => ze1 M
 | .lookup t x k ok => z87 (arg M σ x) fun x => z87 (arg M σ k) fun k => zbv P t x k ok M
 | .mapUpdate t x k v => z87 (arg M σ x) fun x => z87 (arg M σ k) fun k => z87 (arg M σ v) fun v => z9g P t x k v M
 | .insert t x k v => z87 (arg M σ x) fun x => z87 (arg M σ k) fun k => z87 (arg M σ v) fun v => z9g P t x k v M
 | .call c => match c.callee with
  | .builtin b => z87 (args M σ c.args.toList) fun as => z9e P b c.argTypes.toList as M
  | .value f => z87 (arg M σ f) fun f => z87 (args M σ c.args.toList) fun as => zd5 P f as M
  | .invoke r n => z87 (arg M σ r) fun r => z87 (args M σ c.args.toList) fun as => ziv P n r as M
 | _ => .bad
noncomputable def zqf (M : Mem) (σ : Tree SV) (x : Operand) : Out := Option.rec .bad (fun s => .val s M) (arg M σ x)
noncomputable def zo3 (M : Mem) (σ : Tree SV) (c a b : Operand) : Out := z87 (arg M σ c) fun c => z87 (arg M σ a) fun a => z87 (arg M σ b) fun b => zq1 c a b M
noncomputable def zt0 (P : Program) (M : Mem) (e : TypeId) : Out := zhm P e M
noncomputable def ztw (M : Mem) (σ : Tree SV) (t : TypeId) (x : Operand) : Out := z87 (arg M σ x) fun s => ztn t (cellsOf s) M
noncomputable def znz (P : Program) (M : Mem) (σ : Tree SV) (t : TypeId) (ps : Array (Nat × Operand)) : Out := z87 (z97 M σ ps.toList) fun l => zev P t l M
noncomputable def zki (P : Program) (M : Mem) (σ : Tree SV) (t : TypeId) (n : Nat) (ps : Array (Nat × Operand)) : Out := z87 (z97 M σ ps.toList) fun l => zab P t n l M
noncomputable def zo1 (P : Program) (M : Mem) (σ : Tree SV) (t : TypeId) (a : Operand) : Out := z87 (arg M σ a) fun a => zel P t a M
noncomputable def zo5 (P : Program) (M : Mem) (σ : Tree SV) (t : TypeId) (a x : Operand) : Out := z87 (arg M σ a) fun a => z87 (arg M σ x) fun x => zht P t a x M
noncomputable def zua (P : Program) (M : Mem) (σ : Tree SV) (x : Operand) : Out := z87 (arg M σ x) fun x => znm P x M
noncomputable def ztv (P : Program) (M : Mem) (σ : Tree SV) (op : BinOp) (t : TypeId) (x y : Operand) (_ : TypeId) : Out := z87 (arg M σ x) fun a => z87 (arg M σ y) fun b => ze0 P op t (cst x || cst y) a b M
noncomputable def eUn (M : Mem) (σ : Tree SV) (op : UnOp) (_ : TypeId) (x : Operand) : Out := z87 (arg M σ x) fun x => xUn op x M
noncomputable def zo0 (P : Program) (M : Mem) (σ : Tree SV) (s d : TypeId) (x : Operand) : Out := z87 (arg M σ x) fun x => z9o P s d x M
noncomputable def zt2 (P : Program) (M : Mem) (σ : Tree SV) (t : TypeId) (x : Operand) : Out := z87 (arg M σ x) fun x => zhq P t x M
noncomputable def zty (M : Mem) (σ : Tree SV) (fn : Fn) (a b : Array Operand) : Out := z87 (args M σ a.toList) fun a => z87 (args M σ b.toList) fun b => .val (.fn fn a b) M
noncomputable def zo2 (P : Program) (M : Mem) (σ : Tree SV) (t : TypeId) (l c : Operand) : Out := z87 (arg M σ l) fun l => z87 (arg M σ c) fun c => znk P t l c M
noncomputable def zo4 (P : Program) (M : Mem) (σ : Tree SV) (t : TypeId) (x : Operand) (lo hi mx : Option Operand) : Out := z87 (arg M σ x) fun x => z87 (zkf M σ lo) fun lo => z87 (zkf M σ hi) fun hi => z87 (zkf M σ mx) fun mx => zal P t x lo hi mx M
noncomputable def zkj (P : Program) (M : Mem) (σ : Tree SV) (t : TypeId) (x : Operand) (k : Nat) : Out := z87 (arg M σ x) fun x => za0 P t k x M
noncomputable def zt1 (P : Program) (M : Mem) (σ : Tree SV) (t : TypeId) (x : Operand) (k : Nat) : Out := z87 (arg M σ x) fun x => zhp P t k x M
noncomputable def zkk (P : Program) (M : Mem) (σ : Tree SV) (t : TypeId) (x i : Operand) : Out := z87 (arg M σ x) fun x => z87 (arg M σ i) fun i => z8h P t x i M
noncomputable def zt3 (P : Program) (M : Mem) (σ : Tree SV) (t : TypeId) (x i : Operand) : Out := z87 (arg M σ x) fun x => z87 (arg M σ i) fun i => zhr P t x i M
noncomputable def zhz (M : Mem) (σ : Tree SV) (x : Operand) (k : Nat) : Out := z87 (arg M σ x) fun x => z9f k x M
noncomputable def zt4 (M : Mem) (_ : TypeId) (r : Option Operand) : Out := match r with
 | none => ze1 M
 | some _ => .bad
noncomputable def zs2 (P : Program) (M : Mem) (σ : Tree SV) (t : TypeId) (x k : Operand) (ok : Bool) : Out := z87 (arg M σ x) fun x => z87 (arg M σ k) fun k => zbv P t x k ok M
noncomputable def zo6 (P : Program) (M : Mem) (σ : Tree SV) (t : TypeId) (x k v : Operand) : Out := z87 (arg M σ x) fun x => z87 (arg M σ k) fun k => z87 (arg M σ v) fun v => z9g P t x k v M
noncomputable def zhy (P : Program) (M : Mem) (σ : Tree SV) (as : Array Operand) (ts : Array TypeId) (b : Builtin) : Out := z87 (args M σ as.toList) fun as => z9e P b ts.toList as M
noncomputable def zfj (P : Program) (M : Mem) (σ : Tree SV) (as : Array Operand) (f : Operand) : Out := z87 (arg M σ f) fun f => z87 (args M σ as.toList) fun as => zd5 P f as M
noncomputable def zs1 (P : Program) (M : Mem) (σ : Tree SV) (as : Array Operand) (r : Operand) (n : String) : Out := z87 (arg M σ r) fun r => z87 (args M σ as.toList) fun as => ziv P n r as M
noncomputable def ztx (P : Program) (M : Mem) (σ : Tree SV) (c : Call) : Out := Call.rec (fun callee as ts => Callee.rec (motive := fun _ => Out) (zfj P M σ as) (zs1 P M σ as) (zhy P M σ as ts) callee) c
noncomputable def execO (P : Program) (M : Mem) (σ : Tree SV) (o : Op) : Out :=
 Op.rec (motive := fun _ => Out) (zqf M σ) (zqf M σ) (zo3 M σ) (zt0 P M) (ztw M σ) (znz P M σ) (zki P M σ) (zo6 P M σ) (zo1 P M σ) (zo5 P M σ)
  (fun _ => .bad) (fun _ => .bad) (zua P M σ) (ztv P M σ) (eUn M σ) (zo0 P M σ) (fun _ _ => .bad) (zt2 P M σ) (zty M σ) (zt4 M) (fun _ _ => .bad) (zo2 P M σ) (zo4 P M σ)
  (zkj P M σ) (zt1 P M σ) (zkk P M σ) (zt3 P M σ) (zs2 P M σ) (zo6 P M σ) (fun _ _ _ => .bad) (fun _ _ _ _ => .bad) (fun _ _ => .bad) (fun _ _ => .bad) (fun _ => .bad) (fun _ _ _ _ => .bad)
  (zhz M σ) (ztx P M σ) (fun _ => .bad) (fun _ => .bad) (fun _ => .bad) (fun _ _ => .bad) (fun _ _ _ => .bad) (fun _ _ => .bad) o
noncomputable def exec (P : Program) (M : Mem) (σ : Tree SV) (o : Oper) : Out := Oper.rec (fun _ op _ _ _ _ => execO P M σ op) o
theorem zaz (P : Program) (M : Mem) (σ : Tree SV) (o : Oper) : exec P M σ o = z8i P M σ o := by
 obtain ⟨dst, op, type, pos, after, guard⟩ := o
 cases op with
 | makeMap t r => cases r <;> rfl
 | call c =>
  obtain ⟨callee, as, ts⟩ := c
  cases callee <;> rfl
 | _ => rfl
theorem zaf (hr : MRel B m M w) (ht : za6 m σ tm) (o : Oper) : z8f P B m M w (execOp (den tm) o) (exec P M σ o) := by
 have A : ∀ {x : Operand} {s : SV}, arg M σ x = some s → conc m s = some (den tm x) := fun h => zd8 hr ht h
 have AS : ∀ {l : Array Operand} {r : List SV}, args M σ l.toList = some r → concs m r = some (l.map (den tm)).toList := by
  intro l r h
  rw [Array.toList_map]
  exact zll hr ht h
 have PS : ∀ {l : Array (Nat × Operand)} {r : List (Nat × SV)}, z97 M σ l.toList = some r → zdp m r (l.map fun (i, x) => (i, den tm x)).toList := by
  intro l r h
  rw [Array.toList_map]
  exact zet hr ht h
 rw [zaz]
 obtain ⟨dst, op, type, pos, after, guard⟩ := o
 cases op with
 | move x => exact z83 fun s h => ⟨.value _, m, w, rfl, A h, .refl hr⟩
 | assign x => exact z83 fun s h => ⟨.value _, m, w, rfl, A h, .refl hr⟩
 | pick c a b =>
  refine z83 fun c' hc => z83 fun a' ha => z83 fun b' hb => ?_
  have hc' := A hc
  unfold zq1
  split
  ·have e : den tm c = .bool true := by simp [conc] at hc'; exact hc'.symm
   refine ⟨.value (den tm a), m, w, ?_, A ha, .refl hr⟩
   show (do Pure.pure (Next.value (if ← asBool (den tm c) then den tm a else den tm b)) : Sem Next).run P w = _
   rw [e]
   simp [asBool]
  ·have e : den tm c = .bool false := by simp [conc] at hc'; exact hc'.symm
   refine ⟨.value (den tm b), m, w, ?_, A hb, .refl hr⟩
   show (do Pure.pure (Next.value (if ← asBool (den tm c) then den tm a else den tm b)) : Sem Next).run P w = _
   rw [e]
   simp [asBool]
  ·trivial
 | alloc e => exact zl9 hr e
 | box e x => exact z83 fun s h => zpu hr e (A h)
 | build t ps => exact z83 fun s h => zla hr (PS h)
 | buildSlice t n ps => exact z83 fun s h => zex hr (PS h)
 | load t a => exact z83 fun s h => zhs hr (A h)
 | store t a x => exact z83 fun s h => z83 fun s' h' => zlj hr (A h) (A h')
 | nilCheck x =>
  refine z83 fun s h => ?_
  have hc := A h
  unfold znm
  split
  next name t v as cs =>
   split
   next f hm =>
    split
    next e hu =>
     have hc' := hc
     simp only [conc, concs, Option.bind_eq_some_iff, Option.map_eq_some_iff] at hc'
     obtain ⟨a, ⟨i, ⟨x', _, rfl⟩, r, _, rfl⟩, b, _, he⟩ := hc'
     refine ⟨.value (den tm x), m, w, ?_, hc, .refl hr⟩
     have hk := zp5 (P := P) (w := w) hm hu x' (P.types.size + 99)
     unfold execOp
     simp only [← he, List.getElem?_toArray, List.getElem?_cons_zero, Sem.run_bind, program]
     rw [show Sem.run P (Sem.program .pure) w = .ok P w from rfl]
     simp only [Result.andThen_ok]
     rw [show P.types.size + Made.depth = P.types.size + 99 + 1 from rfl, hk]
     simp
    next => trivial
   next => trivial
  unfold zgs
  split
  ·obtain ⟨p, hp, e⟩ := z91 hc
   refine ⟨.value (den tm x), m, w, ?_, hc, .refl hr⟩
   unfold execOp
   simp only [e]
   rfl
  ·have hc' := hc
   simp only [conc, Option.map_eq_some_iff] at hc'
   obtain ⟨v, _, e⟩ := hc'
   refine ⟨.value (den tm x), m, w, ?_, hc, .refl hr⟩
   unfold execOp
   simp only [← e]
   rfl
  ·obtain ⟨fs, cs, _, _, e⟩ := ze4 hc
   refine ⟨.value (den tm x), m, w, ?_, hc, .refl hr⟩
   unfold execOp
   simp only [e]
   rfl
  ·trivial
 | binOp op t x y u => exact z83 fun s h => z83 fun s' h' => zng hr (A h) (A h')
 | unOp op t x => exact z83 fun s h => zrf hr (A h)
 | convert s d x => exact z83 fun s h => zh6 hr (A h)
 | makeInterface t x => exact z83 fun s h => zlf hr (A h)
 | makeFunc fn a b => exact z83 fun s h => z83 fun s' h' => zni hr (AS h) (AS h')
 | makeSlice t l c => exact z83 fun s h => z83 fun s' h' => znl hr (A h) (A h')
 | slice t x lo hi mx => exact z83 fun s h => z83 fun a ha => z83 fun b hb => z83 fun c hc => zli hr (A h) (zhv hr ht ha) (zhv hr ht hb) (zhv hr ht hc)
 | fieldAddr t x k => exact z83 fun s h => zgq hr (A h)
 | field t x k => exact z83 fun s h => zle hr (A h)
 | indexAddr t x i => exact z83 fun s h => z83 fun s' h' => zgr hr (A h) (A h')
 | index t x i => exact z83 fun s h => z83 fun s' h' => zlg hr (A h) (A h')
 | extract x k => exact z83 fun s h => ziu hr (A h)
 | makeMap t r =>
  cases r with
  | none => exact zix hr t
  | some x => trivial
 | lookup t x k ok => exact z83 fun s h => z83 fun s' h' => zkb hr (A h) (A h')
 | mapUpdate t x k v => exact z83 fun s h => z83 fun s' h' => z83 fun s'' h'' => zcl hr (A h) (A h') (A h'')
 | insert t x k v => exact z83 fun s h => z83 fun s' h' => z83 fun s'' h'' => zcl hr (A h) (A h') (A h'')
 | call c =>
  obtain ⟨callee, as, ts⟩ := c
  cases callee with
  | builtin b => exact z83 fun s h => zis hr (AS h)
  | value f =>
   refine z83 fun s h => z83 fun s' h' => ?_
   exact zlb hr (A h) (AS h')
  | invoke r n =>
   refine z83 fun s h => z83 fun s' h' => ?_
   exact zka hr (A h) (AS h')
 | _ => trivial
end
end Go.Ev
namespace Go.Ev
open Go.RowKit
variable {P : Program}
abbrev Known := FuncId → List SV → Mem → Option (SV × Mem)
noncomputable def zam (σ : Tree SV) (n : Nat) (d : Option Tmp) (s : SV) : Option (Tree SV) :=
 match d with
 | none => some σ
 | some d => match Nat.ble (Nat.succ d) n with
  | true => some (σ.put (some s) (Pos.ofNat d))
  | false => none
noncomputable def z8e (all : Array Oper) (σ : Tree SV) (o : Oper) : Option Bool :=
 match o.guard with
 | none => some true
 | some (j, want) => match (all[j]?).bind (·.dst) with
  | none => some false
  | some d => match σ.get (Pos.ofNat d) with
   | some (.bool b) => some (b == want)
   | some (.tuple []) => some false
   | _ => none
structure Cx where
 fn : FuncId
 ds : List Deferred
 rd : Option Nat
def mkF (cx : Cx) (tm : Array Value) (todo : List Item) : Frame := { fn := cx.fn, tmps := tm, todo, defers := cx.ds, mode := .run, kind := .normal, roundOf := cx.rd }
theorem za7 {M : Mem} {σ : Tree SV} {o : Oper} (h : exec P M σ o ≠ .bad) : ∀ c, o.op ≠ .defer c := by
 intro c hc
 apply h
 rw [zaz]
 unfold z8i
 rw [hc]
theorem z96 (tm : Array Value) (ds : List Deferred) : (Act.eval ⟨tm, ds⟩) = den tm := by
 funext x; cases x <;> rfl
def Sound (P : Program) (B : Nat) (I : Known) : Prop := ∀ f as M s M', I f as M = some (s, M') → ∀ (m : Map) (w : World) (vs : Array Value), MRel B m M w → concs m as = some vs.toList →
 ∀ (c : Frame) (cs : List Frame), ∃ m' w' v, z82 B m M w m' M' w' ∧ conc m' s = some v ∧ Steps P (lone (Frame.enter P f vs .normal) (c :: cs) w) (lone (c.finish v) cs w')
theorem zej (P : Program) (B : Nat) : Sound P B (fun _ _ _ => none) := by
 intro f as M s M' h
 simp at h
section
variable {B : Nat} {m : Map} {M : Mem} {w : World}
theorem zb1 {σ σ' : Tree SV} {tm : Array Value} {n : Nat} {d : Option Tmp} {s : SV} {v : Value} (h : zam σ n d s = some σ') (ht : za6 m σ tm) (hn : tm.size = n) (hv : conc m s = some v) :
  ∃ tm', (∀ ds, Act.put ⟨tm, ds⟩ d v = ⟨tm', ds⟩) ∧ za6 m σ' tm' ∧ tm'.size = n := by
 unfold zam at h
 split at h
 ·simp only [Option.some.injEq] at h
  subst h
  exact ⟨tm, fun _ => rfl, ht, hn⟩
 ·rename_i d
  split at h
  ·rename_i hb
   simp only [Option.some.injEq] at h
   subst h
   have := Nat.le_of_ble_eq_true hb
   exact ⟨tm.setIfInBounds d v, fun _ => rfl, ht.put (by omega) hv, by simpa using hn⟩
  ·simp at h
theorem z95 {all : Array Oper} {σ : Tree SV} {tm : Array Value} {o : Oper} {b : Bool} (h : z8e all σ o = some b) (ht : za6 m σ tm) : Region.wanted o (yielded all tm) = b := by
 unfold z8e at h
 unfold Region.wanted
 split at h
 ·rename_i hg
  rw [hg]
  simpa using h
 ·rename_i j want hg
  rw [hg]
  simp only [yielded]
  split at h
  ·rename_i hd
   simp only [Option.some.injEq] at h
   subst h
   rw [hd]
   rfl
  ·rename_i d hd
   rw [hd]
   split at h
   ·rename_i x hx
    simp only [Option.some.injEq] at h
    subst h
    obtain ⟨v, h1, h2⟩ := ht _ _ hx
    have : v = .bool x := by simp [conc] at h2; exact h2.symm
    subst this
    simp [h1]
   ·rename_i hx
    simp only [Option.some.injEq] at h
    subst h
    obtain ⟨v, h1, h2⟩ := ht _ _ hx
    have : v = .tuple #[] := by simp [conc, concs] at h2; exact h2.symm
    subst this
    simp [h1]
   ·simp at h
end
end Go.Ev
