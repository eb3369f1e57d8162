/- A part of the small machine. -/
import Derived.Test.YtjddbfpinjjkkabGreatDoorEvV14e
import Derived.RangeFuncLeaves
import Derived.RangeFuncNested
set_option linter.unusedVariables false
namespace Go.Ev
open Go.RowKit
variable {P : Program}
noncomputable def with1 {α : Type} (x : Option α) (k : α → Out) : Out := Option.rec .bad (fun s => k s) x
section
variable {B : Nat} {m : Map} {M : Mem} {w : World} {σ : Tree SV} {tm : Array Value}
theorem with1_does {α : Type} {q : Sem Next} {x : Option α} {k : α → Out} (h : ∀ s, x = some s → Does P B m M w q (k s)) : Does P B m M w q (with1 x k) := by
  cases x with
  | none => trivial
  | some s => exact h s rfl
noncomputable def argO (M : Mem) (σ : Tree SV) (x : Option Operand) : Option (Option SV) :=
  match x with
  | none => some none
  | some x => match arg M σ x with
    | some s => some (some s)
    | none => none
theorem argO_den (hr : MRel B m M w) (ht : TRel m σ tm) {x : Option Operand} {s : Option SV} (h : argO M σ x = some s) : OptRel m s (x.map (den tm)) := by
  unfold argO at h
  split at h
  · simp only [Option.some.injEq] at h; subst h; trivial
  · split at h
    · rename_i hs
      simp only [Option.some.injEq] at h; subst h
      exact arg_den hr ht hs
    · simp at h
noncomputable def aggEq (P : Program) (t : TypeId) : Bool := P.eqGuardType P.depth t
noncomputable def xBin2 (P : Program) (op : BinOp) (t : TypeId) (c : Bool) (a b : SV) (M : Mem) : Out :=
  match a with
  | .agg x => match b with
    | .agg y => match op, aggEq P t with
      | .eql, false => match eqA P 12 t (.agg x) (.agg y) with
        | some r => .val (.bool r) M
        | none => .bad
      | .neq, false => match eqA P 12 t (.agg x) (.agg y) with
        | some r => .val (.bool (Bool.rec true false r)) M
        | none => .bad
      | _, _ => .bad
    | _ => .bad
  | a => xBin P op t c a b M
theorem xBin2_does (hr : MRel B m M w) {op : BinOp} {t : TypeId} {x y : Operand} {a b : SV} {v u : Value} (ha : conc m a = some v) (hb : conc m b = some u) :
    Does P B m M w (do Pure.pure (Next.value (← (do eqGuard op t x y v u; binOp op t v u)))) (xBin2 P op t (cst x || cst y) a b M) := by
  unfold xBin2
  split
  next xs =>
    split
    next ys =>
      obtain ⟨vs, hvs, rfl⟩ := conc_agg ha
      obtain ⟨us, hus, rfl⟩ := conc_agg hb
      split
      next hg =>
        split
        next r hr' =>
          have he := eqA_run (P := P) (w := w) hr' ha hb
          have hgr : (eqGuard .eql t x y (.agg vs.toArray) (.agg us.toArray)).run P w = .ok () w := by
            have hg' : P.eqGuardType P.depth t = false := hg
            simp [eqGuard, Sem.run_bind, program, Sem.run, hg']
          refine Does.pure hr (v := .bool r) ?_ rfl
          rw [binOp_eql ⟨by simp, by simp, by simp, by simp⟩]
          simp only [Sem.run_bind, hgr, he, Result.andThen_ok, Sem.run_pure]
        next => trivial
      next hg =>
        split
        next r hr' =>
          have he := eqA_run (P := P) (w := w) hr' ha hb
          have hgr : (eqGuard .neq t x y (.agg vs.toArray) (.agg us.toArray)).run P w = .ok () w := by
            have hg' : P.eqGuardType P.depth t = false := hg
            simp [eqGuard, Sem.run_bind, program, Sem.run, hg']
          refine Does.pure hr (v := .bool !r) ?_ (by cases r <;> rfl)
          rw [binOp_neq ⟨by simp, by simp, by simp, by simp⟩]
          simp only [Sem.run_bind, hgr, he, Result.andThen_ok, Sem.run_pure]
        next => trivial
      next => trivial
    next => trivial
  next => exact xBin_does hr ha hb
noncomputable def xBin3 (P : Program) (op : BinOp) (t : TypeId) (c : Bool) (a b : SV) (M : Mem) : Out :=
  match a with
  | .ptr x o => match ptrEq P op t (.ptr x o) b with
    | some r => .val (.bool r) M
    | none => xBin2 P op t c (.ptr x o) b M
  | a => xBin2 P op t c a b M
theorem xBin3_does (hr : MRel B m M w) {op : BinOp} {t : TypeId} {x y : Operand} {a b : SV} {v u : Value} (ha : conc m a = some v) (hb : conc m b = some u) :
    Does P B m M w (do Pure.pure (Next.value (← (do eqGuard op t x y v u; binOp op t v u)))) (xBin3 P op t (cst x || cst y) a b M) := by
  unfold xBin3
  split
  next xs o =>
    split
    next r hr' => exact Does.pure hr (v := .bool r) (ptrEq_run hr' ha hb x y) rfl
    next => exact xBin2_does hr ha hb
  next => exact xBin2_does hr ha hb
noncomputable def xLen2 (P : Program) (t : TypeId) (x : SV) (M : Mem) : Out :=
  match x with
  | .map b => match lenK P t, mapOf M b with
    | some .map, some (es, _) => .val (goI es.length) M
    | _, _ => .bad
  | x => xLen P t x M
theorem All2.len {α β : Type} {R : α → β → Prop} : ∀ {l : List α} {k : List β}, All2 R l k → l.length = k.length
  | _, _, .nil => rfl
  | _, _, .cons _ h => by simp [All2.len h]
theorem xLen2_does (hr : MRel B m M w) {t ty : TypeId} {x : SV} {v : Value} (hv : conc m x = some v) :
    Does P B m M w (do Pure.pure (Next.value (← Builtin.len_ #[t] ty #[v]))) (xLen2 P t x M) := by
  unfold xLen2
  split
  next b =>
    obtain ⟨p, hp, rfl⟩ := conc_map hv
    split
    next es c hk hb =>
      obtain ⟨k, e, hd⟩ := lenK_map hk
      obtain ⟨a, ha, hent⟩ := map_at hr hb hp
      have hget : (getObj p.block).run P w = .ok (.map a c) w := by simp [getObj, Sem.run, ha]
      refine Does.pure hr (v := goInt a.size) ?_ ?_
      · simp only [Builtin.len_, List.getElem?_toArray, List.getElem?_cons_zero, Sem.run_bind, run_underlying hd, Result.andThen_ok, hget, Sem.run_pure]
      · have := hent.len
        simp only [Array.length_toList] at this
        rw [this]; rfl
    next => trivial
  next => exact xLen_does hr hv
noncomputable def minL (k : IntKind) (x : Int) : List SV → Option SV
  | [] => some (.int k x)
  | .int _ y :: l => match leZ x y with
    | true => minL k x l
    | false => minL k y l
  | _ => none
noncomputable def maxL (k : IntKind) (x : Int) : List SV → Option SV
  | [] => some (.int k x)
  | .int _ y :: l => match leZ y x with
    | true => maxL k x l
    | false => maxL k y l
  | _ => none
theorem minL_run (w : World) : ∀ {l : List SV} {k : IntKind} {x : Int} {s : SV} {vs : List Value}, minL k x l = some s → concs m l = some vs → ∃ v, (vs.foldlM Builtin.min2 (.int k x)).run P w = .ok v w ∧ conc m s = some v
  | [], k, x, s, vs, h, hc => by
    simp only [minL, Option.some.injEq] at h
    simp only [concs, Option.some.injEq] at hc
    subst h hc
    exact ⟨_, rfl, rfl⟩
  | a :: l, k, x, s, vs, h, hc => by
    obtain ⟨v, r, h1, h2, rfl⟩ := concs_cons_inv hc
    unfold minL at h
    split at h
    · rename_i heq; simp at heq
    · rename_i k' y l' heq
      simp only [List.cons.injEq] at heq
      obtain ⟨rfl, rfl⟩ := heq
      obtain rfl := conc_int h1
      rw [List.foldlM_cons]
      split at h
      · rename_i hle
        rw [leZ_eq] at hle
        have : ¬ (y < x) := by have := of_decide_eq_true hle; omega
        obtain ⟨u, hu, huc⟩ := minL_run w h h2
        exact ⟨u, by simp only [Sem.run_bind, Builtin.min2, if_neg this, Sem.run_pure, Result.andThen_ok]; exact hu, huc⟩
      · rename_i hle
        rw [leZ_eq] at hle
        have : y < x := by have := of_decide_eq_false hle; omega
        obtain ⟨u, hu, huc⟩ := minL_run w h h2
        exact ⟨u, by simp only [Sem.run_bind, Builtin.min2, if_pos this, Sem.run_pure, Result.andThen_ok]; exact hu, huc⟩
    · simp at h
theorem maxL_run (w : World) : ∀ {l : List SV} {k : IntKind} {x : Int} {s : SV} {vs : List Value}, maxL k x l = some s → concs m l = some vs → ∃ v, (vs.foldlM Builtin.max2 (.int k x)).run P w = .ok v w ∧ conc m s = some v
  | [], k, x, s, vs, h, hc => by
    simp only [maxL, Option.some.injEq] at h
    simp only [concs, Option.some.injEq] at hc
    subst h hc
    exact ⟨_, rfl, rfl⟩
  | a :: l, k, x, s, vs, h, hc => by
    obtain ⟨v, r, h1, h2, rfl⟩ := concs_cons_inv hc
    unfold maxL at h
    split at h
    · rename_i heq; simp at heq
    · rename_i k' y l' heq
      simp only [List.cons.injEq] at heq
      obtain ⟨rfl, rfl⟩ := heq
      obtain rfl := conc_int h1
      rw [List.foldlM_cons]
      split at h
      · rename_i hle
        rw [leZ_eq] at hle
        have : ¬ (y > x) := by have := of_decide_eq_true hle; omega
        obtain ⟨u, hu, huc⟩ := maxL_run w h h2
        exact ⟨u, by simp only [Sem.run_bind, Builtin.max2, if_neg this, Sem.run_pure, Result.andThen_ok]; exact hu, huc⟩
      · rename_i hle
        rw [leZ_eq] at hle
        have : y > x := by have := of_decide_eq_false hle; omega
        obtain ⟨u, hu, huc⟩ := maxL_run w h h2
        exact ⟨u, by simp only [Sem.run_bind, Builtin.max2, if_pos this, Sem.run_pure, Result.andThen_ok]; exact hu, huc⟩
    · simp at h
noncomputable def xMin (as : List SV) (M : Mem) : Out := match as with
  | .int k x :: l => optOut M (minL k x l)
  | _ => .bad
noncomputable def xMax (as : List SV) (M : Mem) : Out := match as with
  | .int k x :: l => optOut M (maxL k x l)
  | _ => .bad
theorem xMin_does (hr : MRel B m M w) {as : List SV} {ts : Array TypeId} {ty : TypeId} {vs : Array Value} (h : concs m as = some vs.toList) : Does P B m M w (do Pure.pure (Next.value (← Builtin.min_ ts ty vs))) (xMin as M) := by
  unfold xMin
  split
  next k x l =>
    obtain ⟨v, r, h1, h2, h3⟩ := concs_cons_inv h
    obtain rfl := conc_int h1
    refine optOut_does hr fun s hs => ?_
    obtain ⟨u, hu, huc⟩ := minL_run (P := P) w hs h2
    exact ⟨u, by unfold Builtin.min_; rw [h3]; exact hu, huc⟩
  next => trivial
theorem xMax_does (hr : MRel B m M w) {as : List SV} {ts : Array TypeId} {ty : TypeId} {vs : Array Value} (h : concs m as = some vs.toList) : Does P B m M w (do Pure.pure (Next.value (← Builtin.max_ ts ty vs))) (xMax as M) := by
  unfold xMax
  split
  next k x l =>
    obtain ⟨v, r, h1, h2, h3⟩ := concs_cons_inv h
    obtain rfl := conc_int h1
    refine optOut_does hr fun s hs => ?_
    obtain ⟨u, hu, huc⟩ := maxL_run (P := P) w hs h2
    exact ⟨u, by unfold Builtin.max_; rw [h3]; exact hu, huc⟩
  next => trivial
noncomputable def xBuiltin (P : Program) (b : Builtin) (ts : List TypeId) (as : List SV) (M : Mem) : Out :=
  match b with
  | .append => match ts, as with
    | [t, u], [x, y] => xAppend P t u x y M
    | _, _ => .bad
  | .copy => match ts, as with
    | [t, _], [x, y] => xCopy P t x y M
    | _, _ => .bad
  | .len => match ts, as with
    | [t], [x] => xLen2 P t x M
    | _, _ => .bad
  | .min => xMin as M
  | .max => xMax as M
  | .cap => match ts, as with
    | [t], [x] => xCap P t x M
    | _, _ => .bad
  | .delete => match ts, as with
    | [t, _], [x, k] => xDelete P t x k M
    | _, _ => .bad
  | .clear => match ts, as with
    | [t], [x] => xClear P t x M
    | _, _ => .bad
  | .unsafeSliceData => match as with
    | [x] => xSliceData x M
    | _ => .bad
  | .unsafeString => match as with
    | [x, l] => xUString P ts x l M
    | _ => .bad
  | _ => .bad
theorem xBuiltin_does (hr : MRel B m M w) {b : Builtin} {ts : Array TypeId} {ty : TypeId} {cs : Array Bool} {as : List SV} {vs : Array Value} (h : concs m as = some vs.toList) :
    Does P B m M w (builtin b ts ty cs vs) (xBuiltin P b ts.toList as M) := by
  obtain ⟨ts⟩ := ts
  obtain ⟨vs⟩ := vs
  simp only at h
  unfold xBuiltin
  split
  · split
    · obtain ⟨v, u, h1, h2, rfl⟩ := concs_two h
      rename_i hts
      simp only at hts
      subst hts
      exact xAppend_does hr h1 h2
    · trivial
  · split
    · obtain ⟨v, u, h1, h2, rfl⟩ := concs_two h
      rename_i hts
      simp only at hts
      subst hts
      exact xCopy_does hr h1 h2
    · trivial
  · split
    · obtain ⟨v, h1, rfl⟩ := concs_one h
      rename_i hts
      simp only at hts
      subst hts
      exact xLen2_does hr h1
    · trivial
  · exact xMin_does hr h
  · exact xMax_does hr h
  · split
    · obtain ⟨v, h1, rfl⟩ := concs_one h
      rename_i hts
      simp only at hts
      subst hts
      exact xCap_does hr h1
    · trivial
  · split
    · obtain ⟨v, u, h1, h2, rfl⟩ := concs_two h
      rename_i hts
      simp only at hts
      subst hts
      exact xDelete_does hr h1 h2
    · trivial
  · split
    · obtain ⟨v, h1, rfl⟩ := concs_one h
      rename_i hts
      simp only at hts
      subst hts
      exact xClear_does hr h1
    · trivial
  · split
    · obtain ⟨v, h1, rfl⟩ := concs_one h
      exact xSliceData_does hr h1
    · trivial
  · split
    · obtain ⟨v, u, h1, h2, rfl⟩ := concs_two h
      exact xUString_does hr h1 h2
    · trivial
  · trivial
noncomputable def methK (P : Program) (t : TypeId) (name : String) : Option FuncId :=
  match P.info? t with
  | none => none
  | some i => match i.methods.find? (·.name == name) with
    | none => none
    | some mt => match mt.path.toList, mt.func with
      | [], some (f, true) => match P.underlying t with
        | some (.pointer _) => some f
        | _ => none
      | [], some (f, false) => match P.underlying t with
        | some (.pointer _) => none
        | some _ => some f
        | none => none
      | _, _ => none
theorem methK_run {t : TypeId} {name : String} {f : FuncId} (h : methK P t name = some f) (v : Value) (k : Nat) : (method (k + 1) t v name).run P w = .ok (f, v) w := by
  unfold methK at h
  split at h
  · simp at h
  · rename_i i hi
    split at h
    · simp at h
    · rename_i mt hm
      have hti : (typeInfo t).run P w = .ok i w := by simp [typeInfo, Sem.run_bind, program, Sem.run, hi]
      split at h
      · rename_i g hp hf
        split at h
        · rename_i e hu
          simp only [Option.some.injEq] at h
          subst h
          simp only [method, Sem.run_bind, hti, Result.andThen_ok, hm, hp, follow, Sem.run_pure, hf, receiverAt, run_underlying hu, Place.get]
        · simp at h
      · rename_i g hp hf
        split at h
        · simp at h
        · rename_i d hne hu
          simp only [Option.some.injEq] at h
          subst h
          simp only [method, Sem.run_bind, hti, Result.andThen_ok, hm, hp, follow, Sem.run_pure, hf, receiverAt, run_underlying hu]
          simp [Place.get]
        · simp at h
      · simp at h
noncomputable def xNil2 (P : Program) (x : SV) (M : Mem) : Out :=
  match x with
  | .fn (.method name) (.iface t v :: as) cs => match methK P t name with
    | some _ => match P.underlying t with
      | some (.pointer _) => .val (.fn (.method name) (.iface t v :: as) cs) M
      | _ => .bad
    | none => .bad
  | x => xNilCheck x M
theorem methK_nil {t : TypeId} {name : String} {f : FuncId} {e : TypeId} (h : methK P t name = some f) (hu : P.underlying t = some (.pointer e)) (v : Value) (k : Nat) : (nilAhead (k + 1) t v name).run P w = .ok (some false) w := by
  unfold methK at h
  split at h
  · simp at h
  · rename_i i hi
    split at h
    · simp at h
    · rename_i mt hm
      have hti : (typeInfo t).run P w = .ok i w := by simp [typeInfo, Sem.run_bind, program, Sem.run, hi]
      split at h
      · rename_i g hp hf
        simp only [nilAhead, Sem.run_bind, hti, Result.andThen_ok, hm, hp, followBlind, Sem.run_pure, hf]
      · rename_i g hp hf
        split at h
        · simp at h
        · rename_i d hne hu'
          rw [hu'] at hu
          simp only [Option.some.injEq] at hu
          exact absurd hu (hne e)
        · simp at h
      · simp at h
noncomputable def xInvoke (P : Program) (name : String) (r : SV) (as : List SV) (M : Mem) : Out :=
  match r with
  | .iface t v => match methK P t name with
    | none => .bad
    | some f => match callable P f with
      | true => .enter f (v :: as) M
      | false => .bad
  | _ => .bad
theorem xInvoke_does (hr : MRel B m M w) {r : SV} {as : List SV} {rv : Value} {vs : Array Value} {name : String} (hf : conc m r = some rv) (has : concs m as = some vs.toList) :
    Does P B m M w (invoke (.fn (.method name) #[]) (#[rv] ++ vs)) (xInvoke P name r as M) := by
  unfold xInvoke
  split
  next t v =>
    simp only [conc, Option.map_eq_some_iff] at hf
    obtain ⟨x, hx, rfl⟩ := hf
    split
    next => trivial
    next f hm =>
      split
      next hc =>
        refine ⟨#[x] ++ vs, m, w, ?_, ?_, .refl hr⟩
        · have h0 : (#[Value.iface t x] ++ vs)[0]? = some (.iface t x) := by
            rw [← Array.getElem?_toList, Array.toList_append]
            rfl
          have h1 : (#[Value.iface t x] ++ vs).extract 1 (#[Value.iface t x] ++ vs).size = vs := by
            apply Array.ext'
            rw [Array.toList_extract, Array.toList_append, Array.size_append]
            show ((Value.iface t x) :: vs.toList).extract 1 (1 + vs.size) = vs.toList
            simp [List.extract, List.take_of_length_le]
          have hk := methK_run (P := P) (w := w) hm x (P.types.size + 99)
          simp only [invoke, h0, h1, callMethod, Sem.run_bind, program]
          rw [show Sem.run P (Sem.program .pure) w = .ok P w from rfl]
          simp only [Result.andThen_ok]
          rw [show P.types.size + Made.depth = P.types.size + 99 + 1 from rfl, hk]
          exact callable_run hc _ _
        · have := concs_cons hx has
          simpa using this
      next => trivial
  next => trivial
noncomputable def xPick (c a b : SV) (M : Mem) : Out :=
  match c with
  | .bool true => .val a M
  | .bool false => .val b M
  | _ => .bad
noncomputable def execOld (P : Program) (M : Mem) (σ : Tree SV) (o : Oper) : Out :=
  match o.op with
  | .move x => with1 (arg M σ x) fun s => .val s M
  | .assign x => with1 (arg M σ x) fun s => .val s M
  | .pick c a b => with1 (arg M σ c) fun c => with1 (arg M σ a) fun a => with1 (arg M σ b) fun b => xPick c a b M
  | .alloc e => xAlloc P e M
  | .box t x => with1 (arg M σ x) fun s => xNew t (cellsOf s) M
  | .build t ps => with1 (partArgs M σ ps.toList) fun l => xBuild P t l M
  | .buildSlice t n ps => with1 (partArgs M σ ps.toList) fun l => xBuildSlice P t n l M
  | .load t a => with1 (arg M σ a) fun a => xLoad P t a M
  | .store t a x => with1 (arg M σ a) fun a => with1 (arg M σ x) fun x => xStore P t a x M
  | .nilCheck x => with1 (arg M σ x) fun x => xNil2 P x M
  | .binOp op t x y _ => with1 (arg M σ x) fun a => with1 (arg M σ y) fun b => xBin3 P op t (cst x || cst y) a b M
  | .unOp op _ x => with1 (arg M σ x) fun x => xUn op x M
  | .convert s d x => with1 (arg M σ x) fun x => xConvert2 P s d x M
  | .makeInterface t x => with1 (arg M σ x) fun x => xIface P t x M
  | .makeFunc fn a b => with1 (args M σ a.toList) fun a => with1 (args M σ b.toList) fun b => .val (.fn fn a b) M
  | .makeSlice t l c => with1 (arg M σ l) fun l => with1 (arg M σ c) fun c => xMake P t l c M
  | .slice t x lo hi mx => with1 (arg M σ x) fun x => with1 (argO M σ lo) fun lo => with1 (argO M σ hi) fun hi => with1 (argO M σ mx) fun mx => xSlice P t x lo hi mx M
  | .fieldAddr t x k => with1 (arg M σ x) fun x => xFieldAddr P t k x M
  | .field t x k => with1 (arg M σ x) fun x => xField P t k x M
  | .indexAddr t x i => with1 (arg M σ x) fun x => with1 (arg M σ i) fun i => xIndexAddr P t x i M
  | .index t x i => with1 (arg M σ x) fun x => with1 (arg M σ i) fun i => xIndex P t x i M
  | .extract x k => with1 (arg M σ x) fun x => xExtract k x M
  | .makeMap _ none => xMakeMap M
  | .lookup t x k ok => with1 (arg M σ x) fun x => with1 (arg M σ k) fun k => xLookup P t x k ok M
  | .mapUpdate t x k v => with1 (arg M σ x) fun x => with1 (arg M σ k) fun k => with1 (arg M σ v) fun v => xMapUpdate P t x k v M
  | .insert t x k v => with1 (arg M σ x) fun x => with1 (arg M σ k) fun k => with1 (arg M σ v) fun v => xMapUpdate P t x k v M
  | .call c => match c.callee with
    | .builtin b => with1 (args M σ c.args.toList) fun as => xBuiltin P b c.argTypes.toList as M
    | .value f => with1 (arg M σ f) fun f => with1 (args M σ c.args.toList) fun as => xCall2 P f as M
    | .invoke r n => with1 (arg M σ r) fun r => with1 (args M σ c.args.toList) fun as => xInvoke P n r as M
  | _ => .bad
noncomputable def eMove (M : Mem) (σ : Tree SV) (x : Operand) : Out := Option.rec .bad (fun s => .val s M) (arg M σ x)
noncomputable def ePick (M : Mem) (σ : Tree SV) (c a b : Operand) : Out := with1 (arg M σ c) fun c => with1 (arg M σ a) fun a => with1 (arg M σ b) fun b => xPick c a b M
noncomputable def eAlloc (P : Program) (M : Mem) (e : TypeId) : Out := xAlloc P e M
noncomputable def eBox (M : Mem) (σ : Tree SV) (t : TypeId) (x : Operand) : Out := with1 (arg M σ x) fun s => xNew t (cellsOf s) M
noncomputable def eBuild (P : Program) (M : Mem) (σ : Tree SV) (t : TypeId) (ps : Array (Nat × Operand)) : Out := with1 (partArgs M σ ps.toList) fun l => xBuild P t l M
noncomputable def eBuildS (P : Program) (M : Mem) (σ : Tree SV) (t : TypeId) (n : Nat) (ps : Array (Nat × Operand)) : Out := with1 (partArgs M σ ps.toList) fun l => xBuildSlice P t n l M
noncomputable def eLoad (P : Program) (M : Mem) (σ : Tree SV) (t : TypeId) (a : Operand) : Out := with1 (arg M σ a) fun a => xLoad P t a M
noncomputable def eStore (P : Program) (M : Mem) (σ : Tree SV) (t : TypeId) (a x : Operand) : Out := with1 (arg M σ a) fun a => with1 (arg M σ x) fun x => xStore P t a x M
noncomputable def eNil (P : Program) (M : Mem) (σ : Tree SV) (x : Operand) : Out := with1 (arg M σ x) fun x => xNil2 P x M
noncomputable def eBin (P : Program) (M : Mem) (σ : Tree SV) (op : BinOp) (t : TypeId) (x y : Operand) (_ : TypeId) : Out := with1 (arg M σ x) fun a => with1 (arg M σ y) fun b => xBin3 P op t (cst x || cst y) a b M
noncomputable def eUn (M : Mem) (σ : Tree SV) (op : UnOp) (_ : TypeId) (x : Operand) : Out := with1 (arg M σ x) fun x => xUn op x M
noncomputable def eConv (P : Program) (M : Mem) (σ : Tree SV) (s d : TypeId) (x : Operand) : Out := with1 (arg M σ x) fun x => xConvert2 P s d x M
noncomputable def eIface (P : Program) (M : Mem) (σ : Tree SV) (t : TypeId) (x : Operand) : Out := with1 (arg M σ x) fun x => xIface P t x M
noncomputable def eFunc (M : Mem) (σ : Tree SV) (fn : Fn) (a b : Array Operand) : Out := with1 (args M σ a.toList) fun a => with1 (args M σ b.toList) fun b => .val (.fn fn a b) M
noncomputable def eMakeS (P : Program) (M : Mem) (σ : Tree SV) (t : TypeId) (l c : Operand) : Out := with1 (arg M σ l) fun l => with1 (arg M σ c) fun c => xMake P t l c M
noncomputable def eSlice (P : Program) (M : Mem) (σ : Tree SV) (t : TypeId) (x : Operand) (lo hi mx : Option Operand) : Out := with1 (arg M σ x) fun x => with1 (argO M σ lo) fun lo => with1 (argO M σ hi) fun hi => with1 (argO M σ mx) fun mx => xSlice P t x lo hi mx M
noncomputable def eFieldA (P : Program) (M : Mem) (σ : Tree SV) (t : TypeId) (x : Operand) (k : Nat) : Out := with1 (arg M σ x) fun x => xFieldAddr P t k x M
noncomputable def eField (P : Program) (M : Mem) (σ : Tree SV) (t : TypeId) (x : Operand) (k : Nat) : Out := with1 (arg M σ x) fun x => xField P t k x M
noncomputable def eIndexA (P : Program) (M : Mem) (σ : Tree SV) (t : TypeId) (x i : Operand) : Out := with1 (arg M σ x) fun x => with1 (arg M σ i) fun i => xIndexAddr P t x i M
noncomputable def eIndex (P : Program) (M : Mem) (σ : Tree SV) (t : TypeId) (x i : Operand) : Out := with1 (arg M σ x) fun x => with1 (arg M σ i) fun i => xIndex P t x i M
noncomputable def eExtract (M : Mem) (σ : Tree SV) (x : Operand) (k : Nat) : Out := with1 (arg M σ x) fun x => xExtract k x M
noncomputable def eMakeM (M : Mem) (_ : TypeId) (r : Option Operand) : Out := match r with
  | none => xMakeMap M
  | some _ => .bad
noncomputable def eLookup (P : Program) (M : Mem) (σ : Tree SV) (t : TypeId) (x k : Operand) (ok : Bool) : Out := with1 (arg M σ x) fun x => with1 (arg M σ k) fun k => xLookup P t x k ok M
noncomputable def eUpdate (P : Program) (M : Mem) (σ : Tree SV) (t : TypeId) (x k v : Operand) : Out := with1 (arg M σ x) fun x => with1 (arg M σ k) fun k => with1 (arg M σ v) fun v => xMapUpdate P t x k v M
noncomputable def eBuiltin (P : Program) (M : Mem) (σ : Tree SV) (as : Array Operand) (ts : Array TypeId) (b : Builtin) : Out := with1 (args M σ as.toList) fun as => xBuiltin P b ts.toList as M
noncomputable def eValue (P : Program) (M : Mem) (σ : Tree SV) (as : Array Operand) (f : Operand) : Out := with1 (arg M σ f) fun f => with1 (args M σ as.toList) fun as => xCall2 P f as M
noncomputable def eInvoke (P : Program) (M : Mem) (σ : Tree SV) (as : Array Operand) (r : Operand) (n : String) : Out := with1 (arg M σ r) fun r => with1 (args M σ as.toList) fun as => xInvoke P n r as M
noncomputable def eCall (P : Program) (M : Mem) (σ : Tree SV) (c : Call) : Out := Call.rec (fun callee as ts => Callee.rec (motive := fun _ => Out) (eValue P M σ as) (eInvoke P M σ as) (eBuiltin P M σ as ts) callee) c
noncomputable def execO (P : Program) (M : Mem) (σ : Tree SV) (o : Op) : Out :=
  Op.rec (motive := fun _ => Out) (eMove M σ) (eMove M σ) (ePick M σ) (eAlloc P M) (eBox M σ) (eBuild P M σ) (eBuildS P M σ) (eUpdate P M σ) (eLoad P M σ) (eStore P M σ)
    (fun _ => .bad) (fun _ => .bad) (eNil P M σ) (eBin P M σ) (eUn M σ) (eConv P M σ) (fun _ _ => .bad) (eIface P M σ) (eFunc M σ) (eMakeM M) (fun _ _ => .bad) (eMakeS P M σ) (eSlice P M σ)
    (eFieldA P M σ) (eField P M σ) (eIndexA P M σ) (eIndex P M σ) (eLookup P M σ) (eUpdate P M σ) (fun _ _ _ => .bad) (fun _ _ _ _ => .bad) (fun _ _ => .bad) (fun _ _ => .bad) (fun _ => .bad) (fun _ _ _ _ => .bad)
    (eExtract M σ) (eCall P M σ) (fun _ => .bad) (fun _ => .bad) (fun _ => .bad) (fun _ _ => .bad) (fun _ _ _ => .bad) (fun _ _ => .bad) o
noncomputable def exec (P : Program) (M : Mem) (σ : Tree SV) (o : Oper) : Out := Oper.rec (fun _ op _ _ _ _ => execO P M σ op) o
theorem exec_old (P : Program) (M : Mem) (σ : Tree SV) (o : Oper) : exec P M σ o = execOld P M σ o := by
  obtain ⟨dst, op, type, pos, after, guard⟩ := o
  cases op with
  | makeMap t r => cases r <;> rfl
  | call c =>
    obtain ⟨callee, as, ts⟩ := c
    cases callee <;> rfl
  | _ => rfl
theorem exec_does (hr : MRel B m M w) (ht : TRel m σ tm) (o : Oper) : Does P B m M w (execOp (den tm) o) (exec P M σ o) := by
  have A : ∀ {x : Operand} {s : SV}, arg M σ x = some s → conc m s = some (den tm x) := fun h => arg_den hr ht h
  have AS : ∀ {l : Array Operand} {r : List SV}, args M σ l.toList = some r → concs m r = some (l.map (den tm)).toList := by
    intro l r h
    rw [Array.toList_map]
    exact args_den hr ht h
  have PS : ∀ {l : Array (Nat × Operand)} {r : List (Nat × SV)}, partArgs M σ l.toList = some r → partsRel m r (l.map fun (i, x) => (i, den tm x)).toList := by
    intro l r h
    rw [Array.toList_map]
    exact partArgs_rel hr ht h
  rw [exec_old]
  obtain ⟨dst, op, type, pos, after, guard⟩ := o
  cases op with
  | move x => exact with1_does fun s h => ⟨.value _, m, w, rfl, A h, .refl hr⟩
  | assign x => exact with1_does fun s h => ⟨.value _, m, w, rfl, A h, .refl hr⟩
  | pick c a b =>
    refine with1_does fun c' hc => with1_does fun a' ha => with1_does fun b' hb => ?_
    have hc' := A hc
    unfold xPick
    split
    · have e : den tm c = .bool true := by simp [conc] at hc'; exact hc'.symm
      refine ⟨.value (den tm a), m, w, ?_, A ha, .refl hr⟩
      show (do Pure.pure (Next.value (if ← asBool (den tm c) then den tm a else den tm b)) : Sem Next).run P w = _
      rw [e]
      simp [asBool]
    · have e : den tm c = .bool false := by simp [conc] at hc'; exact hc'.symm
      refine ⟨.value (den tm b), m, w, ?_, A hb, .refl hr⟩
      show (do Pure.pure (Next.value (if ← asBool (den tm c) then den tm a else den tm b)) : Sem Next).run P w = _
      rw [e]
      simp [asBool]
    · trivial
  | alloc e => exact xAlloc_does hr e
  | box e x => exact with1_does fun s h => xBox_does hr e (A h)
  | build t ps => exact with1_does fun s h => xBuild_does hr (PS h)
  | buildSlice t n ps => exact with1_does fun s h => xBuildSlice_does hr (PS h)
  | load t a => exact with1_does fun s h => xLoad_does hr (A h)
  | store t a x => exact with1_does fun s h => with1_does fun s' h' => xStore_does hr (A h) (A h')
  | nilCheck x =>
    refine with1_does fun s h => ?_
    have hc := A h
    unfold xNil2
    split
    next name t v as cs =>
      split
      next f hm =>
        split
        next e hu =>
          have hc' := hc
          simp only [conc, concs, Option.bind_eq_some_iff, Option.map_eq_some_iff] at hc'
          obtain ⟨a, ⟨i, ⟨x', _, rfl⟩, r, _, rfl⟩, b, _, he⟩ := hc'
          refine ⟨.value (den tm x), m, w, ?_, hc, .refl hr⟩
          have hk := methK_nil (P := P) (w := w) hm hu x' (P.types.size + 99)
          unfold execOp
          simp only [← he, List.getElem?_toArray, List.getElem?_cons_zero, Sem.run_bind, program]
          rw [show Sem.run P (Sem.program .pure) w = .ok P w from rfl]
          simp only [Result.andThen_ok]
          rw [show P.types.size + Made.depth = P.types.size + 99 + 1 from rfl, hk]
          simp
        next => trivial
      next => trivial
    unfold xNilCheck
    split
    · obtain ⟨p, hp, e⟩ := conc_ptr hc
      refine ⟨.value (den tm x), m, w, ?_, hc, .refl hr⟩
      unfold execOp
      simp only [e]
      rfl
    · have hc' := hc
      simp only [conc, Option.map_eq_some_iff] at hc'
      obtain ⟨v, _, e⟩ := hc'
      refine ⟨.value (den tm x), m, w, ?_, hc, .refl hr⟩
      unfold execOp
      simp only [← e]
      rfl
    · obtain ⟨fs, cs, _, _, e⟩ := conc_fn hc
      refine ⟨.value (den tm x), m, w, ?_, hc, .refl hr⟩
      unfold execOp
      simp only [e]
      rfl
    · trivial
  | binOp op t x y u => exact with1_does fun s h => with1_does fun s' h' => xBin3_does hr (A h) (A h')
  | unOp op t x => exact with1_does fun s h => xUn_does hr (A h)
  | convert s d x => exact with1_does fun s h => xConvert2_does hr (A h)
  | makeInterface t x => exact with1_does fun s h => xIface_does hr (A h)
  | makeFunc fn a b => exact with1_does fun s h => with1_does fun s' h' => xFunc_does hr (AS h) (AS h')
  | makeSlice t l c => exact with1_does fun s h => with1_does fun s' h' => xMake_does hr (A h) (A h')
  | slice t x lo hi mx => exact with1_does fun s h => with1_does fun a ha => with1_does fun b hb => with1_does fun c hc => xSlice_does hr (A h) (argO_den hr ht ha) (argO_den hr ht hb) (argO_den hr ht hc)
  | fieldAddr t x k => exact with1_does fun s h => xFieldAddr_does hr (A h)
  | field t x k => exact with1_does fun s h => xField_does hr (A h)
  | indexAddr t x i => exact with1_does fun s h => with1_does fun s' h' => xIndexAddr_does hr (A h) (A h')
  | index t x i => exact with1_does fun s h => with1_does fun s' h' => xIndex_does hr (A h) (A h')
  | extract x k => exact with1_does fun s h => xExtract_does hr (A h)
  | makeMap t r =>
    cases r with
    | none => exact xMakeMap_does hr t
    | some x => trivial
  | lookup t x k ok => exact with1_does fun s h => with1_does fun s' h' => xLookup_does hr (A h) (A h')
  | mapUpdate t x k v => exact with1_does fun s h => with1_does fun s' h' => with1_does fun s'' h'' => xMapUpdate_does hr (A h) (A h') (A h'')
  | insert t x k v => exact with1_does fun s h => with1_does fun s' h' => with1_does fun s'' h'' => xMapUpdate_does hr (A h) (A h') (A h'')
  | call c =>
    obtain ⟨callee, as, ts⟩ := c
    cases callee with
    | builtin b => exact with1_does fun s h => xBuiltin_does hr (AS h)
    | value f =>
      refine with1_does fun s h => with1_does fun s' h' => ?_
      exact xCall2_does hr (A h) (AS h')
    | invoke r n =>
      refine with1_does fun s h => with1_does fun s' h' => ?_
      exact xInvoke_does hr (A h) (AS h')
  | _ => trivial
end
end Go.Ev
namespace Go.Ev
open Go.RowKit
variable {P : Program}
abbrev Known := FuncId → List SV → Mem → Option (SV × Mem)
noncomputable def putD (σ : Tree SV) (n : Nat) (d : Option Tmp) (s : SV) : Option (Tree SV) :=
  match d with
  | none => some σ
  | some d => match Nat.ble (Nat.succ d) n with
    | true => some (σ.put (some s) (Pos.ofNat d))
    | false => none
noncomputable def wantS (all : Array Oper) (σ : Tree SV) (o : Oper) : Option Bool :=
  match o.guard with
  | none => some true
  | some (j, want) => match (all[j]?).bind (·.dst) with
    | none => some false
    | some d => match σ.get (Pos.ofNat d) with
      | some (.bool b) => some (b == want)
      | some (.tuple []) => some false
      | _ => none
structure Cx where
  fn : FuncId
  ds : List Deferred
  rd : Option Nat
def mkF (cx : Cx) (tm : Array Value) (todo : List Item) : Frame := { fn := cx.fn, tmps := tm, todo, defers := cx.ds, mode := .run, kind := .normal, roundOf := cx.rd }
theorem exec_nd {M : Mem} {σ : Tree SV} {o : Oper} (h : exec P M σ o ≠ .bad) : ∀ c, o.op ≠ .defer c := by
  intro c hc
  apply h
  rw [exec_old]
  unfold execOld
  rw [hc]
theorem den_eval (tm : Array Value) (ds : List Deferred) : (Act.eval ⟨tm, ds⟩) = den tm := by
  funext x; cases x <;> rfl
def Sound (P : Program) (B : Nat) (I : Known) : Prop := ∀ f as M s M', I f as M = some (s, M') → ∀ (m : Map) (w : World) (vs : Array Value), MRel B m M w → concs m as = some vs.toList →
  ∀ (c : Frame) (cs : List Frame), ∃ m' w' v, Stepped B m M w m' M' w' ∧ conc m' s = some v ∧ Steps P (lone (Frame.enter P f vs .normal) (c :: cs) w) (lone (c.finish v) cs w')
theorem sound_none (P : Program) (B : Nat) : Sound P B (fun _ _ _ => none) := by
  intro f as M s M' h
  simp at h
section
variable {B : Nat} {m : Map} {M : Mem} {w : World}
theorem putD_rel {σ σ' : Tree SV} {tm : Array Value} {n : Nat} {d : Option Tmp} {s : SV} {v : Value} (h : putD σ n d s = some σ') (ht : TRel m σ tm) (hn : tm.size = n) (hv : conc m s = some v) :
    ∃ tm', (∀ ds, Act.put ⟨tm, ds⟩ d v = ⟨tm', ds⟩) ∧ TRel m σ' tm' ∧ tm'.size = n := by
  unfold putD at h
  split at h
  · simp only [Option.some.injEq] at h
    subst h
    exact ⟨tm, fun _ => rfl, ht, hn⟩
  · rename_i d
    split at h
    · rename_i hb
      simp only [Option.some.injEq] at h
      subst h
      have := Nat.le_of_ble_eq_true hb
      exact ⟨tm.setIfInBounds d v, fun _ => rfl, ht.put (by omega) hv, by simpa using hn⟩
    · simp at h
theorem wantS_rel {all : Array Oper} {σ : Tree SV} {tm : Array Value} {o : Oper} {b : Bool} (h : wantS all σ o = some b) (ht : TRel m σ tm) : Region.wanted o (yielded all tm) = b := by
  unfold wantS at h
  unfold Region.wanted
  split at h
  · rename_i hg
    rw [hg]
    simpa using h
  · rename_i j want hg
    rw [hg]
    simp only [yielded]
    split at h
    · rename_i hd
      simp only [Option.some.injEq] at h
      subst h
      rw [hd]
      rfl
    · rename_i d hd
      rw [hd]
      split at h
      · rename_i x hx
        simp only [Option.some.injEq] at h
        subst h
        obtain ⟨v, h1, h2⟩ := ht _ _ hx
        have : v = .bool x := by simp [conc] at h2; exact h2.symm
        subst this
        simp [h1]
      · rename_i hx
        simp only [Option.some.injEq] at h
        subst h
        obtain ⟨v, h1, h2⟩ := ht _ _ hx
        have : v = .tuple #[] := by simp [conc, concs] at h2; exact h2.symm
        subst this
        simp [h1]
      · simp at h
end
end Go.Ev
