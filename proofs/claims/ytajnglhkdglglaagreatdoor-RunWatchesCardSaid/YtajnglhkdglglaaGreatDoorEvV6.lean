/- A part of the small machine. -/
import Derived.Test.YtajnglhkdglglaaGreatDoorEvV3
set_option linter.unusedVariables false
/- Operands; what an operation gives. -/
namespace Go.Ev
open Go.RowKit
variable {P : Program}

noncomputable def zli (f : Value → Option SV) (l : List Value) : Option (List SV) :=
 List.rec (some []) (fun a _ ih => Option.rec none (fun x => Option.rec none (fun r => some (x :: r)) ih) (f a)) l

theorem zg4 {f : Value → Option SV} {m : Map} (hf : ∀ v s, f v = some s → conc m s = some v) : ∀ {l : List Value} {r : List SV}, zli f l = some r → concs m r = some l
 | [], r, h => by
  have h' : some [] = some r := h
  simp at h'; subst h'; simp [concs]
 | a :: l, r, h => by
  have h' : Option.rec none (fun x => Option.rec none (fun r => some (x :: r)) (zli f l)) (f a) = some r := h
  cases ha : f a with
  | none => rw [ha] at h'; simp at h'
  | some x =>
   rw [ha] at h'
   cases hl : zli f l with
   | none => simp [hl] at h'
   | some k =>
    simp only [hl, Option.some.injEq] at h'
    subst h'
    exact K4 (hf _ _ ha) (zg4 hf hl)

/-- A value without a place, of one part. -/
def zxw : Value → Option SV
 | .bool b => some (.bool b)
 | .int k n => some (.int k n)
 | .string s => some (.str s.data.toList)
 | .pointer none => some .nilp
 | .slice none 0 0 => some .nils
 | .map none => some .nilm
 | .nilFunc => some .nilf
 | .nilIface => some .nili
 | _ => none

theorem zhr (m : Map) (v : Value) (s : SV) (h : zxw v = some s) : conc m s = some v := by
 unfold zxw at h
 split at h <;> first | (simp only [Option.some.injEq] at h; subst h; simp [conc]; done) | (simp at h; done)

noncomputable def zyq : Value → Option SV
 | .iface t v => (zxw v).map (.iface t ·)
 | .agg cs => (zli zxw cs.toList).map .agg
 | .tuple cs => (zli zxw cs.toList).map .tuple
 | v => zxw v

theorem zll (m : Map) (v : Value) (s : SV) (h : zyq v = some s) : conc m s = some v := by
 unfold zyq at h
 split at h
 ·simp only [Option.map_eq_some_iff] at h
  obtain ⟨x, hx, rfl⟩ := h
  simp [conc, zhr m _ _ hx]
 ·simp only [Option.map_eq_some_iff] at h
  obtain ⟨x, hx, rfl⟩ := h
  simp [conc, zg4 (zhr m) hx]
 ·simp only [Option.map_eq_some_iff] at h
  obtain ⟨x, hx, rfl⟩ := h
  simp [conc, zg4 (zhr m) hx]
 ·exact zhr m _ _ h

noncomputable def ofV : Value → Option SV
 | .iface t v => (zyq v).map (.iface t ·)
 | .agg cs => (zli zyq cs.toList).map .agg
 | .tuple cs => (zli zyq cs.toList).map .tuple
 | v => zxw v

theorem zkp (m : Map) (v : Value) (s : SV) (h : ofV v = some s) : conc m s = some v := by
 unfold ofV at h
 split at h
 ·simp only [Option.map_eq_some_iff] at h
  obtain ⟨x, hx, rfl⟩ := h
  simp [conc, zll m _ _ hx]
 ·simp only [Option.map_eq_some_iff] at h
  obtain ⟨x, hx, rfl⟩ := h
  simp [conc, zg4 (zll m) hx]
 ·simp only [Option.map_eq_some_iff] at h
  obtain ⟨x, hx, rfl⟩ := h
  simp [conc, zg4 (zll m) hx]
 ·exact zhr m _ _ h

theorem zfg.put {m : Map} {σ : Tree SV} {tm : Array Value} (hr : zfg m σ tm) {d : Nat} (hd : d < tm.size) {s : SV} {v : Value} (hv : conc m s = some v) :
  zfg m (σ.put (some s) (Pos.ofNat d)) (tm.setIfInBounds d v) := by
 intro t x hx
 by_cases h : d = t
 ·subst h
  rw [Tree.get_put_same] at hx
  cases hx
  exact ⟨v, by simp [hd], hv⟩
 ·rw [Tree.get_put_other _ _ (fun e => h (Pos.ofNat_inj e))] at hx
  obtain ⟨u, h1, h2⟩ := hr t x hx
  exact ⟨u, by rw [Array.getElem?_setIfInBounds_ne h]; exact h1, h2⟩

/-- What an operand is in the model. -/
def den (tm : Array Value) : Operand → Value
 | .tmp t => tm.getD t undef
 | .const v => v
 | .global g => .pointer (some ⟨g, 0, none⟩)
 | .func f => .func (.func f) #[] #[]

noncomputable def zu0 (M : Mem) (b : Pos) : Bool := match M.t.get b with
 | some (.fix _) => true
 | _ => false

theorem zw5 {M : Mem} {b : Pos} (h : zu0 M b = true) : ∃ c, M.t.get b = some (.fix c) := by
 unfold zu0 at h
 split at h
 ·rename_i c hc; exact ⟨c, hc⟩
 ·simp at h

noncomputable def arg (M : Mem) (σ : Tree SV) (x : Operand) : Option SV :=
 Operand.rec (fun t => σ.get (Pos.ofNat t)) (fun v => ofV v) (fun g => Bool.rec none (some (.ptr (Pos.ofNat g) 0)) (zu0 M (Pos.ofNat g))) (fun f => some (.fn (.func f) [] [])) x

section
variable {B : Nat} {m : Map} {M : Mem} {w : World} {σ : Tree SV} {tm : Array Value}

theorem zif (hr : MRel B m M w) (ht : zfg m σ tm) {x : Operand} {s : SV} (h : arg M σ x = some s) : conc m s = some (den tm x) := by
 cases x with
 | tmp t =>
  obtain ⟨v, h1, h2⟩ := ht t s h
  rw [h2]
  simp [den, Array.getD_eq_getD_getElem?, h1]
 | const v => exact zkp m _ _ h
 | global g =>
  have h' : Bool.rec none (some (.ptr (Pos.ofNat g) 0)) (zu0 M (Pos.ofNat g)) = some s := h
  cases hf : zu0 M (Pos.ofNat g) with
  | false => rw [hf] at h'; simp at h'
  | true =>
   rw [hf] at h'
   simp only [Option.some.injEq] at h'
   subst h'
   obtain ⟨c, hc⟩ := zw5 hf
   obtain ⟨z, hm, _⟩ := hr.glob _ _ hc
   simp [conc, hm, den, Pos.num_ofNat]
 | func f =>
  have h' : some (SV.fn (.func f) [] []) = some s := h
  simp only [Option.some.injEq] at h'
  subst h'
  simp [conc, concs, den]

noncomputable def args (M : Mem) (σ : Tree SV) (l : List Operand) : Option (List SV) :=
 List.rec (some []) (fun a _ ih => Option.rec none (fun x => Option.rec none (fun r => some (x :: r)) ih) (arg M σ a)) l

theorem zr7 (hr : MRel B m M w) (ht : zfg m σ tm) : ∀ {l : List Operand} {r : List SV}, args M σ l = some r → concs m r = some (l.map (den tm))
 | [], r, h => by
  have h' : some [] = some r := h
  simp at h'; subst h'; simp [concs]
 | a :: l, r, h => by
  have h' : Option.rec none (fun x => Option.rec none (fun r => some (x :: r)) (args M σ l)) (arg M σ a) = some r := h
  cases ha : arg M σ a with
  | none => rw [ha] at h'; simp at h'
  | some x =>
   rw [ha] at h'
   cases hl : args M σ l with
   | none => simp [hl] at h'
   | some k =>
    simp only [hl, Option.some.injEq] at h'
    subst h'
    exact K4 (zif hr ht ha) (zr7 hr ht hl)

end

/-- What an operation gives: a value, or a call, or a round of a loop over a function. -/
inductive Out where
 | bad
 | val (v : SV) (M : Mem)
 | enter (f : FuncId) (args : List SV) (M : Mem)
 | round (l : Pos) (args : List SV) (M : Mem)

def Nx (m : Map) (s : SV) : Next → Prop
 | .value v => conc m s = some v
 | .skip => s = .tuple []
 | _ => False

/-- The model does likewise. -/
def zdo (P : Program) (B : Nat) (m : Map) (M : Mem) (w : World) (q : Sem Next) : Out → Prop
 | .bad => True
 | .val s M' => ∃ x m' w', q.run P w = .ok x w' ∧ Nx m' s x ∧ zdc B m M w m' M' w'
 | .enter f as M' => ∃ vs m' w', q.run P w = .ok (.enter f vs) w' ∧ concs m' as = some vs.toList ∧ zdc B m M w m' M' w'
 | .round l as M' => ∃ (p : Pl) (R : Loop) (vs : Array Value) (m' : Map) (w' : World), m' l = some p ∧ w'.heap[p.block]? = some (.loop R) ∧ vs.size = R.params.size ∧
   q.run P w = .ok (.round p.block R.fn ((R.params.zip vs).foldl (fun tmps (t, a) => tmps.setIfInBounds t a) R.tmps) R.assign R.body) w' ∧ concs m' as = some vs.toList ∧ zdc B m M w m' M' w'

section
variable {B : Nat} {m : Map} {M : Mem} {w : World}

/-- A value that leaves memory alone. -/
theorem zdo.pure (hr : MRel B m M w) {q : Sem Value} {s : SV} {v : Value} (hq : q.run P w = .ok v w) (hv : conc m s = some v) :
  zdo P B m M w (do Pure.pure (Next.value (← q))) (.val s M) :=
 ⟨.value v, m, w, by simp [hq], hv, .refl hr⟩

theorem zdo.value {q : Sem Value} {s : SV} {v : Value} {m' M' w'} (hq : q.run P w = .ok v w') (hv : conc m' s = some v) (hs : zdc B m M w m' M' w') :
  zdo P B m M w (do Pure.pure (Next.value (← q))) (.val s M') :=
 ⟨.value v, m', w', by simp [hq], hv, hs⟩

theorem zdo.unit {q : Sem Unit} {m' M' w'} (hq : q.run P w = .ok () w') (hs : zdc B m M w m' M' w') :
  zdo P B m M w (do q; Pure.pure Next.skip) (.val (.tuple []) M') :=
 ⟨.skip, m', w', by simp [hq], rfl, hs⟩
end

end Go.Ev

/- Operations on memory. -/
namespace Go.Ev
open Go.RowKit
variable {P : Program}

theorem zfd {t : TypeId} {i : TypeInfo} (h : P.info? t = some i) (w : World) : (typeInfo t).run P w = .ok i w := by simp [typeInfo, h]
theorem zge {t : TypeId} {i : TypeInfo} (h : P.info? t = some i) (w : World) : (sizeOf t).run P w = .ok i.size w := by simp [sizeOf, typeInfo, h]

noncomputable def Zx (P : Program) (t : TypeId) : Option Nat := (P.info? t).map (·.size)
def zx3 : TypeDesc → Bool
 | .struct _ | .array _ _ => true
 | _ => false
/-- How many cells a struct or an array has; none for a value of one cell. -/
noncomputable def Jw (P : Program) (t : TypeId) : Option (Option Nat) :=
 (P.underlying t).bind fun d => (P.info? t).map fun i => if zx3 d then some i.size else none

theorem zdy {t : TypeId} {n : Nat} (h : Zx P t = some n) (w : World) : (sizeOf t).run P w = .ok n w := by
 simp only [Zx, Option.map_eq_some_iff] at h
 obtain ⟨i, hi, rfl⟩ := h
 exact zge hi w

theorem zpi {t : TypeId} {d : TypeDesc} (h : P.underlying t = some d) (w : World) : (isAgg t).run P w = .ok (zx3 d) w := by
 simp only [isAgg, Sem.run_bind, run_underlying h, Result.andThen_ok]
 cases d <;> rfl

theorem zf4 {t : TypeId} {n : Nat} (h : Jw P t = some (some n)) (w : World) : (isAgg t).run P w = .ok true w ∧ (sizeOf t).run P w = .ok n w := by
 simp only [Jw, Option.bind_eq_some_iff, Option.map_eq_some_iff] at h
 obtain ⟨d, hd, i, hi, h⟩ := h
 rw [zpi hd]
 split at h
 ·rename_i ha
  simp only [Option.some.injEq] at h
  subst h
  exact ⟨by rw [ha], zge hi w⟩
 ·simp at h

theorem zhe {t : TypeId} (h : Jw P t = some none) (w : World) : (isAgg t).run P w = .ok false w := by
 simp only [Jw, Option.bind_eq_some_iff, Option.map_eq_some_iff] at h
 obtain ⟨d, hd, i, hi, h⟩ := h
 rw [zpi hd]
 split at h
 ·simp at h
 ·rename_i ha
  simp only [Bool.not_eq_true] at ha
  rw [ha]

section
variable {B : Nat} {m : Map} {M : Mem} {w : World}

theorem zeb {b : Pos} {off : Nat} {v : Value} (h : conc m (.ptr b off) = some v) : ∃ p, m b = some p ∧ v = .pointer (some ⟨p.block, off + p.shift, none⟩) := by
 simp only [conc, Option.map_eq_some_iff] at h
 obtain ⟨p, hp, rfl⟩ := h
 exact ⟨p, hp, rfl⟩

theorem zez {l : List SV} {v : Value} (h : conc m (.agg l) = some v) : ∃ vs, concs m l = some vs ∧ v = .agg vs.toArray := by
 simp only [conc, Option.map_eq_some_iff] at h
 obtain ⟨p, hp, rfl⟩ := h
 exact ⟨p, hp, rfl⟩

theorem zsa {l : List SV} {v : Value} (h : conc m (.tuple l) = some v) : ∃ vs, concs m l = some vs ∧ v = .tuple vs.toArray := by
 simp only [conc, Option.map_eq_some_iff] at h
 obtain ⟨p, hp, rfl⟩ := h
 exact ⟨p, hp, rfl⟩

/-- LOAD -/
noncomputable def zil (P : Program) (t : TypeId) (a : SV) (M : Mem) : Out :=
 match a with
 | .ptr b off =>
  match zen M b with
  | some cells =>
   match Jw P t with
   | some none => match nth cells off with
    | some s => .val s M
    | none => .bad
   | some (some n) => match Nat.ble (Nat.add off n) (len cells) with
    | true => .val (.agg (tk n (dp off cells))) M
    | false => .bad
   | none => .bad
  | none => .bad
 | _ => .bad

theorem zn5 (hr : MRel B m M w) {t : TypeId} {a : SV} {v : Value} (ha : conc m a = some v) :
  zdo P B m M w (do Pure.pure (Next.value (← Instr.loadAt t v))) (zil P t a M) := by
 unfold zil
 split
 next b off =>
  split
  next cells hc =>
   obtain ⟨p, hp, rfl⟩ := zeb ha
   split
   next hz =>
    split
    next s hs =>
     rw [zmq] at hs
     obtain ⟨u, hu, hcell⟩ := ztf hr hc hp hs
     refine zdo.pure hr (v := u) ?_ hu
     simp [Instr.loadAt, Instr.sureAddr, loadVar, Sem.run_bind, zhe hz, hcell]
    next => trivial
   next n hz =>
    split
    next hn =>
     rw [zef] at hn
     have hn' : off + n ≤ cells.length := by simpa using hn
     obtain ⟨vs, hvs, hl, _, hrun⟩ := zht (P := P) hr hc hp hn'
     refine zdo.pure hr (v := .agg vs.toArray) ?_ ?_
     ·simp [Instr.loadAt, Instr.sureAddr, loadVar, Sem.run_bind, (zf4 hz w).1, (zf4 hz w).2, hrun]
     ·rw [zh6, zgw]; simp [conc, hvs]
    next => trivial
   next => trivial
  next => trivial
 next => trivial

def cellsOf : SV → List SV
 | .agg l => l
 | s => [s]

theorem zfn {s : SV} {v : Value} (h : conc m s = some v) : concs m (cellsOf s) = some v.cells.toList := by
 have key : ∀ (x : SV) (u : Value), conc m x = some u → cellsOf x = [x] → u.cells = #[u] → concs m (cellsOf x) = some u.cells.toList := by
  intro x u hx h1 h2
  rw [h1, h2]
  exact K4 hx (Kk m)
 cases s with
 | agg l =>
  obtain ⟨vs, hvs, rfl⟩ := zez h
  simpa [cellsOf, Value.cells] using hvs
 | _ =>
  refine key _ _ h rfl ?_
  simp only [conc, Option.map_eq_some_iff, Option.bind_eq_some_iff, Option.some.injEq] at h
  first
   | (subst h; rfl)
   | (obtain ⟨_, _, rfl⟩ := h; rfl)
   | (obtain ⟨_, _, _, _, rfl⟩ := h; rfl)
   | (obtain ⟨_, _, h⟩ := h; split at h <;> first | (simp only [Option.some.injEq] at h; subst h; rfl) | (simp at h; done))

/-- STORE -/
noncomputable def zn6 (P : Program) (t : TypeId) (a v : SV) (M : Mem) : Out :=
 match a with
 | .ptr b off =>
  match Zx P t with
  | some n => match Nat.beq (len (cellsOf v)) n with
   | true => match putCells M b off (cellsOf v) with
    | some M' => .val (.tuple []) M'
    | none => .bad
   | false => .bad
  | none => .bad
 | _ => .bad

theorem zr5 (hr : MRel B m M w) {t : TypeId} {a x : SV} {v u : Value} (ha : conc m a = some v) (hx : conc m x = some u) :
  zdo P B m M w (do Instr.storeAt t v u; Pure.pure Next.skip) (zn6 P t a x M) := by
 unfold zn6
 split
 next b off =>
  split
  next n hn =>
   split
   next hl =>
    split
    next M' hM =>
     obtain ⟨p, hp, rfl⟩ := zeb ha
     have hc := zfn hx
     obtain ⟨w', hrun, hs⟩ := zjw (P := P) hr hM hp hc
     refine zdo.unit (w' := w') ?_ hs
     rw [zef] at hl
     have hl' : (cellsOf x).length = n := by simpa using hl
     have hsz : u.cells.size = n := by rw [← hl', ← zdh hc]; simp
     simp [Instr.storeAt, Instr.sureAddr, storeVar, Sem.run_bind, zdy hn, hsz, hrun]
    next => trivial
   next => trivial
  next => trivial
 next => trivial

/-- NEW VARIABLES -/
noncomputable def Xd (P : Program) (t : TypeId) : Option (List SV) := ((P.info? t).bind (·.zero)).bind fun z => (ofV z).map cellsOf

theorem zim {t : TypeId} {l : List SV} (h : Xd P t = some l) (w : World) : ∃ z, (zeroValue t).run P w = .ok z w ∧ concs m l = some z.cells.toList := by
 simp only [Xd, Option.bind_eq_some_iff, Option.map_eq_some_iff] at h
 obtain ⟨z, ⟨i, hi, hz⟩, s, hs, rfl⟩ := h
 exact ⟨z, by simp [zeroValue, Sem.run_bind, zfd hi, hz], zfn (zkp m _ _ hs)⟩

noncomputable def zff (M : Mem) : Pos := Mem.rec (fun _ n _ => n) M
theorem zew (M : Mem) : zff M = M.next := by cases M; rfl

noncomputable def zz2 (e : TypeId) (cells : List SV) (M : Mem) : Out := .val (.ptr (zff M) 0) (zec e .whole M cells)

theorem zjr (hr : MRel B m M w) (kk : RK) {cells : List SV} {vs post : List Value} (hkk : kk ≠ .whole ∨ post = []) (e : TypeId) (hv : concs m cells = some vs) {w' : World} (hw : w'.heap = w.heap.push (.cells (vs ++ post).toArray e (0, 0)))
  (hos : w'.os = w.os) (htape : w'.tape = w.tape) (hout : w'.output = w.output) :
  ∃ m', zdc B m M w m' (zec e kk M cells) w' ∧ m' M.next = some ⟨w.heap.size, 0, vs.length + post.length⟩ :=
 ⟨_, ztc hr kk cells vs post hkk e hv hw hos htape hout, by simp⟩

theorem zmv (w : World) (t : TypeId) (v : Value) : (newVar t v).run P w = .ok ⟨w.heap.size, 0, none⟩ (w.alloc (.cells v.cells t)) := by
 simp [newVar, newRow, newObj, Sem.run]

theorem zpt {m' : Map} {k : Nat} {M : Mem} {n : Nat} (h : m' M.next = some ⟨n, 0, k⟩) : conc m' (.ptr (zff M) 0) = some (.pointer (some ⟨n, 0, none⟩)) := by
 simp [conc, zew, h]

theorem zve (hr : MRel B m M w) (t : TypeId) {x : SV} {u : Value} (hx : conc m x = some u) :
  zdo P B m M w (do Pure.pure (Next.value (← Instr.box t u))) (zz2 t (cellsOf x) M) := by
 obtain ⟨m', hs, hm⟩ := zjr hr .whole (.inr rfl) t (zfn hx) (post := []) (w' := w.alloc (.cells u.cells t)) (by show w.heap.push _ = _; simp) rfl rfl rfl
 exact zdo.value (by simp [Instr.box, zmv]) (zpt hm) hs

noncomputable def zmz (P : Program) (t : TypeId) (M : Mem) : Out :=
 match Xd P t with
 | some l => zz2 t l M
 | none => .bad

theorem zqu (hr : MRel B m M w) (t : TypeId) :
  zdo P B m M w (do Pure.pure (Next.value (← Instr.alloc t true (.tuple #[])))) (zmz P t M) := by
 unfold zmz
 split
 next l hl =>
  obtain ⟨z, hz, hc⟩ := zim (m := m) hl w
  obtain ⟨m', hs, hm⟩ := zjr hr .whole (.inr rfl) t hc (post := []) (w' := w.alloc (.cells z.cells t)) (by show w.heap.push _ = _; simp) rfl rfl rfl
  exact zdo.value (by simp [Instr.alloc, Sem.run_bind, hz, zmv]) (zpt hm) hs
 next => trivial

end
end Go.Ev

/- Parts: fields, elements, slices of slices and strings, composite values. -/
namespace Go.Ev
open Go.RowKit
variable {P : Program}

theorem zie (b x y s : Nat) : (⟨b, x + s, none⟩ : Addr).add y = ⟨b, x + y + s, none⟩ := by rw [ziq]; congr 1; omega

section
variable {B : Nat} {m : Map} {M : Mem} {w : World}

/-- FIELDS BY ADDRESS -/
noncomputable def Jy (P : Program) (t : TypeId) (k : Nat) : Option Nat :=
 (P.underlying t).bind fun d => match d with
  | .struct fs => (fs[k]?).bind fun f => (Zx P f.type).bind fun n => match Nat.beq n 0 with
   | true => none
   | false => some f.offset
  | _ => none

theorem zot {t : TypeId} {k o : Nat} (h : Jy P t k = some o) (b x : Nat) (w : World) :
  (Instr.fieldAt t (.pointer (some ⟨b, x, none⟩)) k).run P w = .ok (.pointer (some ⟨b, x + o, none⟩)) w := by
 simp only [Jy, Option.bind_eq_some_iff] at h
 obtain ⟨d, hd, h⟩ := h
 split at h
 ·rename_i fs
  simp only [Option.bind_eq_some_iff] at h
  obtain ⟨f, hf, n, hn, h⟩ := h
  split at h
  ·simp at h
  ·rename_i hn0
   simp only [Option.some.injEq] at h
   have hn1 : n ≠ 0 := by intro e; subst e; exact absurd hn0 (by decide)
   simp [Instr.fieldAt, Sem.run_bind, run_underlying hd, hf, Instr.sureAddr, fieldPlace, zdy hn, hn1, ziq, h]
 ·simp at h

noncomputable def zf9 (P : Program) (t : TypeId) (k : Nat) (a : SV) (M : Mem) : Out :=
 match a with
 | .ptr b off => match Jy P t k with
  | some o => .val (.ptr b (Nat.add off o)) M
  | none => .bad
 | _ => .bad

theorem zm9 (hr : MRel B m M w) {t : TypeId} {k : Nat} {a : SV} {v : Value} (ha : conc m a = some v) :
  zdo P B m M w (do Pure.pure (Next.value (← Instr.fieldAt t v k))) (zf9 P t k a M) := by
 unfold zf9
 split
 next b off =>
  split
  next o ho =>
   obtain ⟨p, hp, rfl⟩ := zeb ha
   refine zdo.pure hr (zot ho _ _ _) ?_
   simp [conc, hp]; omega
  next => trivial
 next => trivial

/-- PARTS OF A COMPOSITE VALUE -/
noncomputable def zij (P : Program) (t : TypeId) (l : List SV) (off : Nat) : Option SV :=
 match Jw P t with
 | some none => nth l off
 | some (some n) => match Nat.ble (Nat.add off n) (len l) with
  | true => some (.agg (tk n (dp off l)))
  | false => none
 | none => none

theorem zfq {t : TypeId} {l : List SV} {off : Nat} {s : SV} (h : zij P t l off = some s) {vs : List Value} (hl : concs m l = some vs) (w : World) :
  ∃ v, (part t vs.toArray off).run P w = .ok v w ∧ conc m s = some v := by
 unfold zij at h
 split at h
 next hz =>
  rw [zmq] at h
  obtain ⟨v, hv, hi⟩ := zit hl h
  exact ⟨v, by simp [part, Sem.run_bind, zhe hz, hi], hv⟩
 next n hz =>
  split at h
  next hn =>
   simp only [Option.some.injEq] at h
   subst h
   refine ⟨.agg (vs.toArray.extract off (off + n)), by simp [part, Sem.run_bind, (zf4 hz w).1, (zf4 hz w).2], ?_⟩
   rw [zh6, zgw]
   simp [conc, zgm n (zgl off hl), List.extract_eq_take_drop]
  next => simp at h
 next => simp at h

noncomputable def ztz (P : Program) (t : TypeId) (k : Nat) : Option (TypeId × Nat) :=
 (P.underlying t).bind fun d => match d with
  | .struct fs => (fs[k]?).map fun f => (f.type, f.offset)
  | _ => none

noncomputable def zn3 (P : Program) (t : TypeId) (k : Nat) (a : SV) (M : Mem) : Out :=
 match a with
 | .agg l => match ztz P t k with
  | some (u, o) => match zij P u l o with
   | some s => .val s M
   | none => .bad
  | none => .bad
 | _ => .bad

theorem zr0 (hr : MRel B m M w) {t : TypeId} {k : Nat} {a : SV} {v : Value} (ha : conc m a = some v) :
  zdo P B m M w (do Pure.pure (Next.value (← Instr.field t v k))) (zn3 P t k a M) := by
 unfold zn3
 split
 next l =>
  split
  next u o hu =>
   split
   next s hs =>
    obtain ⟨vs, hvs, rfl⟩ := zez ha
    obtain ⟨x, hx, hc⟩ := zfq hs hvs w
    simp only [ztz, Option.bind_eq_some_iff] at hu
    obtain ⟨d, hd, hu⟩ := hu
    split at hu
    ·rename_i fs
     simp only [Option.map_eq_some_iff, Prod.mk.injEq] at hu
     obtain ⟨f, hf, rfl, rfl⟩ := hu
     exact zdo.pure hr (by simp [Instr.field, Sem.run_bind, run_underlying hd, hf, asAgg, hx]) hc
    ·simp at hu
   next => trivial
  next => trivial
 next => trivial

/-- EXTRACT -/
noncomputable def zer (k : Nat) (a : SV) (M : Mem) : Out :=
 match a with
 | .tuple l => match nth l k with
  | some s => .val s M
  | none => .bad
 | _ => .bad

theorem zoa (hr : MRel B m M w) {k : Nat} {a : SV} {v : Value} (ha : conc m a = some v) :
  zdo P B m M w (do Pure.pure (Next.value (← Instr.extract v k))) (zer k a M) := by
 unfold zer
 split
 next l =>
  split
  next s hs =>
   rw [zmq] at hs
   obtain ⟨vs, hvs, rfl⟩ := zsa ha
   obtain ⟨x, hx, hi⟩ := zit hvs hs
   exact zdo.pure hr (by simp [Instr.extract, hi]) hx
  next => trivial
 next => trivial

/-- ELEMENTS BY ADDRESS -/
noncomputable def znt (i : Int) (n : Nat) : Option Nat :=
 Int.rec (fun j => Bool.rec none (some j) (Nat.ble (Nat.succ j) n)) (fun _ => none) i

theorem zkn {i : Int} {n j : Nat} (h : znt i n = some j) : i = (j : Int) ∧ j < n := by
 cases i with
 | ofNat k =>
  have h' : Bool.rec none (some k) (Nat.ble (Nat.succ k) n) = some j := h
  cases hb : Nat.ble (Nat.succ k) n with
  | false => rw [hb] at h'; simp at h'
  | true =>
   rw [hb] at h'
   simp only [Option.some.injEq] at h'
   subst h'
   exact ⟨rfl, by have := Nat.le_of_ble_eq_true hb; omega⟩
 | negSucc k => exact absurd (show (none : Option Nat) = some j from h) (by simp)

inductive Elems where
 | arr (n size : Nat)
 | sl (size : Nat)
noncomputable def Zf (P : Program) (t : TypeId) : Option Elems :=
 (P.underlying t).bind fun d => match d with
  | .array n e => (Zx P e).map (.arr n ·)
  | .slice e => (Zx P e).map (.sl ·)
  | _ => none

noncomputable def zdr (P : Program) (t : TypeId) (a i : SV) (M : Mem) : Out :=
 match a, i with
 | .ptr b off, .int _ k => match Zf P t with
  | some (.arr n z) => match znt k n with
   | some j => .val (.ptr b (Nat.add off (Nat.mul j z))) M
   | none => .bad
  | _ => .bad
 | .slice b off n _, .int _ k => match Zf P t with
  | some (.sl z) => match znt k n with
   | some j => .val (.ptr b (Nat.add off (Nat.mul j z))) M
   | none => .bad
  | _ => .bad
 | .ope b off n _, .int _ k => match Zf P t with
  | some (.sl z) => match znt k n with
   | some j => .val (.ptr b (Nat.add off (Nat.mul j z))) M
   | none => .bad
  | _ => .bad
 | _, _ => .bad

theorem zdu {b : Pos} {off n c : Nat} {v : Value} (h : conc m (.slice b off n c) = some v) :
  ∃ p, m b = some p ∧ v = .slice (some ⟨p.block, off + p.shift, none⟩) n c := by
 simp only [conc, Option.map_eq_some_iff] at h
 obtain ⟨p, hp, rfl⟩ := h
 exact ⟨p, hp, rfl⟩

theorem zei {b : Pos} {off n z : Nat} {v : Value} (h : conc m (.ope b off n z) = some v) :
  ∃ p, m b = some p ∧ 0 < z ∧ off + p.shift + n * z ≤ p.size ∧ v = .slice (some ⟨p.block, off + p.shift, none⟩) n ((p.size - (off + p.shift)) / z) := by
 simp only [conc, Option.bind_eq_some_iff] at h
 obtain ⟨p, hp, h⟩ := h
 split at h
 ·rename_i hz
  simp only [Option.some.injEq] at h
  exact ⟨p, hp, hz.1, hz.2, h.symm⟩
 ·simp at h

theorem zg8 {b : Pos} {old off z : Nat} {v : Value} (h : conc m (.opz b old off z) = some v) :
  ∃ p, m b = some p ∧ 0 < z ∧ off + p.shift ≤ p.size ∧ v = .slice (some ⟨p.block, (if (p.size - (off + p.shift)) / z = 0 then old else off) + p.shift, none⟩) 0 ((p.size - (off + p.shift)) / z) := by
 simp only [conc, Option.bind_eq_some_iff] at h
 obtain ⟨p, hp, h⟩ := h
 split at h
 ·rename_i hz
  simp only [Option.some.injEq] at h
  exact ⟨p, hp, hz.1, hz.2, h.symm⟩
 ·simp at h

theorem zdk {k : IntKind} {n : Int} {v : Value} (h : conc m (.int k n) = some v) : v = .int k n := by simp [conc] at h; exact h.symm

theorem zma (hr : MRel B m M w) {t : TypeId} {a i : SV} {v u : Value} (ha : conc m a = some v) (hi : conc m i = some u) :
  zdo P B m M w (do Pure.pure (Next.value (← Instr.indexAt t v u))) (zdr P t a i M) := by
 unfold zdr
 split
 next b off ik k =>
  obtain rfl := zdk hi
  split
  next n z hz =>
   split
   next j hj =>
    obtain ⟨rfl, hlt⟩ := zkn hj
    obtain ⟨p, hp, rfl⟩ := zeb ha
    simp only [Zf, Option.bind_eq_some_iff] at hz
    obtain ⟨d, hd, hz⟩ := hz
    split at hz
    ·rename_i n' e
     simp only [Option.map_eq_some_iff, Elems.arr.injEq] at hz
     obtain ⟨z', hz', rfl, rfl⟩ := hz
     refine zdo.pure hr (v := .pointer (some ⟨p.block, off + j * z' + p.shift, none⟩)) ?_ (by simp [conc, hp])
     simp [Instr.indexAt, asIntOf, Sem.run_bind, run_underlying hd, Instr.sureAddr, hlt, zdy hz', zie]
    ·simp at hz
    ·simp at hz
   next => trivial
  next => trivial
 next b off n cap ik k =>
  obtain rfl := zdk hi
  split
  next z hz =>
   split
   next j hj =>
    obtain ⟨rfl, hlt⟩ := zkn hj
    obtain ⟨p, hp, rfl⟩ := zdu ha
    simp only [Zf, Option.bind_eq_some_iff] at hz
    obtain ⟨d, hd, hz⟩ := hz
    split at hz
    ·simp at hz
    ·rename_i e
     simp only [Option.map_eq_some_iff, Elems.sl.injEq] at hz
     obtain ⟨z', hz', rfl⟩ := hz
     refine zdo.pure hr (v := .pointer (some ⟨p.block, off + j * z' + p.shift, none⟩)) ?_ (by simp [conc, hp])
     simp [Instr.indexAt, asIntOf, Sem.run_bind, run_underlying hd, hlt, zdy hz', zie]
    ·simp at hz
   next => trivial
  next => trivial
 next b off n cap ik k =>
  obtain rfl := zdk hi
  split
  next z hz =>
   split
   next j hj =>
    obtain ⟨rfl, hlt⟩ := zkn hj
    obtain ⟨p, hp, _, _, rfl⟩ := zei ha
    simp only [Zf, Option.bind_eq_some_iff] at hz
    obtain ⟨d, hd, hz⟩ := hz
    split at hz
    ·simp at hz
    ·rename_i e
     simp only [Option.map_eq_some_iff, Elems.sl.injEq] at hz
     obtain ⟨z', hz', rfl⟩ := hz
     refine zdo.pure hr (v := .pointer (some ⟨p.block, off + j * z' + p.shift, none⟩)) ?_ (by simp [conc, hp])
     simp [Instr.indexAt, asIntOf, Sem.run_bind, run_underlying hd, hlt, zdy hz', zie]
    ·simp at hz
   next => trivial
  next => trivial
 next => trivial

/-- ELEMENTS OF STRINGS AND ARRAYS BY VALUE -/
noncomputable def zr9 (l : List UInt8) : Nat → Option UInt8 :=
 List.rec (fun _ => none) (fun a _ ih i => Nat.rec (some a) (fun j _ => ih j) i) l
theorem zky : ∀ (l : List UInt8) (i : Nat), zr9 l i = l[i]?
 | [], _ => by simp [zr9]
 | a :: l, 0 => rfl
 | a :: l, i + 1 => by
  show zr9 l i = _
  rw [zky l i]; simp

noncomputable def ze9 (i : Int) : Option Nat := Int.rec (fun j => some j) (fun _ => none) i
theorem zdp {i : Int} {j : Nat} (h : ze9 i = some j) : i = (j : Int) := by
 cases i with
 | ofNat k => have h' : some k = some j := h; simp at h'; subst h'; rfl
 | negSucc k => exact absurd (show (none : Option Nat) = some j from h) (by simp)

inductive Wh where
 | str
 | arr (n : Nat) (e : TypeId) (size : Nat)
noncomputable def whole (P : Program) (t : TypeId) : Option Wh :=
 (P.underlying t).bind fun d => match d with
  | .array n e => (Zx P e).map (.arr n e ·)
  | .string => some .str
  | _ => none

noncomputable def zid (P : Program) (t : TypeId) (a i : SV) (M : Mem) : Out :=
 match a, i with
 | .str s, .int _ k => match whole P t with
  | some .str => match ze9 k with
   | some j => match zr9 s j with
    | some c => .val (.int .u8 (Int.ofNat c.toNat)) M
    | none => .bad
   | none => .bad
  | _ => .bad
 | .agg l, .int _ k => match whole P t with
  | some (.arr n e z) => match znt k n with
   | some j => match zij P e l (Nat.mul j z) with
    | some s => .val s M
    | none => .bad
   | none => .bad
  | _ => .bad
 | _, _ => .bad

theorem zea {s : List UInt8} {v : Value} (h : conc m (.str s) = some v) : v = .string ⟨s.toArray⟩ := by simp [conc] at h; exact h.symm

theorem zr2 (hr : MRel B m M w) {t : TypeId} {a i : SV} {v u : Value} (ha : conc m a = some v) (hi : conc m i = some u) :
  zdo P B m M w (do Pure.pure (Next.value (← Instr.index t v u))) (zid P t a i M) := by
 unfold zid
 split
 next s ik k =>
  obtain rfl := zdk hi
  obtain rfl := zea ha
  split
  next hz =>
   split
   next j hj =>
    split
    next c hc =>
     obtain rfl := zdp hj
     rw [zky] at hc
     simp only [whole, Option.bind_eq_some_iff] at hz
     obtain ⟨d, hd, hz⟩ := hz
     split at hz
     ·simp at hz
     ·have hb : (⟨s.toArray⟩ : ByteArray)[j]? = some c := by
       obtain ⟨hlt, he⟩ := List.getElem?_eq_some_iff.1 hc
       rw [getElem?_pos _ _ (by simpa [ByteArray.size] using hlt)]
       simp only [Option.some.injEq]
       rw [← he]
       rfl
      refine zdo.pure hr (v := .int .u8 c.toNat) ?_ rfl
      simp [Instr.index, asIntOf, Sem.run_bind, run_underlying hd, hb]
     ·simp at hz
    next => trivial
   next => trivial
  next => trivial
 next l ik k =>
  obtain rfl := zdk hi
  split
  next n e z hz =>
   split
   next j hj =>
    split
    next s hs =>
     obtain ⟨rfl, hlt⟩ := zkn hj
     obtain ⟨vs, hvs, rfl⟩ := zez ha
     obtain ⟨x, hx, hc⟩ := zfq hs hvs w
     simp only [whole, Option.bind_eq_some_iff] at hz
     obtain ⟨d, hd, hz⟩ := hz
     split at hz
     ·rename_i n' e'
      simp only [Option.map_eq_some_iff, Wh.arr.injEq] at hz
      obtain ⟨z', hz', rfl, rfl, rfl⟩ := hz
      simp only [Nat.mul_eq] at hx
      exact zdo.pure hr (by simp [Instr.index, asIntOf, Sem.run_bind, run_underlying hd, hlt, zdy hz', hx]) hc
     ·simp at hz
     ·simp at hz
    next => trivial
   next => trivial
  next => trivial
 next => trivial

end
end Go.Ev

