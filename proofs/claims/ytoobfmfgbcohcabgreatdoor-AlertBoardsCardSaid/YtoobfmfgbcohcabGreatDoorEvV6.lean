/- A part of the small machine. -/
import Derived.Test.YtoobfmfgbcohcabGreatDoorEvV3
set_option linter.unusedVariables false
/- Operands; what an operation gives. -/
namespace Go.Ev
open Go.RowKit
variable {P : Program}

noncomputable def zov (f : Value → Option SV) (l : List Value) : Option (List SV) :=
 List.rec (some []) (fun a _ ih => Option.rec none (fun x => Option.rec none (fun r => some (x :: r)) ih) (f a)) l

theorem zka {f : Value → Option SV} {m : Map} (hf : ∀ v s, f v = some s → conc m s = some v) : ∀ {l : List Value} {r : List SV}, zov f l = some r → concs m r = some l
 | [], r, h => by
  have h' : some [] = some r := h
  simp at h'; subst h'; simp [concs]
 | a :: l, r, h => by
  have h' : Option.rec none (fun x => Option.rec none (fun r => some (x :: r)) (zov f l)) (f a) = some r := h
  cases ha : f a with
  | none => rw [ha] at h'; simp at h'
  | some x =>
   rw [ha] at h'
   cases hl : zov f l with
   | none => simp [hl] at h'
   | some k =>
    simp only [hl, Option.some.injEq] at h'
    subst h'
    exact concs_cons (hf _ _ ha) (zka hf hl)

/-- A value without a place, of one part. -/
def zzw : Value → Option SV
 | .bool b => some (.bool b)
 | .int k n => some (.int k n)
 | .string s => some (.str s.data.toList)
 | .pointer none => some .nilp
 | .slice none 0 0 => some .nils
 | .map none => some .nilm
 | .nilFunc => some .nilf
 | .nilIface => some .nili
 | _ => none

theorem zlq (m : Map) (v : Value) (s : SV) (h : zzw v = some s) : conc m s = some v := by
 unfold zzw at h
 split at h <;> first | (simp only [Option.some.injEq] at h; subst h; simp [conc]; done) | (simp at h; done)

noncomputable def y0n : Value → Option SV
 | .iface t v => (zzw v).map (.iface t ·)
 | .agg cs => (zov zzw cs.toList).map .agg
 | .tuple cs => (zov zzw cs.toList).map .tuple
 | v => zzw v

theorem zos (m : Map) (v : Value) (s : SV) (h : y0n v = some s) : conc m s = some v := by
 unfold y0n at h
 split at h
 ·simp only [Option.map_eq_some_iff] at h
  obtain ⟨x, hx, rfl⟩ := h
  simp [conc, zlq m _ _ hx]
 ·simp only [Option.map_eq_some_iff] at h
  obtain ⟨x, hx, rfl⟩ := h
  simp [conc, zka (zlq m) hx]
 ·simp only [Option.map_eq_some_iff] at h
  obtain ⟨x, hx, rfl⟩ := h
  simp [conc, zka (zlq m) hx]
 ·exact zlq m _ _ h

noncomputable def ofV : Value → Option SV
 | .iface t v => (y0n v).map (.iface t ·)
 | .agg cs => (zov y0n cs.toList).map .agg
 | .tuple cs => (zov y0n cs.toList).map .tuple
 | v => zzw v

theorem zr3 (m : Map) (v : Value) (s : SV) (h : ofV v = some s) : conc m s = some v := by
 unfold ofV at h
 split at h
 ·simp only [Option.map_eq_some_iff] at h
  obtain ⟨x, hx, rfl⟩ := h
  simp [conc, zos m _ _ hx]
 ·simp only [Option.map_eq_some_iff] at h
  obtain ⟨x, hx, rfl⟩ := h
  simp [conc, zka (zos m) hx]
 ·simp only [Option.map_eq_some_iff] at h
  obtain ⟨x, hx, rfl⟩ := h
  simp [conc, zka (zos m) hx]
 ·exact zlq m _ _ h

theorem zku.put {m : Map} {σ : Tree SV} {tm : Array Value} (hr : zku m σ tm) {d : Nat} (hd : d < tm.size) {s : SV} {v : Value} (hv : conc m s = some v) :
  zku m (σ.put (some s) (Pos.ofNat d)) (tm.setIfInBounds d v) := by
 intro t x hx
 by_cases h : d = t
 ·subst h
  rw [Tree.get_put_same] at hx
  cases hx
  exact ⟨v, by simp [hd], hv⟩
 ·rw [Tree.get_put_other _ _ (fun e => h (Pos.ofNat_inj e))] at hx
  obtain ⟨u, h1, h2⟩ := hr t x hx
  exact ⟨u, by rw [Array.getElem?_setIfInBounds_ne h]; exact h1, h2⟩

/-- What an operand is in the model. -/
def den (tm : Array Value) : Operand → Value
 | .tmp t => tm.getD t undef
 | .const v => v
 | .global g => .pointer (some ⟨g, 0, none⟩)
 | .func f => .func (.func f) #[] #[]

noncomputable def zwt (M : Mem) (b : Pos) : Bool := match M.t.get b with
 | some (.fix _) => true
 | _ => false

theorem zyd {M : Mem} {b : Pos} (h : zwt M b = true) : ∃ c, M.t.get b = some (.fix c) := by
 unfold zwt at h
 split at h
 ·rename_i c hc; exact ⟨c, hc⟩
 ·simp at h

noncomputable def arg (M : Mem) (σ : Tree SV) (x : Operand) : Option SV :=
 Operand.rec (fun t => σ.get (Pos.ofNat t)) (fun v => ofV v) (fun g => Bool.rec none (some (.ptr (Pos.ofNat g) 0)) (zwt M (Pos.ofNat g))) (fun f => some (.fn (.func f) [] [])) x

section
variable {B : Nat} {m : Map} {M : Mem} {w : World} {σ : Tree SV} {tm : Array Value}

theorem zmm (hr : MRel B m M w) (ht : zku m σ tm) {x : Operand} {s : SV} (h : arg M σ x = some s) : conc m s = some (den tm x) := by
 cases x with
 | tmp t =>
  obtain ⟨v, h1, h2⟩ := ht t s h
  rw [h2]
  simp [den, Array.getD_eq_getD_getElem?, h1]
 | const v => exact zr3 m _ _ h
 | global g =>
  have h' : Bool.rec none (some (.ptr (Pos.ofNat g) 0)) (zwt M (Pos.ofNat g)) = some s := h
  cases hf : zwt M (Pos.ofNat g) with
  | false => rw [hf] at h'; simp at h'
  | true =>
   rw [hf] at h'
   simp only [Option.some.injEq] at h'
   subst h'
   obtain ⟨c, hc⟩ := zyd hf
   obtain ⟨z, hm, _⟩ := hr.glob _ _ hc
   simp [conc, hm, den, Pos.num_ofNat]
 | func f =>
  have h' : some (SV.fn (.func f) [] []) = some s := h
  simp only [Option.some.injEq] at h'
  subst h'
  simp [conc, concs, den]

noncomputable def args (M : Mem) (σ : Tree SV) (l : List Operand) : Option (List SV) :=
 List.rec (some []) (fun a _ ih => Option.rec none (fun x => Option.rec none (fun r => some (x :: r)) ih) (arg M σ a)) l

theorem zuz (hr : MRel B m M w) (ht : zku m σ tm) : ∀ {l : List Operand} {r : List SV}, args M σ l = some r → concs m r = some (l.map (den tm))
 | [], r, h => by
  have h' : some [] = some r := h
  simp at h'; subst h'; simp [concs]
 | a :: l, r, h => by
  have h' : Option.rec none (fun x => Option.rec none (fun r => some (x :: r)) (args M σ l)) (arg M σ a) = some r := h
  cases ha : arg M σ a with
  | none => rw [ha] at h'; simp at h'
  | some x =>
   rw [ha] at h'
   cases hl : args M σ l with
   | none => simp [hl] at h'
   | some k =>
    simp only [hl, Option.some.injEq] at h'
    subst h'
    exact concs_cons (zmm hr ht ha) (zuz hr ht hl)

end

/-- What an operation gives: a value, or a call, or a round of a loop over a function. -/
inductive Out where
 | bad
 | val (v : SV) (M : Mem)
 | enter (f : FuncId) (args : List SV) (M : Mem)
 | round (l : Pos) (args : List SV) (M : Mem)

def Nx (m : Map) (s : SV) : Next → Prop
 | .value v => conc m s = some v
 | .skip => s = .tuple []
 | _ => False

/-- The model does likewise. -/
def zib (P : Program) (B : Nat) (m : Map) (M : Mem) (w : World) (q : Sem Next) : Out → Prop
 | .bad => True
 | .val s M' => ∃ x m' w', q.run P w = .ok x w' ∧ Nx m' s x ∧ zi0 B m M w m' M' w'
 | .enter f as M' => ∃ vs m' w', q.run P w = .ok (.enter f vs) w' ∧ concs m' as = some vs.toList ∧ zi0 B m M w m' M' w'
 | .round l as M' => ∃ (p : Pl) (R : Loop) (vs : Array Value) (m' : Map) (w' : World), m' l = some p ∧ w'.heap[p.block]? = some (.loop R) ∧ vs.size = R.params.size ∧
   q.run P w = .ok (.round p.block R.fn ((R.params.zip vs).foldl (fun tmps (t, a) => tmps.setIfInBounds t a) R.tmps) R.assign R.body) w' ∧ concs m' as = some vs.toList ∧ zi0 B m M w m' M' w'

section
variable {B : Nat} {m : Map} {M : Mem} {w : World}

/-- A value that leaves memory alone. -/
theorem zib.pure (hr : MRel B m M w) {q : Sem Value} {s : SV} {v : Value} (hq : q.run P w = .ok v w) (hv : conc m s = some v) :
  zib P B m M w (do Pure.pure (Next.value (← q))) (.val s M) :=
 ⟨.value v, m, w, by simp [hq], hv, .refl hr⟩

theorem zib.value {q : Sem Value} {s : SV} {v : Value} {m' M' w'} (hq : q.run P w = .ok v w') (hv : conc m' s = some v) (hs : zi0 B m M w m' M' w') :
  zib P B m M w (do Pure.pure (Next.value (← q))) (.val s M') :=
 ⟨.value v, m', w', by simp [hq], hv, hs⟩

theorem zib.unit {q : Sem Unit} {m' M' w'} (hq : q.run P w = .ok () w') (hs : zi0 B m M w m' M' w') :
  zib P B m M w (do q; Pure.pure Next.skip) (.val (.tuple []) M') :=
 ⟨.skip, m', w', by simp [hq], rfl, hs⟩
end

end Go.Ev

/- Operations on memory. -/
namespace Go.Ev
open Go.RowKit
variable {P : Program}

theorem zju {t : TypeId} {i : TypeInfo} (h : P.info? t = some i) (w : World) : (typeInfo t).run P w = .ok i w := by simp [typeInfo, h]
theorem zld {t : TypeId} {i : TypeInfo} (h : P.info? t = some i) (w : World) : (sizeOf t).run P w = .ok i.size w := by simp [sizeOf, typeInfo, h]

noncomputable def szOf (P : Program) (t : TypeId) : Option Nat := (P.info? t).map (·.size)
def zzn : TypeDesc → Bool
 | .struct _ | .array _ _ => true
 | _ => false
/-- How many cells a struct or an array has; none for a value of one cell. -/
noncomputable def aggSize (P : Program) (t : TypeId) : Option (Option Nat) :=
 (P.underlying t).bind fun d => (P.info? t).map fun i => if zzn d then some i.size else none

theorem zik {t : TypeId} {n : Nat} (h : szOf P t = some n) (w : World) : (sizeOf t).run P w = .ok n w := by
 simp only [szOf, Option.map_eq_some_iff] at h
 obtain ⟨i, hi, rfl⟩ := h
 exact zld hi w

theorem zsk {t : TypeId} {d : TypeDesc} (h : P.underlying t = some d) (w : World) : (isAgg t).run P w = .ok (zzn d) w := by
 simp only [isAgg, Sem.run_bind, run_underlying h, Result.andThen_ok]
 cases d <;> rfl

theorem zje {t : TypeId} {n : Nat} (h : aggSize P t = some (some n)) (w : World) : (isAgg t).run P w = .ok true w ∧ (sizeOf t).run P w = .ok n w := by
 simp only [aggSize, Option.bind_eq_some_iff, Option.map_eq_some_iff] at h
 obtain ⟨d, hd, i, hi, h⟩ := h
 rw [zsk hd]
 split at h
 ·rename_i ha
  simp only [Option.some.injEq] at h
  subst h
  exact ⟨by rw [ha], zld hi w⟩
 ·simp at h

theorem zm2 {t : TypeId} (h : aggSize P t = some none) (w : World) : (isAgg t).run P w = .ok false w := by
 simp only [aggSize, Option.bind_eq_some_iff, Option.map_eq_some_iff] at h
 obtain ⟨d, hd, i, hi, h⟩ := h
 rw [zsk hd]
 split at h
 ·simp at h
 ·rename_i ha
  simp only [Bool.not_eq_true] at ha
  rw [ha]

section
variable {B : Nat} {m : Map} {M : Mem} {w : World}

theorem zit {b : Pos} {off : Nat} {v : Value} (h : conc m (.ptr b off) = some v) : ∃ p, m b = some p ∧ v = .pointer (some ⟨p.block, off + p.shift, none⟩) := by
 simp only [conc, Option.map_eq_some_iff] at h
 obtain ⟨p, hp, rfl⟩ := h
 exact ⟨p, hp, rfl⟩

theorem zjv {l : List SV} {v : Value} (h : conc m (.agg l) = some v) : ∃ vs, concs m l = some vs ∧ v = .agg vs.toArray := by
 simp only [conc, Option.map_eq_some_iff] at h
 obtain ⟨p, hp, rfl⟩ := h
 exact ⟨p, hp, rfl⟩

theorem zvu {l : List SV} {v : Value} (h : conc m (.tuple l) = some v) : ∃ vs, concs m l = some vs ∧ v = .tuple vs.toArray := by
 simp only [conc, Option.map_eq_some_iff] at h
 obtain ⟨p, hp, rfl⟩ := h
 exact ⟨p, hp, rfl⟩

/-- LOAD -/
noncomputable def zmq (P : Program) (t : TypeId) (a : SV) (M : Mem) : Out :=
 match a with
 | .ptr b off =>
  match zj7 M b with
  | some cells =>
   match aggSize P t with
   | some none => match nth cells off with
    | some s => .val s M
    | none => .bad
   | some (some n) => match Nat.ble (Nat.add off n) (len cells) with
    | true => .val (.agg (tk n (dp off cells))) M
    | false => .bad
   | none => .bad
  | none => .bad
 | _ => .bad

theorem zqf (hr : MRel B m M w) {t : TypeId} {a : SV} {v : Value} (ha : conc m a = some v) :
  zib P B m M w (do Pure.pure (Next.value (← Instr.loadAt t v))) (zmq P t a M) := by
 unfold zmq
 split
 next b off =>
  split
  next cells hc =>
   obtain ⟨p, hp, rfl⟩ := zit ha
   split
   next hz =>
    split
    next s hs =>
     rw [zqe] at hs
     obtain ⟨u, hu, hcell⟩ := zx5 hr hc hp hs
     refine zib.pure hr (v := u) ?_ hu
     simp [Instr.loadAt, Instr.sureAddr, loadVar, Sem.run_bind, zm2 hz, hcell]
    next => trivial
   next n hz =>
    split
    next hn =>
     rw [zio] at hn
     have hn' : off + n ≤ cells.length := by simpa using hn
     obtain ⟨vs, hvs, hl, _, hrun⟩ := zlx (P := P) hr hc hp hn'
     refine zib.pure hr (v := .agg vs.toArray) ?_ ?_
     ·simp [Instr.loadAt, Instr.sureAddr, loadVar, Sem.run_bind, (zje hz w).1, (zje hz w).2, hrun]
     ·rw [zki, zkj]; simp [conc, hvs]
    next => trivial
   next => trivial
  next => trivial
 next => trivial

def cellsOf : SV → List SV
 | .agg l => l
 | s => [s]

theorem zjz {s : SV} {v : Value} (h : conc m s = some v) : concs m (cellsOf s) = some v.cells.toList := by
 have key : ∀ (x : SV) (u : Value), conc m x = some u → cellsOf x = [x] → u.cells = #[u] → concs m (cellsOf x) = some u.cells.toList := by
  intro x u hx h1 h2
  rw [h1, h2]
  exact concs_cons hx (concs_nil m)
 cases s with
 | agg l =>
  obtain ⟨vs, hvs, rfl⟩ := zjv h
  simpa [cellsOf, Value.cells] using hvs
 | _ =>
  refine key _ _ h rfl ?_
  simp only [conc, Option.map_eq_some_iff, Option.bind_eq_some_iff, Option.some.injEq] at h
  first
   | (subst h; rfl)
   | (obtain ⟨_, _, rfl⟩ := h; rfl)
   | (obtain ⟨_, _, _, _, rfl⟩ := h; rfl)
   | (obtain ⟨_, _, h⟩ := h; split at h <;> first | (simp only [Option.some.injEq] at h; subst h; rfl) | (simp at h; done))

/-- STORE -/
noncomputable def zqm (P : Program) (t : TypeId) (a v : SV) (M : Mem) : Out :=
 match a with
 | .ptr b off =>
  match szOf P t with
  | some n => match Nat.beq (len (cellsOf v)) n with
   | true => match zkm M b off (cellsOf v) with
    | some M' => .val (.tuple []) M'
    | none => .bad
   | false => .bad
  | none => .bad
 | _ => .bad

theorem zt9 (hr : MRel B m M w) {t : TypeId} {a x : SV} {v u : Value} (ha : conc m a = some v) (hx : conc m x = some u) :
  zib P B m M w (do Instr.storeAt t v u; Pure.pure Next.skip) (zqm P t a x M) := by
 unfold zqm
 split
 next b off =>
  split
  next n hn =>
   split
   next hl =>
    split
    next M' hM =>
     obtain ⟨p, hp, rfl⟩ := zit ha
     have hc := zjz hx
     obtain ⟨w', hrun, hs⟩ := zy2 (P := P) hr hM hp hc
     refine zib.unit (w' := w') ?_ hs
     rw [zio] at hl
     have hl' : (cellsOf x).length = n := by simpa using hl
     have hsz : u.cells.size = n := by rw [← hl', ← zi5 hc]; simp
     simp [Instr.storeAt, Instr.sureAddr, storeVar, Sem.run_bind, zik hn, hsz, hrun]
    next => trivial
   next => trivial
  next => trivial
 next => trivial

/-- NEW VARIABLES -/
noncomputable def zerosOf (P : Program) (t : TypeId) : Option (List SV) := ((P.info? t).bind (·.zero)).bind fun z => (ofV z).map cellsOf

theorem zmu {t : TypeId} {l : List SV} (h : zerosOf P t = some l) (w : World) : ∃ z, (zeroValue t).run P w = .ok z w ∧ concs m l = some z.cells.toList := by
 simp only [zerosOf, Option.bind_eq_some_iff, Option.map_eq_some_iff] at h
 obtain ⟨z, ⟨i, hi, hz⟩, s, hs, rfl⟩ := h
 exact ⟨z, by simp [zeroValue, Sem.run_bind, zju hi, hz], zjz (zr3 m _ _ hs)⟩

noncomputable def zk1 (M : Mem) : Pos := Mem.rec (fun _ n _ => n) M
theorem zjx (M : Mem) : zk1 M = M.next := by cases M; rfl

noncomputable def y18 (e : TypeId) (cells : List SV) (M : Mem) : Out := .val (.ptr (zk1 M) 0) (ziz e .whole M cells)

theorem znu (hr : MRel B m M w) (kk : RK) {cells : List SV} {vs post : List Value} (hkk : kk ≠ .whole ∨ post = []) (e : TypeId) (hv : concs m cells = some vs) {w' : World} (hw : w'.heap = w.heap.push (.cells (vs ++ post).toArray e (0, 0)))
  (hos : w'.os = w.os) (htape : w'.tape = w.tape) (hout : w'.output = w.output) :
  ∃ m', zi0 B m M w m' (ziz e kk M cells) w' ∧ m' M.next = some ⟨w.heap.size, 0, vs.length + post.length⟩ :=
 ⟨_, zx1 hr kk cells vs post hkk e hv hw hos htape hout, by simp⟩

theorem zq7 (w : World) (t : TypeId) (v : Value) : (newVar t v).run P w = .ok ⟨w.heap.size, 0, none⟩ (w.alloc (.cells v.cells t)) := by
 simp [newVar, newRow, newObj, Sem.run]

theorem zss {m' : Map} {k : Nat} {M : Mem} {n : Nat} (h : m' M.next = some ⟨n, 0, k⟩) : conc m' (.ptr (zk1 M) 0) = some (.pointer (some ⟨n, 0, none⟩)) := by
 simp [conc, zjx, h]

theorem zwl (hr : MRel B m M w) (t : TypeId) {x : SV} {u : Value} (hx : conc m x = some u) :
  zib P B m M w (do Pure.pure (Next.value (← Instr.box t u))) (y18 t (cellsOf x) M) := by
 obtain ⟨m', hs, hm⟩ := znu hr .whole (.inr rfl) t (zjz hx) (post := []) (w' := w.alloc (.cells u.cells t)) (by show w.heap.push _ = _; simp) rfl rfl rfl
 exact zib.value (by simp [Instr.box, zq7]) (zss hm) hs

noncomputable def zqd (P : Program) (t : TypeId) (M : Mem) : Out :=
 match zerosOf P t with
 | some l => y18 t l M
 | none => .bad

theorem zto (hr : MRel B m M w) (t : TypeId) :
  zib P B m M w (do Pure.pure (Next.value (← Instr.alloc t true (.tuple #[])))) (zqd P t M) := by
 unfold zqd
 split
 next l hl =>
  obtain ⟨z, hz, hc⟩ := zmu (m := m) hl w
  obtain ⟨m', hs, hm⟩ := znu hr .whole (.inr rfl) t hc (post := []) (w' := w.alloc (.cells z.cells t)) (by show w.heap.push _ = _; simp) rfl rfl rfl
  exact zib.value (by simp [Instr.alloc, Sem.run_bind, hz, zq7]) (zss hm) hs
 next => trivial

end
end Go.Ev

/- Parts: fields, elements, slices of slices and strings, composite values. -/
namespace Go.Ev
open Go.RowKit
variable {P : Program}

theorem zmr (b x y s : Nat) : (⟨b, x + s, none⟩ : Addr).add y = ⟨b, x + y + s, none⟩ := by rw [zn1]; congr 1; omega

section
variable {B : Nat} {m : Map} {M : Mem} {w : World}

/-- FIELDS BY ADDRESS -/
noncomputable def fieldOff (P : Program) (t : TypeId) (k : Nat) : Option Nat :=
 (P.underlying t).bind fun d => match d with
  | .struct fs => (fs[k]?).bind fun f => (szOf P f.type).bind fun n => match Nat.beq n 0 with
   | true => none
   | false => some f.offset
  | _ => none

theorem zsq {t : TypeId} {k o : Nat} (h : fieldOff P t k = some o) (b x : Nat) (w : World) :
  (Instr.fieldAt t (.pointer (some ⟨b, x, none⟩)) k).run P w = .ok (.pointer (some ⟨b, x + o, none⟩)) w := by
 simp only [fieldOff, Option.bind_eq_some_iff] at h
 obtain ⟨d, hd, h⟩ := h
 split at h
 ·rename_i fs
  simp only [Option.bind_eq_some_iff] at h
  obtain ⟨f, hf, n, hn, h⟩ := h
  split at h
  ·simp at h
  ·rename_i hn0
   simp only [Option.some.injEq] at h
   have hn1 : n ≠ 0 := by intro e; subst e; exact absurd hn0 (by decide)
   simp [Instr.fieldAt, Sem.run_bind, run_underlying hd, hf, Instr.sureAddr, fieldPlace, zik hn, hn1, zn1, h]
 ·simp at h

noncomputable def zjg (P : Program) (t : TypeId) (k : Nat) (a : SV) (M : Mem) : Out :=
 match a with
 | .ptr b off => match fieldOff P t k with
  | some o => .val (.ptr b (Nat.add off o)) M
  | none => .bad
 | _ => .bad

theorem zp0 (hr : MRel B m M w) {t : TypeId} {k : Nat} {a : SV} {v : Value} (ha : conc m a = some v) :
  zib P B m M w (do Pure.pure (Next.value (← Instr.fieldAt t v k))) (zjg P t k a M) := by
 unfold zjg
 split
 next b off =>
  split
  next o ho =>
   obtain ⟨p, hp, rfl⟩ := zit ha
   refine zib.pure hr (zsq ho _ _ _) ?_
   simp [conc, hp]; omega
  next => trivial
 next => trivial

/-- PARTS OF A COMPOSITE VALUE -/
noncomputable def znj (P : Program) (t : TypeId) (l : List SV) (off : Nat) : Option SV :=
 match aggSize P t with
 | some none => nth l off
 | some (some n) => match Nat.ble (Nat.add off n) (len l) with
  | true => some (.agg (tk n (dp off l)))
  | false => none
 | none => none

theorem zl3 {t : TypeId} {l : List SV} {off : Nat} {s : SV} (h : znj P t l off = some s) {vs : List Value} (hl : concs m l = some vs) (w : World) :
  ∃ v, (part t vs.toArray off).run P w = .ok v w ∧ conc m s = some v := by
 unfold znj at h
 split at h
 next hz =>
  rw [zqe] at h
  obtain ⟨v, hv, hi⟩ := zn3 hl h
  exact ⟨v, by simp [part, Sem.run_bind, zm2 hz, hi], hv⟩
 next n hz =>
  split at h
  next hn =>
   simp only [Option.some.injEq] at h
   subst h
   refine ⟨.agg (vs.toArray.extract off (off + n)), by simp [part, Sem.run_bind, (zje hz w).1, (zje hz w).2], ?_⟩
   rw [zki, zkj]
   simp [conc, zky n (zkx off hl), List.extract_eq_take_drop]
  next => simp at h
 next => simp at h

noncomputable def zwc (P : Program) (t : TypeId) (k : Nat) : Option (TypeId × Nat) :=
 (P.underlying t).bind fun d => match d with
  | .struct fs => (fs[k]?).map fun f => (f.type, f.offset)
  | _ => none

noncomputable def zq9 (P : Program) (t : TypeId) (k : Nat) (a : SV) (M : Mem) : Out :=
 match a with
 | .agg l => match zwc P t k with
  | some (u, o) => match znj P u l o with
   | some s => .val s M
   | none => .bad
  | none => .bad
 | _ => .bad

theorem ztj (hr : MRel B m M w) {t : TypeId} {k : Nat} {a : SV} {v : Value} (ha : conc m a = some v) :
  zib P B m M w (do Pure.pure (Next.value (← Instr.field t v k))) (zq9 P t k a M) := by
 unfold zq9
 split
 next l =>
  split
  next u o hu =>
   split
   next s hs =>
    obtain ⟨vs, hvs, rfl⟩ := zjv ha
    obtain ⟨x, hx, hc⟩ := zl3 hs hvs w
    simp only [zwc, Option.bind_eq_some_iff] at hu
    obtain ⟨d, hd, hu⟩ := hu
    split at hu
    ·rename_i fs
     simp only [Option.map_eq_some_iff, Prod.mk.injEq] at hu
     obtain ⟨f, hf, rfl, rfl⟩ := hu
     exact zib.pure hr (by simp [Instr.field, Sem.run_bind, run_underlying hd, hf, asAgg, hx]) hc
    ·simp at hu
   next => trivial
  next => trivial
 next => trivial

/-- EXTRACT -/
noncomputable def zj6 (k : Nat) (a : SV) (M : Mem) : Out :=
 match a with
 | .tuple l => match nth l k with
  | some s => .val s M
  | none => .bad
 | _ => .bad

theorem zra (hr : MRel B m M w) {k : Nat} {a : SV} {v : Value} (ha : conc m a = some v) :
  zib P B m M w (do Pure.pure (Next.value (← Instr.extract v k))) (zj6 k a M) := by
 unfold zj6
 split
 next l =>
  split
  next s hs =>
   rw [zqe] at hs
   obtain ⟨vs, hvs, rfl⟩ := zvu ha
   obtain ⟨x, hx, hi⟩ := zn3 hvs hs
   exact zib.pure hr (by simp [Instr.extract, hi]) hx
  next => trivial
 next => trivial

/-- ELEMENTS BY ADDRESS -/
noncomputable def ztb (i : Int) (n : Nat) : Option Nat :=
 Int.rec (fun j => Bool.rec none (some j) (Nat.ble (Nat.succ j) n)) (fun _ => none) i

theorem zop {i : Int} {n j : Nat} (h : ztb i n = some j) : i = (j : Int) ∧ j < n := by
 cases i with
 | ofNat k =>
  have h' : Bool.rec none (some k) (Nat.ble (Nat.succ k) n) = some j := h
  cases hb : Nat.ble (Nat.succ k) n with
  | false => rw [hb] at h'; simp at h'
  | true =>
   rw [hb] at h'
   simp only [Option.some.injEq] at h'
   subst h'
   exact ⟨rfl, by have := Nat.le_of_ble_eq_true hb; omega⟩
 | negSucc k => exact absurd (show (none : Option Nat) = some j from h) (by simp)

inductive Elems where
 | arr (n size : Nat)
 | sl (size : Nat)
noncomputable def elems (P : Program) (t : TypeId) : Option Elems :=
 (P.underlying t).bind fun d => match d with
  | .array n e => (szOf P e).map (.arr n ·)
  | .slice e => (szOf P e).map (.sl ·)
  | _ => none

noncomputable def zih (P : Program) (t : TypeId) (a i : SV) (M : Mem) : Out :=
 match a, i with
 | .ptr b off, .int _ k => match elems P t with
  | some (.arr n z) => match ztb k n with
   | some j => .val (.ptr b (Nat.add off (Nat.mul j z))) M
   | none => .bad
  | _ => .bad
 | .slice b off n _, .int _ k => match elems P t with
  | some (.sl z) => match ztb k n with
   | some j => .val (.ptr b (Nat.add off (Nat.mul j z))) M
   | none => .bad
  | _ => .bad
 | .ope b off n _, .int _ k => match elems P t with
  | some (.sl z) => match ztb k n with
   | some j => .val (.ptr b (Nat.add off (Nat.mul j z))) M
   | none => .bad
  | _ => .bad
 | _, _ => .bad

theorem ziu {b : Pos} {off n c : Nat} {v : Value} (h : conc m (.slice b off n c) = some v) :
  ∃ p, m b = some p ∧ v = .slice (some ⟨p.block, off + p.shift, none⟩) n c := by
 simp only [conc, Option.map_eq_some_iff] at h
 obtain ⟨p, hp, rfl⟩ := h
 exact ⟨p, hp, rfl⟩

theorem zjt {b : Pos} {off n z : Nat} {v : Value} (h : conc m (.ope b off n z) = some v) :
  ∃ p, m b = some p ∧ 0 < z ∧ off + p.shift + n * z ≤ p.size ∧ v = .slice (some ⟨p.block, off + p.shift, none⟩) n ((p.size - (off + p.shift)) / z) := by
 simp only [conc, Option.bind_eq_some_iff] at h
 obtain ⟨p, hp, h⟩ := h
 split at h
 ·rename_i hz
  simp only [Option.some.injEq] at h
  exact ⟨p, hp, hz.1, hz.2, h.symm⟩
 ·simp at h

theorem zl6 {b : Pos} {old off z : Nat} {v : Value} (h : conc m (.opz b old off z) = some v) :
  ∃ p, m b = some p ∧ 0 < z ∧ off + p.shift ≤ p.size ∧ v = .slice (some ⟨p.block, (if (p.size - (off + p.shift)) / z = 0 then old else off) + p.shift, none⟩) 0 ((p.size - (off + p.shift)) / z) := by
 simp only [conc, Option.bind_eq_some_iff] at h
 obtain ⟨p, hp, h⟩ := h
 split at h
 ·rename_i hz
  simp only [Option.some.injEq] at h
  exact ⟨p, hp, hz.1, hz.2, h.symm⟩
 ·simp at h

theorem zi8 {k : IntKind} {n : Int} {v : Value} (h : conc m (.int k n) = some v) : v = .int k n := by simp [conc] at h; exact h.symm

theorem zpj (hr : MRel B m M w) {t : TypeId} {a i : SV} {v u : Value} (ha : conc m a = some v) (hi : conc m i = some u) :
  zib P B m M w (do Pure.pure (Next.value (← Instr.indexAt t v u))) (zih P t a i M) := by
 unfold zih
 split
 next b off ik k =>
  obtain rfl := zi8 hi
  split
  next n z hz =>
   split
   next j hj =>
    obtain ⟨rfl, hlt⟩ := zop hj
    obtain ⟨p, hp, rfl⟩ := zit ha
    simp only [elems, Option.bind_eq_some_iff] at hz
    obtain ⟨d, hd, hz⟩ := hz
    split at hz
    ·rename_i n' e
     simp only [Option.map_eq_some_iff, Elems.arr.injEq] at hz
     obtain ⟨z', hz', rfl, rfl⟩ := hz
     refine zib.pure hr (v := .pointer (some ⟨p.block, off + j * z' + p.shift, none⟩)) ?_ (by simp [conc, hp])
     simp [Instr.indexAt, asIntOf, Sem.run_bind, run_underlying hd, Instr.sureAddr, hlt, zik hz', zmr]
    ·simp at hz
    ·simp at hz
   next => trivial
  next => trivial
 next b off n cap ik k =>
  obtain rfl := zi8 hi
  split
  next z hz =>
   split
   next j hj =>
    obtain ⟨rfl, hlt⟩ := zop hj
    obtain ⟨p, hp, rfl⟩ := ziu ha
    simp only [elems, Option.bind_eq_some_iff] at hz
    obtain ⟨d, hd, hz⟩ := hz
    split at hz
    ·simp at hz
    ·rename_i e
     simp only [Option.map_eq_some_iff, Elems.sl.injEq] at hz
     obtain ⟨z', hz', rfl⟩ := hz
     refine zib.pure hr (v := .pointer (some ⟨p.block, off + j * z' + p.shift, none⟩)) ?_ (by simp [conc, hp])
     simp [Instr.indexAt, asIntOf, Sem.run_bind, run_underlying hd, hlt, zik hz', zmr]
    ·simp at hz
   next => trivial
  next => trivial
 next b off n cap ik k =>
  obtain rfl := zi8 hi
  split
  next z hz =>
   split
   next j hj =>
    obtain ⟨rfl, hlt⟩ := zop hj
    obtain ⟨p, hp, _, _, rfl⟩ := zjt ha
    simp only [elems, Option.bind_eq_some_iff] at hz
    obtain ⟨d, hd, hz⟩ := hz
    split at hz
    ·simp at hz
    ·rename_i e
     simp only [Option.map_eq_some_iff, Elems.sl.injEq] at hz
     obtain ⟨z', hz', rfl⟩ := hz
     refine zib.pure hr (v := .pointer (some ⟨p.block, off + j * z' + p.shift, none⟩)) ?_ (by simp [conc, hp])
     simp [Instr.indexAt, asIntOf, Sem.run_bind, run_underlying hd, hlt, zik hz', zmr]
    ·simp at hz
   next => trivial
  next => trivial
 next => trivial

/-- ELEMENTS OF STRINGS AND ARRAYS BY VALUE -/
noncomputable def zuc (l : List UInt8) : Nat → Option UInt8 :=
 List.rec (fun _ => none) (fun a _ ih i => Nat.rec (some a) (fun j _ => ih j) i) l
theorem zp7 : ∀ (l : List UInt8) (i : Nat), zuc l i = l[i]?
 | [], _ => by simp [zuc]
 | a :: l, 0 => rfl
 | a :: l, i + 1 => by
  show zuc l i = _
  rw [zp7 l i]; simp

noncomputable def ziw (i : Int) : Option Nat := Int.rec (fun j => some j) (fun _ => none) i
theorem zia {i : Int} {j : Nat} (h : ziw i = some j) : i = (j : Int) := by
 cases i with
 | ofNat k => have h' : some k = some j := h; simp at h'; subst h'; rfl
 | negSucc k => exact absurd (show (none : Option Nat) = some j from h) (by simp)

inductive Wh where
 | str
 | arr (n : Nat) (e : TypeId) (size : Nat)
noncomputable def whole (P : Program) (t : TypeId) : Option Wh :=
 (P.underlying t).bind fun d => match d with
  | .array n e => (szOf P e).map (.arr n e ·)
  | .string => some .str
  | _ => none

noncomputable def zmh (P : Program) (t : TypeId) (a i : SV) (M : Mem) : Out :=
 match a, i with
 | .str s, .int _ k => match whole P t with
  | some .str => match ziw k with
   | some j => match zuc s j with
    | some c => .val (.int .u8 (Int.ofNat c.toNat)) M
    | none => .bad
   | none => .bad
  | _ => .bad
 | .agg l, .int _ k => match whole P t with
  | some (.arr n e z) => match ztb k n with
   | some j => match znj P e l (Nat.mul j z) with
    | some s => .val s M
    | none => .bad
   | none => .bad
  | _ => .bad
 | _, _ => .bad

theorem zjj {s : List UInt8} {v : Value} (h : conc m (.str s) = some v) : v = .string ⟨s.toArray⟩ := by simp [conc] at h; exact h.symm

theorem zty (hr : MRel B m M w) {t : TypeId} {a i : SV} {v u : Value} (ha : conc m a = some v) (hi : conc m i = some u) :
  zib P B m M w (do Pure.pure (Next.value (← Instr.index t v u))) (zmh P t a i M) := by
 unfold zmh
 split
 next s ik k =>
  obtain rfl := zi8 hi
  obtain rfl := zjj ha
  split
  next hz =>
   split
   next j hj =>
    split
    next c hc =>
     obtain rfl := zia hj
     rw [zp7] at hc
     simp only [whole, Option.bind_eq_some_iff] at hz
     obtain ⟨d, hd, hz⟩ := hz
     split at hz
     ·simp at hz
     ·have hb : (⟨s.toArray⟩ : ByteArray)[j]? = some c := by
       obtain ⟨hlt, he⟩ := List.getElem?_eq_some_iff.1 hc
       rw [getElem?_pos _ _ (by simpa [ByteArray.size] using hlt)]
       simp only [Option.some.injEq]
       rw [← he]
       rfl
      refine zib.pure hr (v := .int .u8 c.toNat) ?_ rfl
      simp [Instr.index, asIntOf, Sem.run_bind, run_underlying hd, hb]
     ·simp at hz
    next => trivial
   next => trivial
  next => trivial
 next l ik k =>
  obtain rfl := zi8 hi
  split
  next n e z hz =>
   split
   next j hj =>
    split
    next s hs =>
     obtain ⟨rfl, hlt⟩ := zop hj
     obtain ⟨vs, hvs, rfl⟩ := zjv ha
     obtain ⟨x, hx, hc⟩ := zl3 hs hvs w
     simp only [whole, Option.bind_eq_some_iff] at hz
     obtain ⟨d, hd, hz⟩ := hz
     split at hz
     ·rename_i n' e'
      simp only [Option.map_eq_some_iff, Wh.arr.injEq] at hz
      obtain ⟨z', hz', rfl, rfl, rfl⟩ := hz
      simp only [Nat.mul_eq] at hx
      exact zib.pure hr (by simp [Instr.index, asIntOf, Sem.run_bind, run_underlying hd, hlt, zik hz', hx]) hc
     ·simp at hz
     ·simp at hz
    next => trivial
   next => trivial
  next => trivial
 next => trivial

end
end Go.Ev

