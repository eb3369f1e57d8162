/- A part of the small machine. -/
import Derived.Test.YtjddbfpinjjkkaaGreatDoorEvV3
set_option linter.unusedVariables false
namespace Go.Ev
open Go.RowKit
variable {P : Program}
noncomputable def zfy (f : Value → Option SV) (l : List Value) : Option (List SV) :=
 List.rec (some []) (fun a _ ih => Option.rec none (fun x => Option.rec none (fun r => some (x :: r)) ih) (f a)) l
theorem zat {f : Value → Option SV} {m : Map} (hf : ∀ v s, f v = some s → conc m s = some v) : ∀ {l : List Value} {r : List SV}, zfy f l = some r → concs m r = some l
 | [], r, h => by
  have h' : some [] = some r := h
  simp at h'; subst h'; simp [concs]
 | a :: l, r, h => by
  have h' : Option.rec none (fun x => Option.rec none (fun r => some (x :: r)) (zfy f l)) (f a) = some r := h
  cases ha : f a with
  | none => rw [ha] at h'; simp at h'
  | some x =>
   rw [ha] at h'
   cases hl : zfy f l with
   | none => simp [hl] at h'
   | some k =>
    simp only [hl, Option.some.injEq] at h'
    subst h'
    exact concs_cons (hf _ _ ha) (zat hf hl)
def zsd : Value → Option SV
 | .bool b => some (.bool b)
 | .int k n => some (.int k n)
 | .string s => some (.str s.data.toList)
 | .pointer none => some .nilp
 | .slice none 0 0 => some .nils
 | .map none => some .nilm
 | .nilFunc => some .nilf
 | .nilIface => some .nili
 | _ => none
theorem zcd (m : Map) (v : Value) (s : SV) (h : zsd v = some s) : conc m s = some v := by
 unfold zsd at h
 split at h <;> first | (simp only [Option.some.injEq] at h; subst h; simp [conc]; done) | (simp at h; done)
noncomputable def zta : Value → Option SV
 | .iface t v => (zsd v).map (.iface t ·)
 | .agg cs => (zfy zsd cs.toList).map .agg
 | .tuple cs => (zfy zsd cs.toList).map .tuple
 | v => zsd v
theorem zg2 (m : Map) (v : Value) (s : SV) (h : zta v = some s) : conc m s = some v := by
 unfold zta at h
 split at h
 ·simp only [Option.map_eq_some_iff] at h
  obtain ⟨x, hx, rfl⟩ := h
  simp [conc, zcd m _ _ hx]
 ·simp only [Option.map_eq_some_iff] at h
  obtain ⟨x, hx, rfl⟩ := h
  simp [conc, zat (zcd m) hx]
 ·simp only [Option.map_eq_some_iff] at h
  obtain ⟨x, hx, rfl⟩ := h
  simp [conc, zat (zcd m) hx]
 ·exact zcd m _ _ h
noncomputable def ofV : Value → Option SV
 | .iface t v => (zta v).map (.iface t ·)
 | .agg cs => (zfy zta cs.toList).map .agg
 | .tuple cs => (zfy zta cs.toList).map .tuple
 | v => zsd v
theorem zf6 (m : Map) (v : Value) (s : SV) (h : ofV v = some s) : conc m s = some v := by
 unfold ofV at h
 split at h
 ·simp only [Option.map_eq_some_iff] at h
  obtain ⟨x, hx, rfl⟩ := h
  simp [conc, zg2 m _ _ hx]
 ·simp only [Option.map_eq_some_iff] at h
  obtain ⟨x, hx, rfl⟩ := h
  simp [conc, zat (zg2 m) hx]
 ·simp only [Option.map_eq_some_iff] at h
  obtain ⟨x, hx, rfl⟩ := h
  simp [conc, zat (zg2 m) hx]
 ·exact zcd m _ _ h
theorem za6.put {m : Map} {σ : Tree SV} {tm : Array Value} (hr : za6 m σ tm) {d : Nat} (hd : d < tm.size) {s : SV} {v : Value} (hv : conc m s = some v) :
  za6 m (σ.put (some s) (Pos.ofNat d)) (tm.setIfInBounds d v) := by
 intro t x hx
 by_cases h : d = t
 ·subst h
  rw [Tree.get_put_same] at hx
  cases hx
  exact ⟨v, by simp [hd], hv⟩
 ·rw [Tree.get_put_other _ _ (fun e => h (Pos.ofNat_inj e))] at hx
  obtain ⟨u, h1, h2⟩ := hr t x hx
  exact ⟨u, by rw [Array.getElem?_setIfInBounds_ne h]; exact h1, h2⟩
def den (tm : Array Value) : Operand → Value
 | .tmp t => tm.getD t undef
 | .const v => v
 | .global g => .pointer (some ⟨g, 0, none⟩)
 | .func f => .func (.func f) #[] #[]
noncomputable def zod (M : Mem) (b : Pos) : Bool := match M.t.get b with
 | some (.fix _) => true
 | _ => false
theorem zqn {M : Mem} {b : Pos} (h : zod M b = true) : ∃ c, M.t.get b = some (.fix c) := by
 unfold zod at h
 split at h
 ·rename_i c hc; exact ⟨c, hc⟩
 ·simp at h
noncomputable def arg (M : Mem) (σ : Tree SV) (x : Operand) : Option SV :=
 Operand.rec (fun t => σ.get (Pos.ofNat t)) (fun v => ofV v) (fun g => Bool.rec none (some (.ptr (Pos.ofNat g) 0)) (zod M (Pos.ofNat g))) (fun f => some (.fn (.func f) [] [])) x
section
variable {B : Nat} {m : Map} {M : Mem} {w : World} {σ : Tree SV} {tm : Array Value}
theorem zd8 (hr : MRel B m M w) (ht : za6 m σ tm) {x : Operand} {s : SV} (h : arg M σ x = some s) : conc m s = some (den tm x) := by
 cases x with
 | tmp t =>
  obtain ⟨v, h1, h2⟩ := ht t s h
  rw [h2]
  simp [den, Array.getD_eq_getD_getElem?, h1]
 | const v => exact zf6 m _ _ h
 | global g =>
  have h' : Bool.rec none (some (.ptr (Pos.ofNat g) 0)) (zod M (Pos.ofNat g)) = some s := h
  cases hf : zod M (Pos.ofNat g) with
  | false => rw [hf] at h'; simp at h'
  | true =>
   rw [hf] at h'
   simp only [Option.some.injEq] at h'
   subst h'
   obtain ⟨c, hc⟩ := zqn hf
   obtain ⟨z, hm, _⟩ := hr.glob _ _ hc
   simp [conc, hm, den, Pos.num_ofNat]
 | func f =>
  have h' : some (SV.fn (.func f) [] []) = some s := h
  simp only [Option.some.injEq] at h'
  subst h'
  simp [conc, concs, den]
noncomputable def args (M : Mem) (σ : Tree SV) (l : List Operand) : Option (List SV) :=
 List.rec (some []) (fun a _ ih => Option.rec none (fun x => Option.rec none (fun r => some (x :: r)) ih) (arg M σ a)) l
theorem zll (hr : MRel B m M w) (ht : za6 m σ tm) : ∀ {l : List Operand} {r : List SV}, args M σ l = some r → concs m r = some (l.map (den tm))
 | [], r, h => by
  have h' : some [] = some r := h
  simp at h'; subst h'; simp [concs]
 | a :: l, r, h => by
  have h' : Option.rec none (fun x => Option.rec none (fun r => some (x :: r)) (args M σ l)) (arg M σ a) = some r := h
  cases ha : arg M σ a with
  | none => rw [ha] at h'; simp at h'
  | some x =>
   rw [ha] at h'
   cases hl : args M σ l with
   | none => simp [hl] at h'
   | some k =>
    simp only [hl, Option.some.injEq] at h'
    subst h'
    exact concs_cons (zd8 hr ht ha) (zll hr ht hl)
end
inductive Out where
 | bad
 | val (v : SV) (M : Mem)
 | enter (f : FuncId) (args : List SV) (M : Mem)
 | round (l : Pos) (args : List SV) (M : Mem)
def Nx (m : Map) (s : SV) : Next → Prop
 | .value v => conc m s = some v
 | .skip => s = .tuple []
 | _ => False
def z8f (P : Program) (B : Nat) (m : Map) (M : Mem) (w : World) (q : Sem Next) : Out → Prop
 | .bad => True
 | .val s M' => ∃ x m' w', q.run P w = .ok x w' ∧ Nx m' s x ∧ z82 B m M w m' M' w'
 | .enter f as M' => ∃ vs m' w', q.run P w = .ok (.enter f vs) w' ∧ concs m' as = some vs.toList ∧ z82 B m M w m' M' w'
 | .round l as M' => ∃ (p : Pl) (R : Loop) (vs : Array Value) (m' : Map) (w' : World), m' l = some p ∧ w'.heap[p.block]? = some (.loop R) ∧ vs.size = R.params.size ∧
   q.run P w = .ok (.round p.block R.fn ((R.params.zip vs).foldl (fun tmps (t, a) => tmps.setIfInBounds t a) R.tmps) R.assign R.body) w' ∧ concs m' as = some vs.toList ∧ z82 B m M w m' M' w'
section
variable {B : Nat} {m : Map} {M : Mem} {w : World}
theorem z8f.pure (hr : MRel B m M w) {q : Sem Value} {s : SV} {v : Value} (hq : q.run P w = .ok v w) (hv : conc m s = some v) :
  z8f P B m M w (do Pure.pure (Next.value (← q))) (.val s M) :=
 ⟨.value v, m, w, by simp [hq], hv, .refl hr⟩
theorem z8f.value {q : Sem Value} {s : SV} {v : Value} {m' M' w'} (hq : q.run P w = .ok v w') (hv : conc m' s = some v) (hs : z82 B m M w m' M' w') :
  z8f P B m M w (do Pure.pure (Next.value (← q))) (.val s M') :=
 ⟨.value v, m', w', by simp [hq], hv, hs⟩
theorem z8f.unit {q : Sem Unit} {m' M' w'} (hq : q.run P w = .ok () w') (hs : z82 B m M w m' M' w') :
  z8f P B m M w (do q; Pure.pure Next.skip) (.val (.tuple []) M') :=
 ⟨.skip, m', w', by simp [hq], rfl, hs⟩
end
end Go.Ev
namespace Go.Ev
open Go.RowKit
variable {P : Program}
theorem za4 {t : TypeId} {i : TypeInfo} (h : P.info? t = some i) (w : World) : (typeInfo t).run P w = .ok i w := by simp [typeInfo, h]
theorem zb2 {t : TypeId} {i : TypeInfo} (h : P.info? t = some i) (w : World) : (sizeOf t).run P w = .ok i.size w := by simp [sizeOf, typeInfo, h]
noncomputable def szOf (P : Program) (t : TypeId) : Option Nat := (P.info? t).map (·.size)
def zrj : TypeDesc → Bool
 | .struct _ | .array _ _ => true
 | _ => false
noncomputable def aggSize (P : Program) (t : TypeId) : Option (Option Nat) :=
 (P.underlying t).bind fun d => (P.info? t).map fun i => if zrj d then some i.size else none
theorem z8q {t : TypeId} {n : Nat} (h : szOf P t = some n) (w : World) : (sizeOf t).run P w = .ok n w := by
 simp only [szOf, Option.map_eq_some_iff] at h
 obtain ⟨i, hi, rfl⟩ := h
 exact zb2 hi w
theorem zk0 {t : TypeId} {d : TypeDesc} (h : P.underlying t = some d) (w : World) : (isAgg t).run P w = .ok (zrj d) w := by
 simp only [isAgg, Sem.run_bind, run_underlying h, Result.andThen_ok]
 cases d <;> rfl
theorem z9v {t : TypeId} {n : Nat} (h : aggSize P t = some (some n)) (w : World) : (isAgg t).run P w = .ok true w ∧ (sizeOf t).run P w = .ok n w := by
 simp only [aggSize, Option.bind_eq_some_iff, Option.map_eq_some_iff] at h
 obtain ⟨d, hd, i, hi, h⟩ := h
 rw [zk0 hd]
 split at h
 ·rename_i ha
  simp only [Option.some.injEq] at h
  subst h
  exact ⟨by rw [ha], zb2 hi w⟩
 ·simp at h
theorem zc0 {t : TypeId} (h : aggSize P t = some none) (w : World) : (isAgg t).run P w = .ok false w := by
 simp only [aggSize, Option.bind_eq_some_iff, Option.map_eq_some_iff] at h
 obtain ⟨d, hd, i, hi, h⟩ := h
 rw [zk0 hd]
 split at h
 ·simp at h
 ·rename_i ha
  simp only [Bool.not_eq_true] at ha
  rw [ha]
section
variable {B : Nat} {m : Map} {M : Mem} {w : World}
theorem z91 {b : Pos} {off : Nat} {v : Value} (h : conc m (.ptr b off) = some v) : ∃ p, m b = some p ∧ v = .pointer (some ⟨p.block, off + p.shift, none⟩) := by
 simp only [conc, Option.map_eq_some_iff] at h
 obtain ⟨p, hp, rfl⟩ := h
 exact ⟨p, hp, rfl⟩
theorem conc_agg {l : List SV} {v : Value} (h : conc m (.agg l) = some v) : ∃ vs, concs m l = some vs ∧ v = .agg vs.toArray := by
 simp only [conc, Option.map_eq_some_iff] at h
 obtain ⟨p, hp, rfl⟩ := h
 exact ⟨p, hp, rfl⟩
theorem zms {l : List SV} {v : Value} (h : conc m (.tuple l) = some v) : ∃ vs, concs m l = some vs ∧ v = .tuple vs.toArray := by
 simp only [conc, Option.map_eq_some_iff] at h
 obtain ⟨p, hp, rfl⟩ := h
 exact ⟨p, hp, rfl⟩
noncomputable def zel (P : Program) (t : TypeId) (a : SV) (M : Mem) : Out :=
 match a with
 | .ptr b off =>
  match z9k M b with
  | some cells =>
   match aggSize P t with
   | some none => match nth cells off with
    | some s => .val s M
    | none => .bad
   | some (some n) => match Nat.ble (Nat.add off n) (len cells) with
    | true => .val (.agg (tk n (dp off cells))) M
    | false => .bad
   | none => .bad
  | none => .bad
 | _ => .bad
theorem zhs (hr : MRel B m M w) {t : TypeId} {a : SV} {v : Value} (ha : conc m a = some v) :
  z8f P B m M w (do Pure.pure (Next.value (← Instr.loadAt t v))) (zel P t a M) := by
 unfold zel
 split
 next b off =>
  split
  next cells hc =>
   obtain ⟨p, hp, rfl⟩ := z91 ha
   split
   next hz =>
    split
    next s hs =>
     rw [zhb] at hs
     obtain ⟨u, hu, hcell⟩ := znt hr hc hp hs
     refine z8f.pure hr (v := u) ?_ hu
     simp [Instr.loadAt, Instr.sureAddr, loadVar, Sem.run_bind, zc0 hz, hcell]
    next => trivial
   next n hz =>
    split
    next hn =>
     rw [z93] at hn
     have hn' : off + n ≤ cells.length := by simpa using hn
     obtain ⟨vs, hvs, hl, _, hrun⟩ := zcg (P := P) hr hc hp hn'
     refine z8f.pure hr (v := .agg vs.toArray) ?_ ?_
     ·simp [Instr.loadAt, Instr.sureAddr, loadVar, Sem.run_bind, (z9v hz w).1, (z9v hz w).2, hrun]
     ·rw [zck, zc6]; simp [conc, hvs]
    next => trivial
   next => trivial
  next => trivial
 next => trivial
def cellsOf : SV → List SV
 | .agg l => l
 | s => [s]
theorem zac {s : SV} {v : Value} (h : conc m s = some v) : concs m (cellsOf s) = some v.cells.toList := by
 have key : ∀ (x : SV) (u : Value), conc m x = some u → cellsOf x = [x] → u.cells = #[u] → concs m (cellsOf x) = some u.cells.toList := by
  intro x u hx h1 h2
  rw [h1, h2]
  exact concs_cons hx (concs_nil m)
 cases s with
 | agg l =>
  obtain ⟨vs, hvs, rfl⟩ := conc_agg h
  simpa [cellsOf, Value.cells] using hvs
 | _ =>
  refine key _ _ h rfl ?_
  simp only [conc, Option.map_eq_some_iff, Option.bind_eq_some_iff, Option.some.injEq] at h
  first
   | (subst h; rfl)
   | (obtain ⟨_, _, rfl⟩ := h; rfl)
   | (obtain ⟨_, _, _, _, rfl⟩ := h; rfl)
   | (obtain ⟨_, _, h⟩ := h; split at h <;> first | (simp only [Option.some.injEq] at h; subst h; rfl) | (simp at h; done))
noncomputable def zht (P : Program) (t : TypeId) (a v : SV) (M : Mem) : Out :=
 match a with
 | .ptr b off =>
  match szOf P t with
  | some n => match Nat.beq (len (cellsOf v)) n with
   | true => match z9p M b off (cellsOf v) with
    | some M' => .val (.tuple []) M'
    | none => .bad
   | false => .bad
  | none => .bad
 | _ => .bad
theorem zlj (hr : MRel B m M w) {t : TypeId} {a x : SV} {v u : Value} (ha : conc m a = some v) (hx : conc m x = some u) :
  z8f P B m M w (do Instr.storeAt t v u; Pure.pure Next.skip) (zht P t a x M) := by
 unfold zht
 split
 next b off =>
  split
  next n hn =>
   split
   next hl =>
    split
    next M' hM =>
     obtain ⟨p, hp, rfl⟩ := z91 ha
     have hc := zac hx
     obtain ⟨w', hrun, hs⟩ := zeg (P := P) hr hM hp hc
     refine z8f.unit (w' := w') ?_ hs
     rw [z93] at hl
     have hl' : (cellsOf x).length = n := by simpa using hl
     have hsz : u.cells.size = n := by rw [← hl', ← z86 hc]; simp
     simp [Instr.storeAt, Instr.sureAddr, storeVar, Sem.run_bind, z8q hn, hsz, hrun]
    next => trivial
   next => trivial
  next => trivial
 next => trivial
noncomputable def zerosOf (P : Program) (t : TypeId) : Option (List SV) := ((P.info? t).bind (·.zero)).bind fun z => (ofV z).map cellsOf
theorem zda {t : TypeId} {l : List SV} (h : zerosOf P t = some l) (w : World) : ∃ z, (zeroValue t).run P w = .ok z w ∧ concs m l = some z.cells.toList := by
 simp only [zerosOf, Option.bind_eq_some_iff, Option.map_eq_some_iff] at h
 obtain ⟨z, ⟨i, hi, hz⟩, s, hs, rfl⟩ := h
 exact ⟨z, by simp [zeroValue, Sem.run_bind, za4 hi, hz], zac (zf6 m _ _ hs)⟩
noncomputable def z90 (M : Mem) : Pos := Mem.rec (fun _ n _ => n) M
theorem z9n (M : Mem) : z90 M = M.next := by cases M; rfl
noncomputable def ztn (e : TypeId) (cells : List SV) (M : Mem) : Out := .val (.ptr (z90 M) 0) (z8k e .whole M cells)
theorem zeb (hr : MRel B m M w) (kk : RK) {cells : List SV} {vs post : List Value} (hkk : kk ≠ .whole ∨ post = []) (e : TypeId) (hv : concs m cells = some vs) {w' : World} (hw : w'.heap = w.heap.push (.cells (vs ++ post).toArray e (0, 0)))
  (hos : w'.os = w.os) (htape : w'.tape = w.tape) (hout : w'.output = w.output) :
  ∃ m', z82 B m M w m' (z8k e kk M cells) w' ∧ m' M.next = some ⟨w.heap.size, 0, vs.length + post.length⟩ :=
 ⟨_, znq hr kk cells vs post hkk e hv hw hos htape hout, by simp⟩
theorem zhi (w : World) (t : TypeId) (v : Value) : (newVar t v).run P w = .ok ⟨w.heap.size, 0, none⟩ (w.alloc (.cells v.cells t)) := by
 simp [newVar, newRow, newObj, Sem.run]
theorem zkd {m' : Map} {k : Nat} {M : Mem} {n : Nat} (h : m' M.next = some ⟨n, 0, k⟩) : conc m' (.ptr (z90 M) 0) = some (.pointer (some ⟨n, 0, none⟩)) := by
 simp [conc, z9n, h]
theorem zpu (hr : MRel B m M w) (t : TypeId) {x : SV} {u : Value} (hx : conc m x = some u) :
  z8f P B m M w (do Pure.pure (Next.value (← Instr.box t u))) (ztn t (cellsOf x) M) := by
 obtain ⟨m', hs, hm⟩ := zeb hr .whole (.inr rfl) t (zac hx) (post := []) (w' := w.alloc (.cells u.cells t)) (by show w.heap.push _ = _; simp) rfl rfl rfl
 exact z8f.value (by simp [Instr.box, zhi]) (zkd hm) hs
noncomputable def zhm (P : Program) (t : TypeId) (M : Mem) : Out :=
 match zerosOf P t with
 | some l => ztn t l M
 | none => .bad
theorem zl9 (hr : MRel B m M w) (t : TypeId) :
  z8f P B m M w (do Pure.pure (Next.value (← Instr.alloc t true (.tuple #[])))) (zhm P t M) := by
 unfold zhm
 split
 next l hl =>
  obtain ⟨z, hz, hc⟩ := zda (m := m) hl w
  obtain ⟨m', hs, hm⟩ := zeb hr .whole (.inr rfl) t hc (post := []) (w' := w.alloc (.cells z.cells t)) (by show w.heap.push _ = _; simp) rfl rfl rfl
  exact z8f.value (by simp [Instr.alloc, Sem.run_bind, hz, zhi]) (zkd hm) hs
 next => trivial
end
end Go.Ev
namespace Go.Ev
open Go.RowKit
variable {P : Program}
theorem zd7 (b x y s : Nat) : (⟨b, x + s, none⟩ : Addr).add y = ⟨b, x + y + s, none⟩ := by rw [zdc]; congr 1; omega
section
variable {B : Nat} {m : Map} {M : Mem} {w : World}
noncomputable def fieldOff (P : Program) (t : TypeId) (k : Nat) : Option Nat :=
 (P.underlying t).bind fun d => match d with
  | .struct fs => (fs[k]?).bind fun f => (szOf P f.type).bind fun n => match Nat.beq n 0 with
   | true => none
   | false => some f.offset
  | _ => none
theorem zjc {t : TypeId} {k o : Nat} (h : fieldOff P t k = some o) (b x : Nat) (w : World) :
  (Instr.fieldAt t (.pointer (some ⟨b, x, none⟩)) k).run P w = .ok (.pointer (some ⟨b, x + o, none⟩)) w := by
 simp only [fieldOff, Option.bind_eq_some_iff] at h
 obtain ⟨d, hd, h⟩ := h
 split at h
 ·rename_i fs
  simp only [Option.bind_eq_some_iff] at h
  obtain ⟨f, hf, n, hn, h⟩ := h
  split at h
  ·simp at h
  ·rename_i hn0
   simp only [Option.some.injEq] at h
   have hn1 : n ≠ 0 := by intro e; subst e; exact absurd hn0 (by decide)
   simp [Instr.fieldAt, Sem.run_bind, run_underlying hd, hf, Instr.sureAddr, fieldPlace, z8q hn, hn1, zdc, h]
 ·simp at h
noncomputable def za0 (P : Program) (t : TypeId) (k : Nat) (a : SV) (M : Mem) : Out :=
 match a with
 | .ptr b off => match fieldOff P t k with
  | some o => .val (.ptr b (Nat.add off o)) M
  | none => .bad
 | _ => .bad
theorem zgq (hr : MRel B m M w) {t : TypeId} {k : Nat} {a : SV} {v : Value} (ha : conc m a = some v) :
  z8f P B m M w (do Pure.pure (Next.value (← Instr.fieldAt t v k))) (za0 P t k a M) := by
 unfold za0
 split
 next b off =>
  split
  next o ho =>
   obtain ⟨p, hp, rfl⟩ := z91 ha
   refine z8f.pure hr (zjc ho _ _ _) ?_
   simp [conc, hp]; omega
  next => trivial
 next => trivial
noncomputable def zdo (P : Program) (t : TypeId) (l : List SV) (off : Nat) : Option SV :=
 match aggSize P t with
 | some none => nth l off
 | some (some n) => match Nat.ble (Nat.add off n) (len l) with
  | true => some (.agg (tk n (dp off l)))
  | false => none
 | none => none
theorem zah {t : TypeId} {l : List SV} {off : Nat} {s : SV} (h : zdo P t l off = some s) {vs : List Value} (hl : concs m l = some vs) (w : World) :
  ∃ v, (part t vs.toArray off).run P w = .ok v w ∧ conc m s = some v := by
 unfold zdo at h
 split at h
 next hz =>
  rw [zhb] at h
  obtain ⟨v, hv, hi⟩ := zdf hl h
  exact ⟨v, by simp [part, Sem.run_bind, zc0 hz, hi], hv⟩
 next n hz =>
  split at h
  next hn =>
   simp only [Option.some.injEq] at h
   subst h
   refine ⟨.agg (vs.toArray.extract off (off + n)), by simp [part, Sem.run_bind, (z9v hz w).1, (z9v hz w).2], ?_⟩
   rw [zck, zc6]
   simp [conc, zb9 n (zb8 off hl), List.extract_eq_take_drop]
  next => simp at h
 next => simp at h
noncomputable def zoc (P : Program) (t : TypeId) (k : Nat) : Option (TypeId × Nat) :=
 (P.underlying t).bind fun d => match d with
  | .struct fs => (fs[k]?).map fun f => (f.type, f.offset)
  | _ => none
noncomputable def zhp (P : Program) (t : TypeId) (k : Nat) (a : SV) (M : Mem) : Out :=
 match a with
 | .agg l => match zoc P t k with
  | some (u, o) => match zdo P u l o with
   | some s => .val s M
   | none => .bad
  | none => .bad
 | _ => .bad
theorem zle (hr : MRel B m M w) {t : TypeId} {k : Nat} {a : SV} {v : Value} (ha : conc m a = some v) :
  z8f P B m M w (do Pure.pure (Next.value (← Instr.field t v k))) (zhp P t k a M) := by
 unfold zhp
 split
 next l =>
  split
  next u o hu =>
   split
   next s hs =>
    obtain ⟨vs, hvs, rfl⟩ := conc_agg ha
    obtain ⟨x, hx, hc⟩ := zah hs hvs w
    simp only [zoc, Option.bind_eq_some_iff] at hu
    obtain ⟨d, hd, hu⟩ := hu
    split at hu
    ·rename_i fs
     simp only [Option.map_eq_some_iff, Prod.mk.injEq] at hu
     obtain ⟨f, hf, rfl, rfl⟩ := hu
     exact z8f.pure hr (by simp [Instr.field, Sem.run_bind, run_underlying hd, hf, asAgg, hx]) hc
    ·simp at hu
   next => trivial
  next => trivial
 next => trivial
noncomputable def z9f (k : Nat) (a : SV) (M : Mem) : Out :=
 match a with
 | .tuple l => match nth l k with
  | some s => .val s M
  | none => .bad
 | _ => .bad
theorem ziu (hr : MRel B m M w) {k : Nat} {a : SV} {v : Value} (ha : conc m a = some v) :
  z8f P B m M w (do Pure.pure (Next.value (← Instr.extract v k))) (z9f k a M) := by
 unfold z9f
 split
 next l =>
  split
  next s hs =>
   rw [zhb] at hs
   obtain ⟨vs, hvs, rfl⟩ := zms ha
   obtain ⟨x, hx, hi⟩ := zdf hvs hs
   exact z8f.pure hr (by simp [Instr.extract, hi]) hx
  next => trivial
 next => trivial
noncomputable def zn5 (i : Int) (n : Nat) : Option Nat :=
 Int.rec (fun j => Bool.rec none (some j) (Nat.ble (Nat.succ j) n)) (fun _ => none) i
theorem zf5 {i : Int} {n j : Nat} (h : zn5 i n = some j) : i = (j : Int) ∧ j < n := by
 cases i with
 | ofNat k =>
  have h' : Bool.rec none (some k) (Nat.ble (Nat.succ k) n) = some j := h
  cases hb : Nat.ble (Nat.succ k) n with
  | false => rw [hb] at h'; simp at h'
  | true =>
   rw [hb] at h'
   simp only [Option.some.injEq] at h'
   subst h'
   exact ⟨rfl, by have := Nat.le_of_ble_eq_true hb; omega⟩
 | negSucc k => exact absurd (show (none : Option Nat) = some j from h) (by simp)
inductive Elems where
 | arr (n size : Nat)
 | sl (size : Nat)
noncomputable def elems (P : Program) (t : TypeId) : Option Elems :=
 (P.underlying t).bind fun d => match d with
  | .array n e => (szOf P e).map (.arr n ·)
  | .slice e => (szOf P e).map (.sl ·)
  | _ => none
noncomputable def z8h (P : Program) (t : TypeId) (a i : SV) (M : Mem) : Out :=
 match a, i with
 | .ptr b off, .int _ k => match elems P t with
  | some (.arr n z) => match zn5 k n with
   | some j => .val (.ptr b (Nat.add off (Nat.mul j z))) M
   | none => .bad
  | _ => .bad
 | .slice b off n _, .int _ k => match elems P t with
  | some (.sl z) => match zn5 k n with
   | some j => .val (.ptr b (Nat.add off (Nat.mul j z))) M
   | none => .bad
  | _ => .bad
 | .ope b off n _, .int _ k => match elems P t with
  | some (.sl z) => match zn5 k n with
   | some j => .val (.ptr b (Nat.add off (Nat.mul j z))) M
   | none => .bad
  | _ => .bad
 | _, _ => .bad
theorem z8m {b : Pos} {off n c : Nat} {v : Value} (h : conc m (.slice b off n c) = some v) :
  ∃ p, m b = some p ∧ v = .slice (some ⟨p.block, off + p.shift, none⟩) n c := by
 simp only [conc, Option.map_eq_some_iff] at h
 obtain ⟨p, hp, rfl⟩ := h
 exact ⟨p, hp, rfl⟩
theorem z9d {b : Pos} {off n z : Nat} {v : Value} (h : conc m (.ope b off n z) = some v) :
  ∃ p, m b = some p ∧ 0 < z ∧ off + p.shift + n * z ≤ p.size ∧ v = .slice (some ⟨p.block, off + p.shift, none⟩) n ((p.size - (off + p.shift)) / z) := by
 simp only [conc, Option.bind_eq_some_iff] at h
 obtain ⟨p, hp, h⟩ := h
 split at h
 ·rename_i hz
  simp only [Option.some.injEq] at h
  exact ⟨p, hp, hz.1, hz.2, h.symm⟩
 ·simp at h
theorem zax {b : Pos} {old off z : Nat} {v : Value} (h : conc m (.opz b old off z) = some v) :
  ∃ p, m b = some p ∧ 0 < z ∧ off + p.shift ≤ p.size ∧ v = .slice (some ⟨p.block, (if (p.size - (off + p.shift)) / z = 0 then old else off) + p.shift, none⟩) 0 ((p.size - (off + p.shift)) / z) := by
 simp only [conc, Option.bind_eq_some_iff] at h
 obtain ⟨p, hp, h⟩ := h
 split at h
 ·rename_i hz
  simp only [Option.some.injEq] at h
  exact ⟨p, hp, hz.1, hz.2, h.symm⟩
 ·simp at h
theorem conc_int {k : IntKind} {n : Int} {v : Value} (h : conc m (.int k n) = some v) : v = .int k n := by simp [conc] at h; exact h.symm
theorem zgr (hr : MRel B m M w) {t : TypeId} {a i : SV} {v u : Value} (ha : conc m a = some v) (hi : conc m i = some u) :
  z8f P B m M w (do Pure.pure (Next.value (← Instr.indexAt t v u))) (z8h P t a i M) := by
 unfold z8h
 split
 next b off ik k =>
  obtain rfl := conc_int hi
  split
  next n z hz =>
   split
   next j hj =>
    obtain ⟨rfl, hlt⟩ := zf5 hj
    obtain ⟨p, hp, rfl⟩ := z91 ha
    simp only [elems, Option.bind_eq_some_iff] at hz
    obtain ⟨d, hd, hz⟩ := hz
    split at hz
    ·rename_i n' e
     simp only [Option.map_eq_some_iff, Elems.arr.injEq] at hz
     obtain ⟨z', hz', rfl, rfl⟩ := hz
     refine z8f.pure hr (v := .pointer (some ⟨p.block, off + j * z' + p.shift, none⟩)) ?_ (by simp [conc, hp])
     simp [Instr.indexAt, asIntOf, Sem.run_bind, run_underlying hd, Instr.sureAddr, hlt, z8q hz', zd7]
    ·simp at hz
    ·simp at hz
   next => trivial
  next => trivial
 next b off n cap ik k =>
  obtain rfl := conc_int hi
  split
  next z hz =>
   split
   next j hj =>
    obtain ⟨rfl, hlt⟩ := zf5 hj
    obtain ⟨p, hp, rfl⟩ := z8m ha
    simp only [elems, Option.bind_eq_some_iff] at hz
    obtain ⟨d, hd, hz⟩ := hz
    split at hz
    ·simp at hz
    ·rename_i e
     simp only [Option.map_eq_some_iff, Elems.sl.injEq] at hz
     obtain ⟨z', hz', rfl⟩ := hz
     refine z8f.pure hr (v := .pointer (some ⟨p.block, off + j * z' + p.shift, none⟩)) ?_ (by simp [conc, hp])
     simp [Instr.indexAt, asIntOf, Sem.run_bind, run_underlying hd, hlt, z8q hz', zd7]
    ·simp at hz
   next => trivial
  next => trivial
 next b off n cap ik k =>
  obtain rfl := conc_int hi
  split
  next z hz =>
   split
   next j hj =>
    obtain ⟨rfl, hlt⟩ := zf5 hj
    obtain ⟨p, hp, _, _, rfl⟩ := z9d ha
    simp only [elems, Option.bind_eq_some_iff] at hz
    obtain ⟨d, hd, hz⟩ := hz
    split at hz
    ·simp at hz
    ·rename_i e
     simp only [Option.map_eq_some_iff, Elems.sl.injEq] at hz
     obtain ⟨z', hz', rfl⟩ := hz
     refine z8f.pure hr (v := .pointer (some ⟨p.block, off + j * z' + p.shift, none⟩)) ?_ (by simp [conc, hp])
     simp [Instr.indexAt, asIntOf, Sem.run_bind, run_underlying hd, hlt, z8q hz', zd7]
    ·simp at hz
   next => trivial
  next => trivial
 next => trivial
noncomputable def zlm (l : List UInt8) : Nat → Option UInt8 :=
 List.rec (fun _ => none) (fun a _ ih i => Nat.rec (some a) (fun j _ => ih j) i) l
theorem zj4 : ∀ (l : List UInt8) (i : Nat), zlm l i = l[i]?
 | [], _ => by simp [zlm]
 | a :: l, 0 => rfl
 | a :: l, i + 1 => by
  show zlm l i = _
  rw [zj4 l i]; simp
noncomputable def intNat (i : Int) : Option Nat := Int.rec (fun j => some j) (fun _ => none) i
theorem intNat_eq {i : Int} {j : Nat} (h : intNat i = some j) : i = (j : Int) := by
 cases i with
 | ofNat k => have h' : some k = some j := h; simp at h'; subst h'; rfl
 | negSucc k => exact absurd (show (none : Option Nat) = some j from h) (by simp)
inductive Wh where
 | str
 | arr (n : Nat) (e : TypeId) (size : Nat)
noncomputable def whole (P : Program) (t : TypeId) : Option Wh :=
 (P.underlying t).bind fun d => match d with
  | .array n e => (szOf P e).map (.arr n e ·)
  | .string => some .str
  | _ => none
noncomputable def zhr (P : Program) (t : TypeId) (a i : SV) (M : Mem) : Out :=
 match a, i with
 | .str s, .int _ k => match whole P t with
  | some .str => match intNat k with
   | some j => match zlm s j with
    | some c => .val (.int .u8 (Int.ofNat c.toNat)) M
    | none => .bad
   | none => .bad
  | _ => .bad
 | .agg l, .int _ k => match whole P t with
  | some (.arr n e z) => match zn5 k n with
   | some j => match zdo P e l (Nat.mul j z) with
    | some s => .val s M
    | none => .bad
   | none => .bad
  | _ => .bad
 | _, _ => .bad
theorem z8y {s : List UInt8} {v : Value} (h : conc m (.str s) = some v) : v = .string ⟨s.toArray⟩ := by simp [conc] at h; exact h.symm
theorem zlg (hr : MRel B m M w) {t : TypeId} {a i : SV} {v u : Value} (ha : conc m a = some v) (hi : conc m i = some u) :
  z8f P B m M w (do Pure.pure (Next.value (← Instr.index t v u))) (zhr P t a i M) := by
 unfold zhr
 split
 next s ik k =>
  obtain rfl := conc_int hi
  obtain rfl := z8y ha
  split
  next hz =>
   split
   next j hj =>
    split
    next c hc =>
     obtain rfl := intNat_eq hj
     rw [zj4] at hc
     simp only [whole, Option.bind_eq_some_iff] at hz
     obtain ⟨d, hd, hz⟩ := hz
     split at hz
     ·simp at hz
     ·have hb : (⟨s.toArray⟩ : ByteArray)[j]? = some c := by
       obtain ⟨hlt, he⟩ := List.getElem?_eq_some_iff.1 hc
       rw [getElem?_pos _ _ (by simpa [ByteArray.size] using hlt)]
       simp only [Option.some.injEq]
       rw [← he]
       rfl
      refine z8f.pure hr (v := .int .u8 c.toNat) ?_ rfl
      simp [Instr.index, asIntOf, Sem.run_bind, run_underlying hd, hb]
     ·simp at hz
    next => trivial
   next => trivial
  next => trivial
 next l ik k =>
  obtain rfl := conc_int hi
  split
  next n e z hz =>
   split
   next j hj =>
    split
    next s hs =>
     obtain ⟨rfl, hlt⟩ := zf5 hj
     obtain ⟨vs, hvs, rfl⟩ := conc_agg ha
     obtain ⟨x, hx, hc⟩ := zah hs hvs w
     simp only [whole, Option.bind_eq_some_iff] at hz
     obtain ⟨d, hd, hz⟩ := hz
     split at hz
     ·rename_i n' e'
      simp only [Option.map_eq_some_iff, Wh.arr.injEq] at hz
      obtain ⟨z', hz', rfl, rfl, rfl⟩ := hz
      simp only [Nat.mul_eq] at hx
      exact z8f.pure hr (by simp [Instr.index, asIntOf, Sem.run_bind, run_underlying hd, hlt, z8q hz', hx]) hc
     ·simp at hz
     ·simp at hz
    next => trivial
   next => trivial
  next => trivial
 next => trivial
end
end Go.Ev
