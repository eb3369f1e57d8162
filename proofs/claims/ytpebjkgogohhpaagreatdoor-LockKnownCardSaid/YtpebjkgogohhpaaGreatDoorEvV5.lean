/- Operations on memory. -/
import Derived.Test.YtpebjkgogohhpaaGreatDoorEvV4
namespace Go.Ev
open Go.RowKit
variable {P : Program}

theorem run_info {t : TypeId} {i : TypeInfo} (h : P.info? t = some i) (w : World) : (typeInfo t).run P w = .ok i w := by simp [typeInfo, h]
theorem run_size {t : TypeId} {i : TypeInfo} (h : P.info? t = some i) (w : World) : (sizeOf t).run P w = .ok i.size w := by simp [sizeOf, typeInfo, h]

noncomputable def szOf (P : Program) (t : TypeId) : Option Nat := (P.info? t).map (·.size)
def isAggD : TypeDesc → Bool
  | .struct _ | .array _ _ => true
  | _ => false
/-- How many cells a struct or an array has; none for a value of one cell. -/
noncomputable def aggSize (P : Program) (t : TypeId) : Option (Option Nat) :=
  (P.underlying t).bind fun d => (P.info? t).map fun i => if isAggD d then some i.size else none

theorem szOf_run {t : TypeId} {n : Nat} (h : szOf P t = some n) (w : World) : (sizeOf t).run P w = .ok n w := by
  simp only [szOf, Option.map_eq_some_iff] at h
  obtain ⟨i, hi, rfl⟩ := h
  exact run_size hi w

theorem run_isAgg {t : TypeId} {d : TypeDesc} (h : P.underlying t = some d) (w : World) : (isAgg t).run P w = .ok (isAggD d) w := by
  simp only [isAgg, Sem.run_bind, run_underlying h, Result.andThen_ok]
  cases d <;> rfl

theorem aggSize_some {t : TypeId} {n : Nat} (h : aggSize P t = some (some n)) (w : World) : (isAgg t).run P w = .ok true w ∧ (sizeOf t).run P w = .ok n w := by
  simp only [aggSize, Option.bind_eq_some_iff, Option.map_eq_some_iff] at h
  obtain ⟨d, hd, i, hi, h⟩ := h
  rw [run_isAgg hd]
  split at h
  · rename_i ha
    simp only [Option.some.injEq] at h
    subst h
    exact ⟨by rw [ha], run_size hi w⟩
  · simp at h

theorem aggSize_none {t : TypeId} (h : aggSize P t = some none) (w : World) : (isAgg t).run P w = .ok false w := by
  simp only [aggSize, Option.bind_eq_some_iff, Option.map_eq_some_iff] at h
  obtain ⟨d, hd, i, hi, h⟩ := h
  rw [run_isAgg hd]
  split at h
  · simp at h
  · rename_i ha
    simp only [Bool.not_eq_true] at ha
    rw [ha]

section
variable {B : Nat} {m : Map} {M : Mem} {w : World}

theorem conc_ptr {b : Pos} {off : Nat} {v : Value} (h : conc m (.ptr b off) = some v) : ∃ p, m b = some p ∧ v = .pointer (some ⟨p.block, off + p.shift, none⟩) := by
  simp only [conc, Option.map_eq_some_iff] at h
  obtain ⟨p, hp, rfl⟩ := h
  exact ⟨p, hp, rfl⟩

theorem conc_agg {l : List SV} {v : Value} (h : conc m (.agg l) = some v) : ∃ vs, concs m l = some vs ∧ v = .agg vs.toArray := by
  simp only [conc, Option.map_eq_some_iff] at h
  obtain ⟨p, hp, rfl⟩ := h
  exact ⟨p, hp, rfl⟩

theorem conc_tuple {l : List SV} {v : Value} (h : conc m (.tuple l) = some v) : ∃ vs, concs m l = some vs ∧ v = .tuple vs.toArray := by
  simp only [conc, Option.map_eq_some_iff] at h
  obtain ⟨p, hp, rfl⟩ := h
  exact ⟨p, hp, rfl⟩

/-- LOAD -/
noncomputable def xLoad (P : Program) (t : TypeId) (a : SV) (M : Mem) : Out :=
  match a with
  | .ptr b off =>
    match rowOf M b with
    | some cells =>
      match aggSize P t with
      | some none => match nth cells off with
        | some s => .val s M
        | none => .bad
      | some (some n) => match Nat.ble (Nat.add off n) (len cells) with
        | true => .val (.agg (tk n (dp off cells))) M
        | false => .bad
      | none => .bad
    | none => .bad
  | _ => .bad

theorem xLoad_does (hr : MRel B m M w) {t : TypeId} {a : SV} {v : Value} (ha : conc m a = some v) :
    Does P B m M w (do Pure.pure (Next.value (← Instr.loadAt t v))) (xLoad P t a M) := by
  unfold xLoad
  split
  next b off =>
    split
    next cells hc =>
      obtain ⟨p, hp, rfl⟩ := conc_ptr ha
      split
      next hz =>
        split
        next s hs =>
          rw [nth_eq] at hs
          obtain ⟨u, hu, hcell⟩ := cell_at hr hc hp hs
          refine Does.pure hr (v := u) ?_ hu
          simp [Instr.loadAt, Instr.sureAddr, loadVar, Sem.run_bind, aggSize_none hz, hcell]
        next => trivial
      next n hz =>
        split
        next hn =>
          rw [len_eq] at hn
          have hn' : off + n ≤ cells.length := by simpa using hn
          obtain ⟨vs, hvs, hl, _, hrun⟩ := run_cells (P := P) hr hc hp hn'
          refine Does.pure hr (v := .agg vs.toArray) ?_ ?_
          · simp [Instr.loadAt, Instr.sureAddr, loadVar, Sem.run_bind, (aggSize_some hz w).1, (aggSize_some hz w).2, hrun]
          · rw [tk_eq, dp_eq]; simp [conc, hvs]
        next => trivial
      next => trivial
    next => trivial
  next => trivial

def cellsOf : SV → List SV
  | .agg l => l
  | s => [s]

theorem cellsOf_conc {s : SV} {v : Value} (h : conc m s = some v) : concs m (cellsOf s) = some v.cells.toList := by
  have key : ∀ (x : SV) (u : Value), conc m x = some u → cellsOf x = [x] → u.cells = #[u] → concs m (cellsOf x) = some u.cells.toList := by
    intro x u hx h1 h2
    rw [h1, h2]
    exact concs_cons hx (concs_nil m)
  cases s with
  | agg l =>
    obtain ⟨vs, hvs, rfl⟩ := conc_agg h
    simpa [cellsOf, Value.cells] using hvs
  | _ =>
    refine key _ _ h rfl ?_
    simp only [conc, Option.map_eq_some_iff, Option.bind_eq_some_iff, Option.some.injEq] at h
    first
      | (subst h; rfl)
      | (obtain ⟨_, _, rfl⟩ := h; rfl)
      | (obtain ⟨_, _, _, _, rfl⟩ := h; rfl)
      | (obtain ⟨_, _, h⟩ := h; split at h <;> first | (simp only [Option.some.injEq] at h; subst h; rfl) | (simp at h; done))

/-- STORE -/
noncomputable def xStore (P : Program) (t : TypeId) (a v : SV) (M : Mem) : Out :=
  match a with
  | .ptr b off =>
    match szOf P t with
    | some n => match Nat.beq (len (cellsOf v)) n with
      | true => match putCells M b off (cellsOf v) with
        | some M' => .val (.tuple []) M'
        | none => .bad
      | false => .bad
    | none => .bad
  | _ => .bad

theorem xStore_does (hr : MRel B m M w) {t : TypeId} {a x : SV} {v u : Value} (ha : conc m a = some v) (hx : conc m x = some u) :
    Does P B m M w (do Instr.storeAt t v u; Pure.pure Next.skip) (xStore P t a x M) := by
  unfold xStore
  split
  next b off =>
    split
    next n hn =>
      split
      next hl =>
        split
        next M' hM =>
          obtain ⟨p, hp, rfl⟩ := conc_ptr ha
          have hc := cellsOf_conc hx
          obtain ⟨w', hrun, hs⟩ := run_put (P := P) hr hM hp hc
          refine Does.unit (w' := w') ?_ hs
          rw [len_eq] at hl
          have hl' : (cellsOf x).length = n := by simpa using hl
          have hsz : u.cells.size = n := by rw [← hl', ← concs_length hc]; simp
          simp [Instr.storeAt, Instr.sureAddr, storeVar, Sem.run_bind, szOf_run hn, hsz, hrun]
        next => trivial
      next => trivial
    next => trivial
  next => trivial

/-- NEW VARIABLES -/
noncomputable def zerosOf (P : Program) (t : TypeId) : Option (List SV) := ((P.info? t).bind (·.zero)).bind fun z => (ofV z).map cellsOf

theorem zerosOf_run {t : TypeId} {l : List SV} (h : zerosOf P t = some l) (w : World) : ∃ z, (zeroValue t).run P w = .ok z w ∧ concs m l = some z.cells.toList := by
  simp only [zerosOf, Option.bind_eq_some_iff, Option.map_eq_some_iff] at h
  obtain ⟨z, ⟨i, hi, hz⟩, s, hs, rfl⟩ := h
  exact ⟨z, by simp [zeroValue, Sem.run_bind, run_info hi, hz], cellsOf_conc (ofV_conc m _ _ hs)⟩

noncomputable def nextOf (M : Mem) : Pos := Mem.rec (fun _ n _ => n) M
theorem nextOf_eq (M : Mem) : nextOf M = M.next := by cases M; rfl

noncomputable def xNew (e : TypeId) (cells : List SV) (M : Mem) : Out := .val (.ptr (nextOf M) 0) (newRowS e .whole M cells)

theorem new_row (hr : MRel B m M w) (kk : RK) {cells : List SV} {vs post : List Value} (hkk : kk ≠ .whole ∨ post = []) (e : TypeId) (hv : concs m cells = some vs) {w' : World} (hw : w'.heap = w.heap.push (.cells (vs ++ post).toArray e (0, 0)))
    (hos : w'.os = w.os) (htape : w'.tape = w.tape) (hout : w'.output = w.output) :
    ∃ m', Stepped B m M w m' (newRowS e kk M cells) w' ∧ m' M.next = some ⟨w.heap.size, 0, vs.length + post.length⟩ :=
  ⟨_, alloc_row hr kk cells vs post hkk e hv hw hos htape hout, by simp⟩

theorem run_newVar (w : World) (t : TypeId) (v : Value) : (newVar t v).run P w = .ok ⟨w.heap.size, 0, none⟩ (w.alloc (.cells v.cells t)) := by
  simp [newVar, newRow, newObj, Sem.run_bind, Sem.run]

theorem xNew_conc {m' : Map} {k : Nat} {M : Mem} {n : Nat} (h : m' M.next = some ⟨n, 0, k⟩) : conc m' (.ptr (nextOf M) 0) = some (.pointer (some ⟨n, 0, none⟩)) := by
  simp [conc, nextOf_eq, h]

theorem xBox_does (hr : MRel B m M w) (t : TypeId) {x : SV} {u : Value} (hx : conc m x = some u) :
    Does P B m M w (do Pure.pure (Next.value (← Instr.box t u))) (xNew t (cellsOf x) M) := by
  obtain ⟨m', hs, hm⟩ := new_row hr .whole (.inr rfl) t (cellsOf_conc hx) (post := []) (w' := w.alloc (.cells u.cells t)) (by show w.heap.push _ = _; simp) rfl rfl rfl
  exact Does.value (by simp [Instr.box, Sem.run_bind, run_newVar]) (xNew_conc hm) hs

noncomputable def xAlloc (P : Program) (t : TypeId) (M : Mem) : Out :=
  match zerosOf P t with
  | some l => xNew t l M
  | none => .bad

theorem xAlloc_does (hr : MRel B m M w) (t : TypeId) :
    Does P B m M w (do Pure.pure (Next.value (← Instr.alloc t true (.tuple #[])))) (xAlloc P t M) := by
  unfold xAlloc
  split
  next l hl =>
    obtain ⟨z, hz, hc⟩ := zerosOf_run (m := m) hl w
    obtain ⟨m', hs, hm⟩ := new_row hr .whole (.inr rfl) t hc (post := []) (w' := w.alloc (.cells z.cells t)) (by show w.heap.push _ = _; simp) rfl rfl rfl
    exact Does.value (by simp [Instr.alloc, Sem.run_bind, hz, run_newVar]) (xNew_conc hm) hs
  next => trivial

end
end Go.Ev
