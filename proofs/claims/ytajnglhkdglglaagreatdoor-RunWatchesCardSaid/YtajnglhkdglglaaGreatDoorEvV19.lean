/- A part of the small machine. -/
import Derived.Test.YtajnglhkdglglaaGreatDoorEvW1
set_option linter.unusedVariables false
/- What an operation reads; operations that may wait. -/
namespace Go.Ev
open Go.RowKit
variable {P : Program}

/-- READS -/
def zlw : Operand → List Nat
 | .tmp t => [t]
 | _ => []
def zgr (l : List Operand) : List Nat := l.flatMap zlw
def zgs (o : Op) : List Nat := zgr o.operands.toList
/-- All temporaries that an operation reads, its guard's among them. -/
def zdn (all : Array Oper) (o : Oper) : List Nat :=
 (match o.guard with
  | none => []
  | some (j, _) => match (all[j]?).bind (·.dst) with
   | none => []
   | some d => [d]) ++ zgs o.op

def zin (l : List Nat) (σ σ' : Tree SV) : Prop := ∀ t ∈ l, σ.get (Pos.ofNat t) = σ'.get (Pos.ofNat t)

section
variable {M : Mem} {σ σ' : Tree SV}

theorem zku {x : Operand} (h : zin (zlw x) σ σ') : arg M σ x = arg M σ' x := by
 cases x with
 | tmp t => exact h t (by simp [zlw])
 | _ => rfl

theorem zkt {l : List Operand} (h : zin (zgr l) σ σ') {x : Operand} (hx : x ∈ l) : zin (zlw x) σ σ' :=
 fun t ht => h t (List.mem_flatMap.2 ⟨x, hx, ht⟩)

theorem zfy : ∀ {l : List Operand}, zin (zgr l) σ σ' → args M σ l = args M σ' l
 | [], _ => rfl
 | a :: l, h => by
  show Option.rec (motive := fun _ => Option (List SV)) none (fun x => Option.rec (motive := fun _ => Option (List SV)) none (fun r => some (x :: r)) (args M σ l)) (arg M σ a) = Option.rec (motive := fun _ => Option (List SV)) none (fun x => Option.rec (motive := fun _ => Option (List SV)) none (fun r => some (x :: r)) (args M σ' l)) (arg M σ' a)
  rw [zku (zkt h (List.mem_cons_self ..)), zfy (fun t ht => h t (by simp only [zgr, List.flatMap_cons, List.mem_append]; exact .inr ht))]

theorem zgg : ∀ {l : List (Nat × Operand)}, zin (zgr (l.map (·.2))) σ σ' → zek M σ l = zek M σ' l
 | [], _ => rfl
 | (i, a) :: l, h => by
  simp only [zek]
  rw [zku (zkt h (by simp)), zgg (fun t ht => h t (by simp only [zgr, List.map_cons, List.flatMap_cons, List.mem_append]; exact .inr ht))]

theorem zf6 {o : Oper} (h : zin (zgs o.op) σ σ') : exec P M σ o = exec P M σ' o := by
 rw [zg9, zg9]
 obtain ⟨dst, op, type, pos, after, guard⟩ := o
 have A : ∀ {x : Operand}, x ∈ op.operands.toList → arg M σ x = arg M σ' x := fun hx => zku (zkt h hx)
 have AO : ∀ {x : Option Operand}, (∀ y, x = some y → y ∈ op.operands.toList) → zpv M σ x = zpv M σ' x := by
  intro x hx
  cases x with
  | none => rfl
  | some y => simp only [zpv]; rw [A (hx y rfl)]
 cases op with
 | move x => simp only [zdq]; rw [A (by simp [Op.operands])]
 | assign x => simp only [zdq]; rw [A (by simp [Op.operands])]
 | pick c a b => simp only [zdq]; rw [A (x := c) (by simp [Op.operands]), A (x := a) (by simp [Op.operands]), A (x := b) (by simp [Op.operands])]
 | alloc e => rfl
 | box e x => simp only [zdq]; rw [A (by simp [Op.operands])]
 | build t ps =>
  simp only [zdq]
  rw [zgg (by simpa [zgs, Op.operands] using h)]
 | buildSlice t n ps =>
  simp only [zdq]
  rw [zgg (by simpa [zgs, Op.operands] using h)]
 | load t a => simp only [zdq]; rw [A (by simp [Op.operands])]
 | store t a x => simp only [zdq]; rw [A (x := a) (by simp [Op.operands]), A (x := x) (by simp [Op.operands])]
 | nilCheck x => simp only [zdq]; rw [A (by simp [Op.operands])]
 | binOp op t x y u => simp only [zdq]; rw [A (x := x) (by simp [Op.operands]), A (x := y) (by simp [Op.operands])]
 | unOp op t x => simp only [zdq]; rw [A (by simp [Op.operands])]
 | convert s d x => simp only [zdq]; rw [A (by simp [Op.operands])]
 | makeInterface t x => simp only [zdq]; rw [A (by simp [Op.operands])]
 | makeFunc fn a b =>
  simp only [zdq]
  rw [zfy (l := a.toList) (fun t ht => h t (by simp only [zgs, zgr, Op.operands, Array.toList_append, List.flatMap_append, List.mem_append]; exact .inl ht)),
   zfy (l := b.toList) (fun t ht => h t (by simp only [zgs, zgr, Op.operands, Array.toList_append, List.flatMap_append, List.mem_append]; exact .inr ht))]
 | makeSlice t l c => simp only [zdq]; rw [A (x := l) (by simp [Op.operands]), A (x := c) (by simp [Op.operands])]
 | slice t x lo hi mx =>
  simp only [zdq]
  rw [A (x := x) (by simp [Op.operands]), AO (x := lo) (by rintro y rfl; simp [Op.operands]), AO (x := hi) (by rintro y rfl; simp [Op.operands]), AO (x := mx) (by rintro y rfl; simp [Op.operands])]
 | fieldAddr t x k => simp only [zdq]; rw [A (by simp [Op.operands])]
 | field t x k => simp only [zdq]; rw [A (by simp [Op.operands])]
 | indexAddr t x i => simp only [zdq]; rw [A (x := x) (by simp [Op.operands]), A (x := i) (by simp [Op.operands])]
 | index t x i => simp only [zdq]; rw [A (x := x) (by simp [Op.operands]), A (x := i) (by simp [Op.operands])]
 | extract x k => simp only [zdq]; rw [A (by simp [Op.operands])]
 | makeMap t r => cases r <;> rfl
 | lookup t x k ok => simp only [zdq]; rw [A (x := x) (by simp [Op.operands]), A (x := k) (by simp [Op.operands])]
 | mapUpdate t x k v => simp only [zdq]; rw [A (x := x) (by simp [Op.operands]), A (x := k) (by simp [Op.operands]), A (x := v) (by simp [Op.operands])]
 | insert t x k v => simp only [zdq]; rw [A (x := x) (by simp [Op.operands]), A (x := k) (by simp [Op.operands]), A (x := v) (by simp [Op.operands])]
 | call c =>
  obtain ⟨callee, as, ts⟩ := c
  cases callee with
  | builtin b =>
   simp only [zdq]
   rw [zfy (by simpa [zgs, Op.operands, Call.operands] using h)]
  | value f =>
   simp only [zdq]
   rw [A (x := f) (by simp [Op.operands, Call.operands]), zfy (fun t ht => h t (by simp only [zgs, zgr, Op.operands, Call.operands, Array.toList_append, List.flatMap_append, List.mem_append]; exact .inr ht))]
  | invoke r n =>
   simp only [zdq]
   rw [A (x := r) (by simp [Op.operands, Call.operands]), zfy (fun t ht => h t (by simp only [zgs, zgr, Op.operands, Call.operands, Array.toList_append, List.flatMap_append, List.mem_append]; exact .inr ht))]
 | _ => rfl

theorem zep {all : Array Oper} {o : Oper} (h : zin (zdn all o) σ σ') : zdw all σ o = zdw all σ' o := by
 unfold zdw
 split
 ·rfl
 ·rename_i j want hg
  split
  ·rfl
  ·rename_i d hd
   rw [h d (by simp only [zdn, hg, hd]; simp)]

end

/-- OPERATIONS THAT LEAVE MEMORY AS IT IS. -/
noncomputable def zf0 (P : Program) : Op → Bool
 | .convert s d _ => match cvK P s d with
  | some (.bytes _) => false
  | _ => true
 | .move _ | .assign _ | .pick .. | .load .. | .binOp .. | .unOp .. | .makeInterface .. | .makeFunc .. | .fieldAddr .. | .field .. | .indexAddr .. | .index .. | .extract .. | .slice .. | .nilCheck _ | .build .. | .lookup .. => true
 | .call { callee := .builtin .len, .. } => true
 | .call { callee := .builtin .min, .. } => true
 | .call { callee := .builtin .max, .. } => true
 | .call { callee := .builtin .cap, .. } => true
 | .call { callee := .builtin .unsafeSliceData, .. } => true
 | _ => false

/-- It gives a value, if anything, and the memory as it was. -/
def zhc (M : Mem) : Out → Prop
 | .bad => True
 | .val _ M' => M' = M
 | .enter _ _ _ => False
 | .round _ _ _ => False

theorem zdg {M : Mem} {α : Type} {x : Option α} {k : α → Out} (h : ∀ s, zhc M (k s)) : zhc M (zdi x k) := by
 cases x with
 | none => trivial
 | some s => exact h s

theorem zfk (M : Mem) (x : Option SV) : zhc M (zdz M x) := by cases x <;> simp [zdz, zhc]

section
variable {M : Mem}
theorem zu9 (c a b : SV) : zhc M (zvl c a b M) := by unfold zvl; split <;> first | rfl | trivial
theorem zsg (t : TypeId) (ps : List (Nat × SV)) : zhc M (zkb P t ps M) := by
 unfold zkb
 split <;> (try trivial)
 split <;> (try trivial) <;> (split <;> first | rfl | trivial)
theorem zu6 (t : TypeId) (a : SV) : zhc M (zil P t a M) := by
 unfold zil
 split <;> (try trivial)
 split <;> (try trivial)
 split <;> (try trivial) <;> (split <;> first | rfl | trivial)
theorem znf (a : SV) : zhc M (zvk P a M) := by
 unfold zvk
 split
 ·split
  ·split <;> first | rfl | trivial
  ·trivial
 ·unfold zmb; split <;> first | rfl | trivial
theorem zw6 (op : BinOp) (t : TypeId) (c : Bool) (a b : SV) : zhc M (zya P op t c a b M) := by
 unfold zya
 split
 ·split <;> first | rfl | trivial
 ·split
  ·exact zfk _ _
  ·exact zfk _ _
  ·split
   ·exact zfk _ _
   ·trivial
 ·exact zfk _ _
 ·split
  ·split <;> first | rfl | trivial
  ·split <;> first | rfl | trivial
  ·trivial
theorem zov (op : BinOp) (t : TypeId) (c : Bool) (a b : SV) : zhc M (zo7 P op t c a b M) := by
 unfold zo7
 split
 ·split <;> (try trivial)
  split <;> (try trivial) <;> (split <;> first | rfl | trivial)
 ·exact zw6 _ _ _ _ _
theorem zu2 (op : BinOp) (t : TypeId) (c : Bool) (a b : SV) : zhc M (zke P op t c a b M) := by
 unfold zke
 split
 ·split
  ·rfl
  ·exact zov _ _ _ _ _
 ·exact zov _ _ _ _ _
theorem zq7 (t : TypeId) (x k : SV) (ok : Bool) : zhc M (zh8 P t x k ok M) := by
 have lo : ∀ s f, zhc M (zlg M ok s f) := by intro s f; cases ok <;> rfl
 unfold zh8
 split <;> (try trivial)
 split <;> (try trivial)
 split
 ·split <;> first | exact lo _ _ | trivial
 ·split <;> (try trivial)
  split
  ·exact lo _ _
  ·split <;> first | exact lo _ _ | trivial
  ·trivial
 ·trivial
theorem zxn (op : UnOp) (a : SV) : zhc M (xUn op a M) := by unfold xUn; split <;> first | rfl | trivial
theorem zow (s d : TypeId) (a : SV) (h : ∀ e, cvK P s d ≠ some (.bytes e)) : zhc M (zh7 P s d a M) := by
 unfold zh7
 split
 ·split <;> first | rfl | trivial
 ·split <;> first | rfl | trivial
 ·rename_i e he
  exact absurd he (h e)
 ·split <;> (try trivial)
  split <;> (try trivial)
  split <;> (try trivial)
  split <;> first | rfl | trivial
 ·split <;> (try trivial)
  split <;> (try trivial)
  split <;> first | rfl | trivial
 ·trivial
theorem zne (s d : TypeId) (a : SV) (h : ∀ e, cvK P s d ≠ some (.bytes e)) : zhc M (zey P s d a M) := by
 unfold zey
 split
 ·exact zow _ _ _ h
 ·split
  ·rfl
  ·split
   ·split <;> first | rfl | trivial
   ·trivial
  ·trivial
 ·split
  ·rfl
  ·split
   ·split <;> first | rfl | trivial
   ·trivial
  ·trivial
theorem zw7 (t : TypeId) (x : SV) : zhc M (zyz P t x M) := by
 unfold zyz
 split <;> first | rfl | trivial | (split <;> first | rfl | trivial)
theorem zmj (x : SV) : zhc M (zgu x M) := by
 unfold zgu
 split <;> first | rfl | trivial | (split <;> first | rfl | trivial)
theorem zsi (t : TypeId) (a : SV) : zhc M (zn4 P t a M) := by unfold zn4; split <;> first | rfl | trivial
theorem zsk (t : TypeId) (x : SV) (a b c : Option SV) : zhc M (zft P t x a b c M) := by
 unfold zft
 split
 ·split <;> (try trivial)
  split <;> first | rfl | trivial
 ·split <;> (try trivial)
  split <;> first | rfl | trivial
 ·split <;> (try trivial)
  split <;> first | rfl | trivial
 ·split <;> (try trivial)
  split <;> (try trivial)
  split <;> (try rfl)
  split <;> first | rfl | trivial
 ·split <;> (try trivial)
  split <;> (try trivial)
  split <;> first | rfl | trivial
 ·split <;> (try trivial)
  split <;> (try trivial)
  split <;> first | rfl | trivial
 ·split <;> (try trivial) <;> (split <;> first | rfl | trivial)
 ·trivial
theorem zmh (t : TypeId) (k : Nat) (a : SV) : zhc M (zf9 P t k a M) := by
 unfold zf9
 split <;> (try trivial)
 split <;> first | rfl | trivial
theorem zsh (t : TypeId) (k : Nat) (a : SV) : zhc M (zn3 P t k a M) := by
 unfold zn3
 split <;> (try trivial)
 split <;> (try trivial)
 split <;> first | rfl | trivial
theorem zmi (t : TypeId) (a i : SV) : zhc M (zdr P t a i M) := by
 unfold zdr
 split <;> (try trivial) <;> (split <;> (try trivial)) <;> (split <;> first | rfl | trivial)
theorem zsj (t : TypeId) (a i : SV) : zhc M (zid P t a i M) := by
 unfold zid
 split <;> (try trivial) <;> (split <;> (try trivial)) <;> (split <;> (try trivial)) <;> (split <;> first | rfl | trivial)
theorem zox (k : Nat) (a : SV) : zhc M (zer k a M) := by
 unfold zer
 split <;> (try trivial)
 split <;> first | rfl | trivial
theorem zw8 (t : TypeId) (x : SV) : zhc M (zyb P t x M) := by
 unfold zyb
 split <;> first | rfl | trivial | (split <;> first | rfl | trivial)
theorem zu4 (t : TypeId) (x : SV) : zhc M (zoc P t x M) := by
 unfold zoc
 split
 ·split <;> first | rfl | trivial
 ·exact zw8 _ _
theorem zu8 (ts : List TypeId) (as : List SV) : zhc M (zeq P .min ts as M) := by
 show zhc M (zz1 as M)
 unfold zz1
 split <;> first | exact zfk _ _ | trivial
theorem zu7 (ts : List TypeId) (as : List SV) : zhc M (zeq P .max ts as M) := by
 show zhc M (zz0 as M)
 unfold zz0
 split <;> first | exact zfk _ _ | trivial
theorem zu3 (ts : List TypeId) (as : List SV) : zhc M (zeq P .cap ts as M) := by
 unfold zeq
 simp only
 split
 ·exact zw7 _ _
 ·trivial
theorem zl7 (ts : List TypeId) (as : List SV) : zhc M (zeq P .unsafeSliceData ts as M) := by
 unfold zeq
 simp only
 split
 ·exact zmj _
 ·trivial
theorem zu5 (ts : List TypeId) (as : List SV) : zhc M (zeq P .len ts as M) := by
 unfold zeq
 simp only
 split
 ·exact zu4 _ _
 ·trivial
end

theorem zos {M : Mem} {σ : Tree SV} {o : Oper} (h : zf0 P o.op = true) : zhc M (exec P M σ o) := by
 rw [zg9]
 obtain ⟨dst, op, type, pos, after, guard⟩ := o
 cases op with
 | move x => exact zdg fun s => rfl
 | assign x => exact zdg fun s => rfl
 | pick c a b => exact zdg fun s => zdg fun a => zdg fun b => zu9 _ _ _
 | build t ps => exact zdg fun s => zsg _ _
 | load t a => exact zdg fun s => zu6 _ _
 | nilCheck x => exact zdg fun s => znf _
 | binOp op t x y u => exact zdg fun a => zdg fun b => zu2 _ _ _ _ _
 | unOp op t x => exact zdg fun s => zxn _ _
 | convert s d x =>
  refine zdg fun a => zne _ _ _ fun e he => ?_
  simp only [zf0] at h
  rw [he] at h
  simp at h
 | makeInterface t x => exact zdg fun s => zsi _ _
 | makeFunc fn a b => exact zdg fun s => zdg fun s => rfl
 | slice t x lo hi mx => exact zdg fun s => zdg fun a => zdg fun b => zdg fun c => zsk _ _ _ _ _
 | fieldAddr t x k => exact zdg fun s => zmh _ _ _
 | field t x k => exact zdg fun s => zsh _ _ _
 | indexAddr t x i => exact zdg fun s => zdg fun a => zmi _ _ _
 | index t x i => exact zdg fun s => zdg fun a => zsj _ _ _
 | extract x k => exact zdg fun s => zox _ _
 | lookup t x k ok => exact zdg fun s => zdg fun s => zq7 _ _ _ _
 | call c =>
  obtain ⟨callee, as, ts⟩ := c
  cases callee with
  | builtin b => cases b <;> first | exact zdg fun s => zu5 _ _ | exact zdg fun s => zu8 _ _ | exact zdg fun s => zu7 _ _ | exact zdg fun s => zu3 _ _ | exact zdg fun s => zl7 _ _ | exact absurd h (by simp [zf0])
  | value f => exact absurd h (by simp [zf0])
  | invoke r n => exact absurd h (by simp [zf0])
 | _ => exact absurd h (by simp [zf0])

end Go.Ev

