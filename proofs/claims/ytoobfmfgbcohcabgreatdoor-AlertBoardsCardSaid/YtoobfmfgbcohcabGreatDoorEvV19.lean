/- A part of the small machine. -/
import Derived.Test.YtoobfmfgbcohcabGreatDoorEvW1
set_option linter.unusedVariables false
/- What an operation reads; operations that may wait. -/
namespace Go.Ev
open Go.RowKit
variable {P : Program}

/-- READS -/
def zow : Operand → List Nat
 | .tmp t => [t]
 | _ => []
def zkw (l : List Operand) : List Nat := l.flatMap zow
def zl1 (o : Op) : List Nat := zkw o.operands.toList
/-- All temporaries that an operation reads, its guard's among them. -/
def zi9 (all : Array Oper) (o : Oper) : List Nat :=
 (match o.guard with
  | none => []
  | some (j, _) => match (all[j]?).bind (·.dst) with
   | none => []
   | some d => [d]) ++ zl1 o.op

def zoh (l : List Nat) (σ σ' : Tree SV) : Prop := ∀ t ∈ l, σ.get (Pos.ofNat t) = σ'.get (Pos.ofNat t)

section
variable {M : Mem} {σ σ' : Tree SV}

theorem zpo {x : Operand} (h : zoh (zow x) σ σ') : arg M σ x = arg M σ' x := by
 cases x with
 | tmp t => exact h t (by simp [zow])
 | _ => rfl

theorem zpq {l : List Operand} (h : zoh (zkw l) σ σ') {x : Operand} (hx : x ∈ l) : zoh (zow x) σ σ' :=
 fun t ht => h t (List.mem_flatMap.2 ⟨x, hx, ht⟩)

theorem zk8 : ∀ {l : List Operand}, zoh (zkw l) σ σ' → args M σ l = args M σ' l
 | [], _ => rfl
 | a :: l, h => by
  show Option.rec (motive := fun _ => Option (List SV)) none (fun x => Option.rec (motive := fun _ => Option (List SV)) none (fun r => some (x :: r)) (args M σ l)) (arg M σ a) = Option.rec (motive := fun _ => Option (List SV)) none (fun x => Option.rec (motive := fun _ => Option (List SV)) none (fun r => some (x :: r)) (args M σ' l)) (arg M σ' a)
  rw [zpo (zpq h (List.mem_cons_self ..)), zk8 (fun t ht => h t (by simp only [zkw, List.flatMap_cons, List.mem_append]; exact .inr ht))]

theorem zkt : ∀ {l : List (Nat × Operand)}, zoh (zkw (l.map (·.2))) σ σ' → zj0 M σ l = zj0 M σ' l
 | [], _ => rfl
 | (i, a) :: l, h => by
  simp only [zj0]
  rw [zpo (zpq h (by simp)), zkt (fun t ht => h t (by simp only [zkw, List.map_cons, List.flatMap_cons, List.mem_append]; exact .inr ht))]

theorem zk6 {o : Oper} (h : zoh (zl1 o.op) σ σ') : exec P M σ o = exec P M σ' o := by
 rw [zkk, zkk]
 obtain ⟨dst, op, type, pos, after, guard⟩ := o
 have A : ∀ {x : Operand}, x ∈ op.operands.toList → arg M σ x = arg M σ' x := fun hx => zpo (zpq h hx)
 have AO : ∀ {x : Option Operand}, (∀ y, x = some y → y ∈ op.operands.toList) → ztl M σ x = ztl M σ' x := by
  intro x hx
  cases x with
  | none => rfl
  | some y => simp only [ztl]; rw [A (hx y rfl)]
 cases op with
 | move x => simp only [zic]; rw [A (by simp [Op.operands])]
 | assign x => simp only [zic]; rw [A (by simp [Op.operands])]
 | pick c a b => simp only [zic]; rw [A (x := c) (by simp [Op.operands]), A (x := a) (by simp [Op.operands]), A (x := b) (by simp [Op.operands])]
 | alloc e => rfl
 | box e x => simp only [zic]; rw [A (by simp [Op.operands])]
 | build t ps =>
  simp only [zic]
  rw [zkt (by simpa [zl1, Op.operands] using h)]
 | buildSlice t n ps =>
  simp only [zic]
  rw [zkt (by simpa [zl1, Op.operands] using h)]
 | load t a => simp only [zic]; rw [A (by simp [Op.operands])]
 | store t a x => simp only [zic]; rw [A (x := a) (by simp [Op.operands]), A (x := x) (by simp [Op.operands])]
 | nilCheck x => simp only [zic]; rw [A (by simp [Op.operands])]
 | binOp op t x y u => simp only [zic]; rw [A (x := x) (by simp [Op.operands]), A (x := y) (by simp [Op.operands])]
 | unOp op t x => simp only [zic]; rw [A (by simp [Op.operands])]
 | convert s d x => simp only [zic]; rw [A (by simp [Op.operands])]
 | makeInterface t x => simp only [zic]; rw [A (by simp [Op.operands])]
 | makeFunc fn a b =>
  simp only [zic]
  rw [zk8 (l := a.toList) (fun t ht => h t (by simp only [zl1, zkw, Op.operands, Array.toList_append, List.flatMap_append, List.mem_append]; exact .inl ht)),
   zk8 (l := b.toList) (fun t ht => h t (by simp only [zl1, zkw, Op.operands, Array.toList_append, List.flatMap_append, List.mem_append]; exact .inr ht))]
 | makeSlice t l c => simp only [zic]; rw [A (x := l) (by simp [Op.operands]), A (x := c) (by simp [Op.operands])]
 | slice t x lo hi mx =>
  simp only [zic]
  rw [A (x := x) (by simp [Op.operands]), AO (x := lo) (by rintro y rfl; simp [Op.operands]), AO (x := hi) (by rintro y rfl; simp [Op.operands]), AO (x := mx) (by rintro y rfl; simp [Op.operands])]
 | fieldAddr t x k => simp only [zic]; rw [A (by simp [Op.operands])]
 | field t x k => simp only [zic]; rw [A (by simp [Op.operands])]
 | indexAddr t x i => simp only [zic]; rw [A (x := x) (by simp [Op.operands]), A (x := i) (by simp [Op.operands])]
 | index t x i => simp only [zic]; rw [A (x := x) (by simp [Op.operands]), A (x := i) (by simp [Op.operands])]
 | extract x k => simp only [zic]; rw [A (by simp [Op.operands])]
 | makeMap t r => cases r <;> rfl
 | lookup t x k ok => simp only [zic]; rw [A (x := x) (by simp [Op.operands]), A (x := k) (by simp [Op.operands])]
 | mapUpdate t x k v => simp only [zic]; rw [A (x := x) (by simp [Op.operands]), A (x := k) (by simp [Op.operands]), A (x := v) (by simp [Op.operands])]
 | insert t x k v => simp only [zic]; rw [A (x := x) (by simp [Op.operands]), A (x := k) (by simp [Op.operands]), A (x := v) (by simp [Op.operands])]
 | call c =>
  obtain ⟨callee, as, ts⟩ := c
  cases callee with
  | builtin b =>
   simp only [zic]
   rw [zk8 (by simpa [zl1, Op.operands, Call.operands] using h)]
  | value f =>
   simp only [zic]
   rw [A (x := f) (by simp [Op.operands, Call.operands]), zk8 (fun t ht => h t (by simp only [zl1, zkw, Op.operands, Call.operands, Array.toList_append, List.flatMap_append, List.mem_append]; exact .inr ht))]
  | invoke r n =>
   simp only [zic]
   rw [A (x := r) (by simp [Op.operands, Call.operands]), zk8 (fun t ht => h t (by simp only [zl1, zkw, Op.operands, Call.operands, Array.toList_append, List.flatMap_append, List.mem_append]; exact .inr ht))]
 | _ => rfl

theorem zjq {all : Array Oper} {o : Oper} (h : zoh (zi9 all o) σ σ') : zil all σ o = zil all σ' o := by
 unfold zil
 split
 ·rfl
 ·rename_i j want hg
  split
  ·rfl
  ·rename_i d hd
   rw [h d (by simp only [zi9, hg, hd]; simp)]

end

/-- OPERATIONS THAT LEAVE MEMORY AS IT IS. -/
noncomputable def zla (P : Program) : Op → Bool
 | .convert s d _ => match cvK P s d with
  | some (.bytes _) => false
  | _ => true
 | .move _ | .assign _ | .pick .. | .load .. | .binOp .. | .unOp .. | .makeInterface .. | .makeFunc .. | .fieldAddr .. | .field .. | .indexAddr .. | .index .. | .extract .. | .slice .. | .nilCheck _ | .build .. | .lookup .. => true
 | .call { callee := .builtin .len, .. } => true
 | .call { callee := .builtin .min, .. } => true
 | .call { callee := .builtin .max, .. } => true
 | .call { callee := .builtin .cap, .. } => true
 | .call { callee := .builtin .unsafeSliceData, .. } => true
 | _ => false

/-- It gives a value, if anything, and the memory as it was. -/
def zmd (M : Mem) : Out → Prop
 | .bad => True
 | .val _ M' => M' = M
 | .enter _ _ _ => False
 | .round _ _ _ => False

theorem zi4 {M : Mem} {α : Type} {x : Option α} {k : α → Out} (h : ∀ s, zmd M (k s)) : zmd M (zi6 x k) := by
 cases x with
 | none => trivial
 | some s => exact h s

theorem zjp (M : Mem) (x : Option SV) : zmd M (ziy M x) := by cases x <;> simp [ziy, zmd]

section
variable {M : Mem}
theorem zwn (c a b : SV) : zmd M (zw9 c a b M) := by unfold zw9; split <;> first | rfl | trivial
theorem zvv (t : TypeId) (ps : List (Nat × SV)) : zmd M (zmk P t ps M) := by
 unfold zmk
 split <;> (try trivial)
 split <;> (try trivial) <;> (split <;> first | rfl | trivial)
theorem zxw (t : TypeId) (a : SV) : zmd M (zmq P t a M) := by
 unfold zmq
 split <;> (try trivial)
 split <;> (try trivial)
 split <;> (try trivial) <;> (split <;> first | rfl | trivial)
theorem zr1 (a : SV) : zmd M (zvf P a M) := by
 unfold zvf
 split
 ·split
  ·split <;> first | rfl | trivial
  ·trivial
 ·unfold zpc; split <;> first | rfl | trivial
theorem zyj (op : BinOp) (t : TypeId) (c : Bool) (a b : SV) : zmd M (y0k P op t c a b M) := by
 unfold y0k
 split
 ·split <;> first | rfl | trivial
 ·split
  ·exact zjp _ _
  ·exact zjp _ _
  ·split
   ·exact zjp _ _
   ·trivial
 ·exact zjp _ _
 ·split
  ·split <;> first | rfl | trivial
  ·split <;> first | rfl | trivial
  ·trivial
theorem zsz (op : BinOp) (t : TypeId) (c : Bool) (a b : SV) : zmd M (zrm P op t c a b M) := by
 unfold zrm
 split
 ·split <;> (try trivial)
  split <;> (try trivial) <;> (split <;> first | rfl | trivial)
 ·exact zyj _ _ _ _ _
theorem zw5 (op : BinOp) (t : TypeId) (c : Bool) (a b : SV) : zmd M (zmg P op t c a b M) := by
 unfold zmg
 split
 ·split
  ·rfl
  ·exact zsz _ _ _ _ _
 ·exact zsz _ _ _ _ _
theorem zu6 (t : TypeId) (x k : SV) (ok : Bool) : zmd M (zrx P t x k ok M) := trivial

theorem zzv (op : UnOp) (a : SV) : zmd M (xUn op a M) := by unfold xUn; split <;> first | rfl | trivial
theorem zs9 (s d : TypeId) (a : SV) (h : ∀ e, cvK P s d ≠ some (.bytes e)) : zmd M (zkp P s d a M) := by
 unfold zkp
 split
 ·split <;> first | rfl | trivial
 ·split <;> first | rfl | trivial
 ·rename_i e he
  exact absurd he (h e)
 ·split <;> (try trivial)
  split <;> (try trivial)
  split <;> (try trivial)
  split <;> first | rfl | trivial
 ·split <;> (try trivial)
  split <;> (try trivial)
  split <;> first | rfl | trivial
 ·trivial
theorem zrd (s d : TypeId) (a : SV) (h : ∀ e, cvK P s d ≠ some (.bytes e)) : zmd M (ziq P s d a M) := by
 unfold ziq
 split
 ·exact zs9 _ _ _ h
 ·split
  ·rfl
  ·split
   ·split <;> first | rfl | trivial
   ·trivial
  ·trivial
 ·split
  ·rfl
  ·split
   ·split <;> first | rfl | trivial
   ·trivial
  ·trivial
theorem zyg (t : TypeId) (x : SV) : zmd M (y16 P t x M) := by
 unfold y16
 split <;> first | rfl | trivial | (split <;> first | rfl | trivial)
theorem zq0 (x : SV) : zmd M (zj8 x M) := by
 unfold zj8
 split <;> first | rfl | trivial | (split <;> first | rfl | trivial)
theorem zw3 (t : TypeId) (a : SV) : zmd M (zqh P t a M) := by unfold zqh; split <;> first | rfl | trivial
theorem zvy (t : TypeId) (x : SV) (a b c : Option SV) : zmd M (zk2 P t x a b c M) := by
 unfold zk2
 split
 ·split <;> (try trivial)
  split <;> first | rfl | trivial
 ·split <;> (try trivial)
  split <;> first | rfl | trivial
 ·split <;> (try trivial)
  split <;> first | rfl | trivial
 ·split <;> (try trivial)
  split <;> (try trivial)
  split <;> (try rfl)
  split <;> first | rfl | trivial
 ·split <;> (try trivial)
  split <;> (try trivial)
  split <;> first | rfl | trivial
 ·split <;> (try trivial)
  split <;> (try trivial)
  split <;> first | rfl | trivial
 ·split <;> (try trivial) <;> (split <;> first | rfl | trivial)
 ·trivial
theorem zq5 (t : TypeId) (k : Nat) (a : SV) : zmd M (zjg P t k a M) := by
 unfold zjg
 split <;> (try trivial)
 split <;> first | rfl | trivial
theorem zw2 (t : TypeId) (k : Nat) (a : SV) : zmd M (zq9 P t k a M) := by
 unfold zq9
 split <;> (try trivial)
 split <;> (try trivial)
 split <;> first | rfl | trivial
theorem zq3 (t : TypeId) (a i : SV) : zmd M (zih P t a i M) := by
 unfold zih
 split <;> (try trivial) <;> (split <;> (try trivial)) <;> (split <;> first | rfl | trivial)
theorem zw1 (t : TypeId) (a i : SV) : zmd M (zmh P t a i M) := by
 unfold zmh
 split <;> (try trivial) <;> (split <;> (try trivial)) <;> (split <;> (try trivial)) <;> (split <;> first | rfl | trivial)
theorem zsh (k : Nat) (a : SV) : zmd M (zj6 k a M) := by
 unfold zj6
 split <;> (try trivial)
 split <;> first | rfl | trivial
theorem zz2 (t : TypeId) (x : SV) : zmd M (zzs P t x M) := by
 unfold zzs
 split <;> first | rfl | trivial | (split <;> first | rfl | trivial)
theorem zwf (t : TypeId) (x : SV) : zmd M (zrp P t x M) := by
 unfold zrp
 split
 ·split <;> first | rfl | trivial
 ·exact zz2 _ _
theorem zx6 (ts : List TypeId) (as : List SV) : zmd M (zj5 P .min ts as M) := by
 show zmd M (y0l as M)
 unfold y0l
 split <;> first | exact zjp _ _ | trivial
theorem zxp (ts : List TypeId) (as : List SV) : zmd M (zj5 P .max ts as M) := by
 show zmd M (y0v as M)
 unfold y0v
 split <;> first | exact zjp _ _ | trivial
theorem zwe (ts : List TypeId) (as : List SV) : zmd M (zj5 P .cap ts as M) := by
 unfold zj5
 simp only
 split
 ·exact zyg _ _
 ·trivial
theorem zpi (ts : List TypeId) (as : List SV) : zmd M (zj5 P .unsafeSliceData ts as M) := by
 unfold zj5
 simp only
 split
 ·exact zq0 _
 ·trivial
theorem zwx (ts : List TypeId) (as : List SV) : zmd M (zj5 P .len ts as M) := by
 unfold zj5
 simp only
 split
 ·exact zwf _ _
 ·trivial
end

theorem zwd {M : Mem} {σ : Tree SV} {o : Oper} (h : zla P o.op = true) : zmd M (exec P M σ o) := by
 rw [zkk]
 obtain ⟨dst, op, type, pos, after, guard⟩ := o
 cases op with
 | move x => exact zi4 fun s => rfl
 | assign x => exact zi4 fun s => rfl
 | pick c a b => exact zi4 fun s => zi4 fun a => zi4 fun b => zwn _ _ _
 | build t ps => exact zi4 fun s => zvv _ _
 | load t a => exact zi4 fun s => zxw _ _
 | nilCheck x => exact zi4 fun s => zr1 _
 | binOp op t x y u => exact zi4 fun a => zi4 fun b => zw5 _ _ _ _ _
 | unOp op t x => exact zi4 fun s => zzv _ _
 | convert s d x =>
  refine zi4 fun a => zrd _ _ _ fun e he => ?_
  simp only [zla] at h
  rw [he] at h
  simp at h
 | makeInterface t x => exact zi4 fun s => zw3 _ _
 | makeFunc fn a b => exact zi4 fun s => zi4 fun s => rfl
 | slice t x lo hi mx => exact zi4 fun s => zi4 fun a => zi4 fun b => zi4 fun c => zvy _ _ _ _ _
 | fieldAddr t x k => exact zi4 fun s => zq5 _ _ _
 | field t x k => exact zi4 fun s => zw2 _ _ _
 | indexAddr t x i => exact zi4 fun s => zi4 fun a => zq3 _ _ _
 | index t x i => exact zi4 fun s => zi4 fun a => zw1 _ _ _
 | extract x k => exact zi4 fun s => zsh _ _
 | lookup t x k ok => exact zi4 fun s => zi4 fun s => zu6 _ _ _ _
 | call c =>
  obtain ⟨callee, as, ts⟩ := c
  cases callee with
  | builtin b => cases b <;> first | exact zi4 fun s => zwx _ _ | exact zi4 fun s => zx6 _ _ | exact zi4 fun s => zxp _ _ | exact zi4 fun s => zwe _ _ | exact zi4 fun s => zpi _ _ | exact absurd h (by simp [zla])
  | value f => exact absurd h (by simp [zla])
  | invoke r n => exact absurd h (by simp [zla])
 | _ => exact absurd h (by simp [zla])

end Go.Ev

