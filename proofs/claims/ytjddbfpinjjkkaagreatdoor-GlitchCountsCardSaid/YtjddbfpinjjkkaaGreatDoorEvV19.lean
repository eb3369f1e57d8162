/- A part of the small machine. -/
import Derived.Test.YtjddbfpinjjkkaaGreatDoorEvW1
set_option linter.unusedVariables false
namespace Go.Ev
open Go.RowKit
variable {P : Program}
def zge : Operand → List Nat
 | .tmp t => [t]
 | _ => []
def zbe (l : List Operand) : List Nat := l.flatMap zge
def zbf (o : Op) : List Nat := zbe o.operands.toList
def z8d (all : Array Oper) (o : Oper) : List Nat :=
 (match o.guard with
  | none => []
  | some (j, _) => match (all[j]?).bind (·.dst) with
   | none => []
   | some d => [d]) ++ zbf o.op
def zdb (l : List Nat) (σ σ' : Tree SV) : Prop := ∀ t ∈ l, σ.get (Pos.ofNat t) = σ'.get (Pos.ofNat t)
section
variable {M : Mem} {σ σ' : Tree SV}
theorem zfb {x : Operand} (h : zdb (zge x) σ σ') : arg M σ x = arg M σ' x := by
 cases x with
 | tmp t => exact h t (by simp [zge])
 | _ => rfl
theorem zfa {l : List Operand} (h : zdb (zbe l) σ σ') {x : Operand} (hx : x ∈ l) : zdb (zge x) σ σ' :=
 fun t ht => h t (List.mem_flatMap.2 ⟨x, hx, ht⟩)
theorem zan : ∀ {l : List Operand}, zdb (zbe l) σ σ' → args M σ l = args M σ' l
 | [], _ => rfl
 | a :: l, h => by
  show Option.rec (motive := fun _ => Option (List SV)) none (fun x => Option.rec (motive := fun _ => Option (List SV)) none (fun r => some (x :: r)) (args M σ l)) (arg M σ a) = Option.rec (motive := fun _ => Option (List SV)) none (fun x => Option.rec (motive := fun _ => Option (List SV)) none (fun r => some (x :: r)) (args M σ' l)) (arg M σ' a)
  rw [zfb (zfa h (List.mem_cons_self ..)), zan (fun t ht => h t (by simp only [zbe, List.flatMap_cons, List.mem_append]; exact .inr ht))]
theorem zb5 : ∀ {l : List (Nat × Operand)}, zdb (zbe (l.map (·.2))) σ σ' → z97 M σ l = z97 M σ' l
 | [], _ => rfl
 | (i, a) :: l, h => by
  simp only [z97]
  rw [zfb (zfa h (by simp)), zb5 (fun t ht => h t (by simp only [zbe, List.map_cons, List.flatMap_cons, List.mem_append]; exact .inr ht))]
theorem z9w {o : Oper} (h : zdb (zbf o.op) σ σ') : exec P M σ o = exec P M σ' o := by
 rw [zaz, zaz]
 obtain ⟨dst, op, type, pos, after, guard⟩ := o
 have A : ∀ {x : Operand}, x ∈ op.operands.toList → arg M σ x = arg M σ' x := fun hx => zfb (zfa h hx)
 have AO : ∀ {x : Option Operand}, (∀ y, x = some y → y ∈ op.operands.toList) → zkf M σ x = zkf M σ' x := by
  intro x hx
  cases x with
  | none => rfl
  | some y => simp only [zkf]; rw [A (hx y rfl)]
 cases op with
 | move x => simp only [z8i]; rw [A (by simp [Op.operands])]
 | assign x => simp only [z8i]; rw [A (by simp [Op.operands])]
 | pick c a b => simp only [z8i]; rw [A (x := c) (by simp [Op.operands]), A (x := a) (by simp [Op.operands]), A (x := b) (by simp [Op.operands])]
 | alloc e => rfl
 | box e x => simp only [z8i]; rw [A (by simp [Op.operands])]
 | build t ps =>
  simp only [z8i]
  rw [zb5 (by simpa [zbf, Op.operands] using h)]
 | buildSlice t n ps =>
  simp only [z8i]
  rw [zb5 (by simpa [zbf, Op.operands] using h)]
 | load t a => simp only [z8i]; rw [A (by simp [Op.operands])]
 | store t a x => simp only [z8i]; rw [A (x := a) (by simp [Op.operands]), A (x := x) (by simp [Op.operands])]
 | nilCheck x => simp only [z8i]; rw [A (by simp [Op.operands])]
 | binOp op t x y u => simp only [z8i]; rw [A (x := x) (by simp [Op.operands]), A (x := y) (by simp [Op.operands])]
 | unOp op t x => simp only [z8i]; rw [A (by simp [Op.operands])]
 | convert s d x => simp only [z8i]; rw [A (by simp [Op.operands])]
 | makeInterface t x => simp only [z8i]; rw [A (by simp [Op.operands])]
 | makeFunc fn a b =>
  simp only [z8i]
  rw [zan (l := a.toList) (fun t ht => h t (by simp only [zbf, zbe, Op.operands, Array.toList_append, List.flatMap_append, List.mem_append]; exact .inl ht)),
   zan (l := b.toList) (fun t ht => h t (by simp only [zbf, zbe, Op.operands, Array.toList_append, List.flatMap_append, List.mem_append]; exact .inr ht))]
 | makeSlice t l c => simp only [z8i]; rw [A (x := l) (by simp [Op.operands]), A (x := c) (by simp [Op.operands])]
 | slice t x lo hi mx =>
  simp only [z8i]
  rw [A (x := x) (by simp [Op.operands]), AO (x := lo) (by rintro y rfl; simp [Op.operands]), AO (x := hi) (by rintro y rfl; simp [Op.operands]), AO (x := mx) (by rintro y rfl; simp [Op.operands])]
 | fieldAddr t x k => simp only [z8i]; rw [A (by simp [Op.operands])]
 | field t x k => simp only [z8i]; rw [A (by simp [Op.operands])]
 | indexAddr t x i => simp only [z8i]; rw [A (x := x) (by simp [Op.operands]), A (x := i) (by simp [Op.operands])]
 | index t x i => simp only [z8i]; rw [A (x := x) (by simp [Op.operands]), A (x := i) (by simp [Op.operands])]
 | extract x k => simp only [z8i]; rw [A (by simp [Op.operands])]
 | makeMap t r => cases r <;> rfl
 | lookup t x k ok => simp only [z8i]; rw [A (x := x) (by simp [Op.operands]), A (x := k) (by simp [Op.operands])]
 | mapUpdate t x k v => simp only [z8i]; rw [A (x := x) (by simp [Op.operands]), A (x := k) (by simp [Op.operands]), A (x := v) (by simp [Op.operands])]
 | insert t x k v => simp only [z8i]; rw [A (x := x) (by simp [Op.operands]), A (x := k) (by simp [Op.operands]), A (x := v) (by simp [Op.operands])]
 | call c =>
  obtain ⟨callee, as, ts⟩ := c
  cases callee with
  | builtin b =>
   simp only [z8i]
   rw [zan (by simpa [zbf, Op.operands, Call.operands] using h)]
  | value f =>
   simp only [z8i]
   rw [A (x := f) (by simp [Op.operands, Call.operands]), zan (fun t ht => h t (by simp only [zbf, zbe, Op.operands, Call.operands, Array.toList_append, List.flatMap_append, List.mem_append]; exact .inr ht))]
  | invoke r n =>
   simp only [z8i]
   rw [A (x := r) (by simp [Op.operands, Call.operands]), zan (fun t ht => h t (by simp only [zbf, zbe, Op.operands, Call.operands, Array.toList_append, List.flatMap_append, List.mem_append]; exact .inr ht))]
 | _ => rfl
theorem z9c {all : Array Oper} {o : Oper} (h : zdb (z8d all o) σ σ') : z8e all σ o = z8e all σ' o := by
 unfold z8e
 split
 ·rfl
 ·rename_i j want hg
  split
  ·rfl
  ·rename_i d hd
   rw [h d (by simp only [z8d, hg, hd]; simp)]
end
noncomputable def z9r (P : Program) : Op → Bool
 | .convert s d _ => match cvK P s d with
  | some (.bytes _) => false
  | _ => true
 | .move _ | .assign _ | .pick .. | .load .. | .binOp .. | .unOp .. | .makeInterface .. | .makeFunc .. | .fieldAddr .. | .field .. | .indexAddr .. | .index .. | .extract .. | .slice .. | .nilCheck _ | .build .. | .lookup .. => true
 | .call { callee := .builtin .len, .. } => true
 | .call { callee := .builtin .min, .. } => true
 | .call { callee := .builtin .max, .. } => true
 | .call { callee := .builtin .cap, .. } => true
 | .call { callee := .builtin .unsafeSliceData, .. } => true
 | _ => false
def zbz (M : Mem) : Out → Prop
 | .bad => True
 | .val _ M' => M' = M
 | .enter _ _ _ => False
 | .round _ _ _ => False
theorem z84 {M : Mem} {α : Type} {x : Option α} {k : α → Out} (h : ∀ s, zbz M (k s)) : zbz M (z87 x k) := by
 cases x with
 | none => trivial
 | some s => exact h s
theorem zaa (M : Mem) (x : Option SV) : zbz M (z8r M x) := by cases x <;> simp [z8r, zbz]
section
variable {M : Mem}
theorem zol (c a b : SV) : zbz M (zq1 c a b M) := by unfold zq1; split <;> first | rfl | trivial
theorem zmw (t : TypeId) (ps : List (Nat × SV)) : zbz M (zev P t ps M) := by
 unfold zev
 split <;> (try trivial)
 split <;> (try trivial) <;> (split <;> first | rfl | trivial)
theorem zoi (t : TypeId) (a : SV) : zbz M (zel P t a M) := by
 unfold zel
 split <;> (try trivial)
 split <;> (try trivial)
 split <;> (try trivial) <;> (split <;> first | rfl | trivial)
theorem zi3 (a : SV) : zbz M (znm P a M) := by
 unfold znm
 split
 ·split
  ·split <;> first | rfl | trivial
  ·trivial
 ·unfold zgs; split <;> first | rfl | trivial
theorem zqo (op : BinOp) (t : TypeId) (c : Bool) (a b : SV) : zbz M (zru P op t c a b M) := by
 unfold zru
 split
 ·split <;> first | rfl | trivial
 ·split
  ·exact zaa _ _
  ·exact zaa _ _
  ·split
   ·exact zaa _ _
   ·trivial
 ·exact zaa _ _
 ·split
  ·split <;> first | rfl | trivial
  ·split <;> first | rfl | trivial
  ·trivial
theorem zjd (op : BinOp) (t : TypeId) (c : Bool) (a b : SV) : zbz M (zh5 P op t c a b M) := by
 unfold zh5
 split
 ·split <;> (try trivial)
  split <;> (try trivial) <;> (split <;> first | rfl | trivial)
 ·exact zqo _ _ _ _ _
theorem zoe (op : BinOp) (t : TypeId) (c : Bool) (a b : SV) : zbz M (ze0 P op t c a b M) := by
 unfold ze0
 split
 ·split
  ·rfl
  ·exact zjd _ _ _ _ _
 ·exact zjd _ _ _ _ _
theorem zkp (t : TypeId) (x k : SV) (ok : Bool) : zbz M (zbv P t x k ok M) := by
 have lo : ∀ s f, zbz M (zfw M ok s f) := by intro s f; cases ok <;> rfl
 unfold zbv
 split <;> (try trivial)
 split <;> (try trivial)
 split
 ·split <;> first | exact lo _ _ | trivial
 ·split <;> (try trivial)
  split
  ·exact lo _ _
  ·split <;> first | exact lo _ _ | trivial
  ·trivial
 ·trivial
theorem zs6 (op : UnOp) (a : SV) : zbz M (xUn op a M) := by unfold xUn; split <;> first | rfl | trivial
theorem zje (s d : TypeId) (a : SV) (h : ∀ e, cvK P s d ≠ some (.bytes e)) : zbz M (zbu P s d a M) := by
 unfold zbu
 split
 ·split <;> first | rfl | trivial
 ·split <;> first | rfl | trivial
 ·rename_i e he
  exact absurd he (h e)
 ·split <;> (try trivial)
  split <;> (try trivial)
  split <;> (try trivial)
  split <;> first | rfl | trivial
 ·split <;> (try trivial)
  split <;> (try trivial)
  split <;> first | rfl | trivial
 ·trivial
theorem zi2 (s d : TypeId) (a : SV) (h : ∀ e, cvK P s d ≠ some (.bytes e)) : zbz M (z9o P s d a M) := by
 unfold z9o
 split
 ·exact zje _ _ _ h
 ·split
  ·rfl
  ·split
   ·split <;> first | rfl | trivial
   ·trivial
  ·trivial
 ·split
  ·rfl
  ·split
   ·split <;> first | rfl | trivial
   ·trivial
  ·trivial
theorem zqp (t : TypeId) (x : SV) : zbz M (ztk P t x M) := by
 unfold ztk
 split <;> first | rfl | trivial | (split <;> first | rfl | trivial)
theorem zh1 (x : SV) : zbz M (zbh x M) := by
 unfold zbh
 split <;> first | rfl | trivial | (split <;> first | rfl | trivial)
theorem zmy (t : TypeId) (a : SV) : zbz M (zhq P t a M) := by unfold zhq; split <;> first | rfl | trivial
theorem zn0 (t : TypeId) (x : SV) (a b c : Option SV) : zbz M (zal P t x a b c M) := by
 unfold zal
 split
 ·split <;> (try trivial)
  split <;> first | rfl | trivial
 ·split <;> (try trivial)
  split <;> first | rfl | trivial
 ·split <;> (try trivial)
  split <;> first | rfl | trivial
 ·split <;> (try trivial)
  split <;> (try trivial)
  split <;> (try rfl)
  split <;> first | rfl | trivial
 ·split <;> (try trivial)
  split <;> (try trivial)
  split <;> first | rfl | trivial
 ·split <;> (try trivial)
  split <;> (try trivial)
  split <;> first | rfl | trivial
 ·split <;> (try trivial) <;> (split <;> first | rfl | trivial)
 ·trivial
theorem zgz (t : TypeId) (k : Nat) (a : SV) : zbz M (za0 P t k a M) := by
 unfold za0
 split <;> (try trivial)
 split <;> first | rfl | trivial
theorem zmx (t : TypeId) (k : Nat) (a : SV) : zbz M (zhp P t k a M) := by
 unfold zhp
 split <;> (try trivial)
 split <;> (try trivial)
 split <;> first | rfl | trivial
theorem zh0 (t : TypeId) (a i : SV) : zbz M (z8h P t a i M) := by
 unfold z8h
 split <;> (try trivial) <;> (split <;> (try trivial)) <;> (split <;> first | rfl | trivial)
theorem zmz (t : TypeId) (a i : SV) : zbz M (zhr P t a i M) := by
 unfold zhr
 split <;> (try trivial) <;> (split <;> (try trivial)) <;> (split <;> (try trivial)) <;> (split <;> first | rfl | trivial)
theorem zjf (k : Nat) (a : SV) : zbz M (z9f k a M) := by
 unfold z9f
 split <;> (try trivial)
 split <;> first | rfl | trivial
theorem zqq (t : TypeId) (x : SV) : zbz M (zss P t x M) := by
 unfold zss
 split <;> first | rfl | trivial | (split <;> first | rfl | trivial)
theorem zog (t : TypeId) (x : SV) : zbz M (ziw P t x M) := by
 unfold ziw
 split
 ·split <;> first | rfl | trivial
 ·exact zqq _ _
theorem zok (ts : List TypeId) (as : List SV) : zbz M (z9e P .min ts as M) := by
 show zbz M (ztm as M)
 unfold ztm
 split <;> first | exact zaa _ _ | trivial
theorem zoj (ts : List TypeId) (as : List SV) : zbz M (z9e P .max ts as M) := by
 show zbz M (ztl as M)
 unfold ztl
 split <;> first | exact zaa _ _ | trivial
theorem zof (ts : List TypeId) (as : List SV) : zbz M (z9e P .cap ts as M) := by
 unfold z9e
 simp only
 split
 ·exact zqp _ _
 ·trivial
theorem zfo (ts : List TypeId) (as : List SV) : zbz M (z9e P .unsafeSliceData ts as M) := by
 unfold z9e
 simp only
 split
 ·exact zh1 _
 ·trivial
theorem zoh (ts : List TypeId) (as : List SV) : zbz M (z9e P .len ts as M) := by
 unfold z9e
 simp only
 split
 ·exact zog _ _
 ·trivial
end
theorem zjb {M : Mem} {σ : Tree SV} {o : Oper} (h : z9r P o.op = true) : zbz M (exec P M σ o) := by
 rw [zaz]
 obtain ⟨dst, op, type, pos, after, guard⟩ := o
 cases op with
 | move x => exact z84 fun s => rfl
 | assign x => exact z84 fun s => rfl
 | pick c a b => exact z84 fun s => z84 fun a => z84 fun b => zol _ _ _
 | build t ps => exact z84 fun s => zmw _ _
 | load t a => exact z84 fun s => zoi _ _
 | nilCheck x => exact z84 fun s => zi3 _
 | binOp op t x y u => exact z84 fun a => z84 fun b => zoe _ _ _ _ _
 | unOp op t x => exact z84 fun s => zs6 _ _
 | convert s d x =>
  refine z84 fun a => zi2 _ _ _ fun e he => ?_
  simp only [z9r] at h
  rw [he] at h
  simp at h
 | makeInterface t x => exact z84 fun s => zmy _ _
 | makeFunc fn a b => exact z84 fun s => z84 fun s => rfl
 | slice t x lo hi mx => exact z84 fun s => z84 fun a => z84 fun b => z84 fun c => zn0 _ _ _ _ _
 | fieldAddr t x k => exact z84 fun s => zgz _ _ _
 | field t x k => exact z84 fun s => zmx _ _ _
 | indexAddr t x i => exact z84 fun s => z84 fun a => zh0 _ _ _
 | index t x i => exact z84 fun s => z84 fun a => zmz _ _ _
 | extract x k => exact z84 fun s => zjf _ _
 | lookup t x k ok => exact z84 fun s => z84 fun s => zkp _ _ _ _
 | call c =>
  obtain ⟨callee, as, ts⟩ := c
  cases callee with
  | builtin b => cases b <;> first | exact z84 fun s => zoh _ _ | exact z84 fun s => zok _ _ | exact z84 fun s => zoj _ _ | exact z84 fun s => zof _ _ | exact z84 fun s => zfo _ _ | exact absurd h (by simp [z9r])
  | value f => exact absurd h (by simp [z9r])
  | invoke r n => exact absurd h (by simp [z9r])
 | _ => exact absurd h (by simp [z9r])
end Go.Ev
