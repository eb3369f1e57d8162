/- A part of the small machine. -/
import Derived.Test.YtjddbfpinjjkkabGreatDoorEvW1
set_option linter.unusedVariables false
namespace Go.Ev
open Go.RowKit
variable {P : Program}
def readsX : Operand → List Nat
  | .tmp t => [t]
  | _ => []
def readsL (l : List Operand) : List Nat := l.flatMap readsX
def readsO (o : Op) : List Nat := readsL o.operands.toList
def readsOf (all : Array Oper) (o : Oper) : List Nat :=
  (match o.guard with
    | none => []
    | some (j, _) => match (all[j]?).bind (·.dst) with
      | none => []
      | some d => [d]) ++ readsO o.op
def Agree (l : List Nat) (σ σ' : Tree SV) : Prop := ∀ t ∈ l, σ.get (Pos.ofNat t) = σ'.get (Pos.ofNat t)
section
variable {M : Mem} {σ σ' : Tree SV}
theorem arg_agree {x : Operand} (h : Agree (readsX x) σ σ') : arg M σ x = arg M σ' x := by
  cases x with
  | tmp t => exact h t (by simp [readsX])
  | _ => rfl
theorem agree_mem {l : List Operand} (h : Agree (readsL l) σ σ') {x : Operand} (hx : x ∈ l) : Agree (readsX x) σ σ' :=
  fun t ht => h t (List.mem_flatMap.2 ⟨x, hx, ht⟩)
theorem args_agree : ∀ {l : List Operand}, Agree (readsL l) σ σ' → args M σ l = args M σ' l
  | [], _ => rfl
  | a :: l, h => by
    show Option.rec (motive := fun _ => Option (List SV)) none (fun x => Option.rec (motive := fun _ => Option (List SV)) none (fun r => some (x :: r)) (args M σ l)) (arg M σ a) = Option.rec (motive := fun _ => Option (List SV)) none (fun x => Option.rec (motive := fun _ => Option (List SV)) none (fun r => some (x :: r)) (args M σ' l)) (arg M σ' a)
    rw [arg_agree (agree_mem h (List.mem_cons_self ..)), args_agree (fun t ht => h t (by simp only [readsL, List.flatMap_cons, List.mem_append]; exact .inr ht))]
theorem partArgs_agree : ∀ {l : List (Nat × Operand)}, Agree (readsL (l.map (·.2))) σ σ' → partArgs M σ l = partArgs M σ' l
  | [], _ => rfl
  | (i, a) :: l, h => by
    simp only [partArgs]
    rw [arg_agree (agree_mem h (by simp)), partArgs_agree (fun t ht => h t (by simp only [readsL, List.map_cons, List.flatMap_cons, List.mem_append]; exact .inr ht))]
theorem exec_agree {o : Oper} (h : Agree (readsO o.op) σ σ') : exec P M σ o = exec P M σ' o := by
  rw [exec_old, exec_old]
  obtain ⟨dst, op, type, pos, after, guard⟩ := o
  have A : ∀ {x : Operand}, x ∈ op.operands.toList → arg M σ x = arg M σ' x := fun hx => arg_agree (agree_mem h hx)
  have AO : ∀ {x : Option Operand}, (∀ y, x = some y → y ∈ op.operands.toList) → argO M σ x = argO M σ' x := by
    intro x hx
    cases x with
    | none => rfl
    | some y => simp only [argO]; rw [A (hx y rfl)]
  cases op with
  | move x => simp only [execOld]; rw [A (by simp [Op.operands])]
  | assign x => simp only [execOld]; rw [A (by simp [Op.operands])]
  | pick c a b => simp only [execOld]; rw [A (x := c) (by simp [Op.operands]), A (x := a) (by simp [Op.operands]), A (x := b) (by simp [Op.operands])]
  | alloc e => rfl
  | box e x => simp only [execOld]; rw [A (by simp [Op.operands])]
  | build t ps =>
    simp only [execOld]
    rw [partArgs_agree (by simpa [readsO, Op.operands] using h)]
  | buildSlice t n ps =>
    simp only [execOld]
    rw [partArgs_agree (by simpa [readsO, Op.operands] using h)]
  | load t a => simp only [execOld]; rw [A (by simp [Op.operands])]
  | store t a x => simp only [execOld]; rw [A (x := a) (by simp [Op.operands]), A (x := x) (by simp [Op.operands])]
  | nilCheck x => simp only [execOld]; rw [A (by simp [Op.operands])]
  | binOp op t x y u => simp only [execOld]; rw [A (x := x) (by simp [Op.operands]), A (x := y) (by simp [Op.operands])]
  | unOp op t x => simp only [execOld]; rw [A (by simp [Op.operands])]
  | convert s d x => simp only [execOld]; rw [A (by simp [Op.operands])]
  | makeInterface t x => simp only [execOld]; rw [A (by simp [Op.operands])]
  | makeFunc fn a b =>
    simp only [execOld]
    rw [args_agree (l := a.toList) (fun t ht => h t (by simp only [readsO, readsL, Op.operands, Array.toList_append, List.flatMap_append, List.mem_append]; exact .inl ht)),
      args_agree (l := b.toList) (fun t ht => h t (by simp only [readsO, readsL, Op.operands, Array.toList_append, List.flatMap_append, List.mem_append]; exact .inr ht))]
  | makeSlice t l c => simp only [execOld]; rw [A (x := l) (by simp [Op.operands]), A (x := c) (by simp [Op.operands])]
  | slice t x lo hi mx =>
    simp only [execOld]
    rw [A (x := x) (by simp [Op.operands]), AO (x := lo) (by rintro y rfl; simp [Op.operands]), AO (x := hi) (by rintro y rfl; simp [Op.operands]), AO (x := mx) (by rintro y rfl; simp [Op.operands])]
  | fieldAddr t x k => simp only [execOld]; rw [A (by simp [Op.operands])]
  | field t x k => simp only [execOld]; rw [A (by simp [Op.operands])]
  | indexAddr t x i => simp only [execOld]; rw [A (x := x) (by simp [Op.operands]), A (x := i) (by simp [Op.operands])]
  | index t x i => simp only [execOld]; rw [A (x := x) (by simp [Op.operands]), A (x := i) (by simp [Op.operands])]
  | extract x k => simp only [execOld]; rw [A (by simp [Op.operands])]
  | makeMap t r => cases r <;> rfl
  | lookup t x k ok => simp only [execOld]; rw [A (x := x) (by simp [Op.operands]), A (x := k) (by simp [Op.operands])]
  | mapUpdate t x k v => simp only [execOld]; rw [A (x := x) (by simp [Op.operands]), A (x := k) (by simp [Op.operands]), A (x := v) (by simp [Op.operands])]
  | insert t x k v => simp only [execOld]; rw [A (x := x) (by simp [Op.operands]), A (x := k) (by simp [Op.operands]), A (x := v) (by simp [Op.operands])]
  | call c =>
    obtain ⟨callee, as, ts⟩ := c
    cases callee with
    | builtin b =>
      simp only [execOld]
      rw [args_agree (by simpa [readsO, Op.operands, Call.operands] using h)]
    | value f =>
      simp only [execOld]
      rw [A (x := f) (by simp [Op.operands, Call.operands]), args_agree (fun t ht => h t (by simp only [readsO, readsL, Op.operands, Call.operands, Array.toList_append, List.flatMap_append, List.mem_append]; exact .inr ht))]
    | invoke r n =>
      simp only [execOld]
      rw [A (x := r) (by simp [Op.operands, Call.operands]), args_agree (fun t ht => h t (by simp only [readsO, readsL, Op.operands, Call.operands, Array.toList_append, List.flatMap_append, List.mem_append]; exact .inr ht))]
  | _ => rfl
theorem wantS_agree {all : Array Oper} {o : Oper} (h : Agree (readsOf all o) σ σ') : wantS all σ o = wantS all σ' o := by
  unfold wantS
  split
  · rfl
  · rename_i j want hg
    split
    · rfl
    · rename_i d hd
      rw [h d (by simp only [readsOf, hg, hd]; simp)]
end
noncomputable def floatOp (P : Program) : Op → Bool
  | .convert s d _ => match cvK P s d with
    | some (.bytes _) => false
    | _ => true
  | .move _ | .assign _ | .pick .. | .load .. | .binOp .. | .unOp .. | .makeInterface .. | .makeFunc .. | .fieldAddr .. | .field .. | .indexAddr .. | .index .. | .extract .. | .slice .. | .nilCheck _ | .build .. | .lookup .. => true
  | .call { callee := .builtin .len, .. } => true
  | .call { callee := .builtin .min, .. } => true
  | .call { callee := .builtin .max, .. } => true
  | .call { callee := .builtin .cap, .. } => true
  | .call { callee := .builtin .unsafeSliceData, .. } => true
  | _ => false
def Flat (M : Mem) : Out → Prop
  | .bad => True
  | .val _ M' => M' = M
  | .enter _ _ _ => False
  | .round _ _ _ => False
theorem with1_flat {M : Mem} {α : Type} {x : Option α} {k : α → Out} (h : ∀ s, Flat M (k s)) : Flat M (with1 x k) := by
  cases x with
  | none => trivial
  | some s => exact h s
theorem optOut_flat (M : Mem) (x : Option SV) : Flat M (optOut M x) := by cases x <;> simp [optOut, Flat]
section
variable {M : Mem}
theorem flat_pick (c a b : SV) : Flat M (xPick c a b M) := by unfold xPick; split <;> first | rfl | trivial
theorem flat_build (t : TypeId) (ps : List (Nat × SV)) : Flat M (xBuild P t ps M) := by
  unfold xBuild
  split <;> (try trivial)
  split <;> (try trivial) <;> (split <;> first | rfl | trivial)
theorem flat_load (t : TypeId) (a : SV) : Flat M (xLoad P t a M) := by
  unfold xLoad
  split <;> (try trivial)
  split <;> (try trivial)
  split <;> (try trivial) <;> (split <;> first | rfl | trivial)
theorem flat_nilCheck (a : SV) : Flat M (xNil2 P a M) := by
  unfold xNil2
  split
  · split
    · split <;> first | rfl | trivial
    · trivial
  · unfold xNilCheck; split <;> first | rfl | trivial
theorem flat_bin (op : BinOp) (t : TypeId) (c : Bool) (a b : SV) : Flat M (xBin P op t c a b M) := by
  unfold xBin
  split
  · split <;> first | rfl | trivial
  · split
    · exact optOut_flat _ _
    · exact optOut_flat _ _
    · split
      · exact optOut_flat _ _
      · trivial
  · exact optOut_flat _ _
  · split
    · split <;> first | rfl | trivial
    · split <;> first | rfl | trivial
    · trivial
theorem flat_bin2 (op : BinOp) (t : TypeId) (c : Bool) (a b : SV) : Flat M (xBin2 P op t c a b M) := by
  unfold xBin2
  split
  · split <;> (try trivial)
    split <;> (try trivial) <;> (split <;> first | rfl | trivial)
  · exact flat_bin _ _ _ _ _
theorem flat_bin3 (op : BinOp) (t : TypeId) (c : Bool) (a b : SV) : Flat M (xBin3 P op t c a b M) := by
  unfold xBin3
  split
  · split
    · rfl
    · exact flat_bin2 _ _ _ _ _
  · exact flat_bin2 _ _ _ _ _
theorem flat_lookup (t : TypeId) (x k : SV) (ok : Bool) : Flat M (xLookup P t x k ok M) := by
  have lo : ∀ s f, Flat M (lookOut M ok s f) := by intro s f; cases ok <;> rfl
  unfold xLookup
  split <;> (try trivial)
  split <;> (try trivial)
  split
  · split <;> first | exact lo _ _ | trivial
  · split <;> (try trivial)
    split
    · exact lo _ _
    · split <;> first | exact lo _ _ | trivial
    · trivial
  · trivial
theorem flat_un (op : UnOp) (a : SV) : Flat M (xUn op a M) := by unfold xUn; split <;> first | rfl | trivial
theorem flat_convert (s d : TypeId) (a : SV) (h : ∀ e, cvK P s d ≠ some (.bytes e)) : Flat M (xConvert P s d a M) := by
  unfold xConvert
  split
  · split <;> first | rfl | trivial
  · split <;> first | rfl | trivial
  · rename_i e he
    exact absurd he (h e)
  · split <;> (try trivial)
    split <;> (try trivial)
    split <;> (try trivial)
    split <;> first | rfl | trivial
  · split <;> (try trivial)
    split <;> (try trivial)
    split <;> first | rfl | trivial
  · trivial
theorem flat_convert2 (s d : TypeId) (a : SV) (h : ∀ e, cvK P s d ≠ some (.bytes e)) : Flat M (xConvert2 P s d a M) := by
  unfold xConvert2
  split
  · exact flat_convert _ _ _ h
  · split
    · rfl
    · split
      · split <;> first | rfl | trivial
      · trivial
    · trivial
  · split
    · rfl
    · split
      · split <;> first | rfl | trivial
      · trivial
    · trivial
theorem flat_cap (t : TypeId) (x : SV) : Flat M (xCap P t x M) := by
  unfold xCap
  split <;> first | rfl | trivial | (split <;> first | rfl | trivial)
theorem flat_sliceData (x : SV) : Flat M (xSliceData x M) := by
  unfold xSliceData
  split <;> first | rfl | trivial | (split <;> first | rfl | trivial)
theorem flat_iface (t : TypeId) (a : SV) : Flat M (xIface P t a M) := by unfold xIface; split <;> first | rfl | trivial
theorem flat_slice (t : TypeId) (x : SV) (a b c : Option SV) : Flat M (xSlice P t x a b c M) := by
  unfold xSlice
  split
  · split <;> (try trivial)
    split <;> first | rfl | trivial
  · split <;> (try trivial)
    split <;> first | rfl | trivial
  · split <;> (try trivial)
    split <;> first | rfl | trivial
  · split <;> (try trivial)
    split <;> (try trivial)
    split <;> (try rfl)
    split <;> first | rfl | trivial
  · split <;> (try trivial)
    split <;> (try trivial)
    split <;> first | rfl | trivial
  · split <;> (try trivial)
    split <;> (try trivial)
    split <;> first | rfl | trivial
  · split <;> (try trivial) <;> (split <;> first | rfl | trivial)
  · trivial
theorem flat_fieldAddr (t : TypeId) (k : Nat) (a : SV) : Flat M (xFieldAddr P t k a M) := by
  unfold xFieldAddr
  split <;> (try trivial)
  split <;> first | rfl | trivial
theorem flat_field (t : TypeId) (k : Nat) (a : SV) : Flat M (xField P t k a M) := by
  unfold xField
  split <;> (try trivial)
  split <;> (try trivial)
  split <;> first | rfl | trivial
theorem flat_indexAddr (t : TypeId) (a i : SV) : Flat M (xIndexAddr P t a i M) := by
  unfold xIndexAddr
  split <;> (try trivial) <;> (split <;> (try trivial)) <;> (split <;> first | rfl | trivial)
theorem flat_index (t : TypeId) (a i : SV) : Flat M (xIndex P t a i M) := by
  unfold xIndex
  split <;> (try trivial) <;> (split <;> (try trivial)) <;> (split <;> (try trivial)) <;> (split <;> first | rfl | trivial)
theorem flat_extract (k : Nat) (a : SV) : Flat M (xExtract k a M) := by
  unfold xExtract
  split <;> (try trivial)
  split <;> first | rfl | trivial
theorem flat_len (t : TypeId) (x : SV) : Flat M (xLen P t x M) := by
  unfold xLen
  split <;> first | rfl | trivial | (split <;> first | rfl | trivial)
theorem flat_len2 (t : TypeId) (x : SV) : Flat M (xLen2 P t x M) := by
  unfold xLen2
  split
  · split <;> first | rfl | trivial
  · exact flat_len _ _
theorem flat_minB (ts : List TypeId) (as : List SV) : Flat M (xBuiltin P .min ts as M) := by
  show Flat M (xMin as M)
  unfold xMin
  split <;> first | exact optOut_flat _ _ | trivial
theorem flat_maxB (ts : List TypeId) (as : List SV) : Flat M (xBuiltin P .max ts as M) := by
  show Flat M (xMax as M)
  unfold xMax
  split <;> first | exact optOut_flat _ _ | trivial
theorem flat_capB (ts : List TypeId) (as : List SV) : Flat M (xBuiltin P .cap ts as M) := by
  unfold xBuiltin
  simp only
  split
  · exact flat_cap _ _
  · trivial
theorem flat_sliceDataB (ts : List TypeId) (as : List SV) : Flat M (xBuiltin P .unsafeSliceData ts as M) := by
  unfold xBuiltin
  simp only
  split
  · exact flat_sliceData _
  · trivial
theorem flat_lenB (ts : List TypeId) (as : List SV) : Flat M (xBuiltin P .len ts as M) := by
  unfold xBuiltin
  simp only
  split
  · exact flat_len2 _ _
  · trivial
end
theorem exec_flat {M : Mem} {σ : Tree SV} {o : Oper} (h : floatOp P o.op = true) : Flat M (exec P M σ o) := by
  rw [exec_old]
  obtain ⟨dst, op, type, pos, after, guard⟩ := o
  cases op with
  | move x => exact with1_flat fun s => rfl
  | assign x => exact with1_flat fun s => rfl
  | pick c a b => exact with1_flat fun s => with1_flat fun a => with1_flat fun b => flat_pick _ _ _
  | build t ps => exact with1_flat fun s => flat_build _ _
  | load t a => exact with1_flat fun s => flat_load _ _
  | nilCheck x => exact with1_flat fun s => flat_nilCheck _
  | binOp op t x y u => exact with1_flat fun a => with1_flat fun b => flat_bin3 _ _ _ _ _
  | unOp op t x => exact with1_flat fun s => flat_un _ _
  | convert s d x =>
    refine with1_flat fun a => flat_convert2 _ _ _ fun e he => ?_
    simp only [floatOp] at h
    rw [he] at h
    simp at h
  | makeInterface t x => exact with1_flat fun s => flat_iface _ _
  | makeFunc fn a b => exact with1_flat fun s => with1_flat fun s => rfl
  | slice t x lo hi mx => exact with1_flat fun s => with1_flat fun a => with1_flat fun b => with1_flat fun c => flat_slice _ _ _ _ _
  | fieldAddr t x k => exact with1_flat fun s => flat_fieldAddr _ _ _
  | field t x k => exact with1_flat fun s => flat_field _ _ _
  | indexAddr t x i => exact with1_flat fun s => with1_flat fun a => flat_indexAddr _ _ _
  | index t x i => exact with1_flat fun s => with1_flat fun a => flat_index _ _ _
  | extract x k => exact with1_flat fun s => flat_extract _ _
  | lookup t x k ok => exact with1_flat fun s => with1_flat fun s => flat_lookup _ _ _ _
  | call c =>
    obtain ⟨callee, as, ts⟩ := c
    cases callee with
    | builtin b => cases b <;> first | exact with1_flat fun s => flat_lenB _ _ | exact with1_flat fun s => flat_minB _ _ | exact with1_flat fun s => flat_maxB _ _ | exact with1_flat fun s => flat_capB _ _ | exact with1_flat fun s => flat_sliceDataB _ _ | exact absurd h (by simp [floatOp])
    | value f => exact absurd h (by simp [floatOp])
    | invoke r n => exact absurd h (by simp [floatOp])
  | _ => exact absurd h (by simp [floatOp])
end Go.Ev
