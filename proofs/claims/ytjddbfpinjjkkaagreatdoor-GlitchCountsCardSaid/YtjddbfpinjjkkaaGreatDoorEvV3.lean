/- A part of the small machine. -/
import Derived.Control
import Derived.Calls
import Derived.Below
import Derived.Laws.AppendOwn
import Derived.Laws.IdiomCopy
set_option linter.unusedVariables false
namespace Go.Ev
inductive Pos where
 | one
 | b0 (p : Pos)
 | b1 (p : Pos)
 deriving DecidableEq
namespace Pos
noncomputable def succ (p : Pos) : Pos := Pos.rec (.b0 .one) (fun p _ => .b1 p) (fun _ ih => .b0 ih) p
noncomputable def ofNat (n : Nat) : Pos := Nat.rec .one (fun _ ih => ih.succ) n
def num : Pos → Nat
 | .one => 1
 | .b0 p => 2 * p.num
 | .b1 p => 2 * p.num + 1
theorem zsn (p : Pos) : succ (.b0 p) = .b1 p := rfl
theorem zso (p : Pos) : succ (.b1 p) = .b0 p.succ := rfl
theorem zn6 (n : Nat) : ofNat (n + 1) = (ofNat n).succ := rfl
theorem num_pos (p : Pos) : 1 ≤ p.num := by
 induction p with
 | one => simp [num]
 | b0 p ih => simp [num]; omega
 | b1 p ih => simp [num]
theorem num_succ (p : Pos) : p.succ.num = p.num + 1 := by
 induction p with
 | one => rfl
 | b0 p ih => rw [zsn]; simp [num]
 | b1 p ih => rw [zso]; simp only [num, ih]; omega
theorem num_ofNat (n : Nat) : (ofNat n).num = n + 1 := by
 induction n with
 | zero => rfl
 | succ n ih => rw [zn6, num_succ, ih]
theorem num_inj {p q : Pos} (h : p.num = q.num) : p = q := by
 induction p generalizing q with
 | one =>
  cases q with
  | one => rfl
  | b0 q => simp [num] at h; omega
  | b1 q => have := num_pos q; simp [num] at h; omega
 | b0 p ih =>
  cases q with
  | one => simp [num] at h; omega
  | b0 q => have e : p = q := ih (by simp [num] at h; omega); rw [e]
  | b1 q => simp [num] at h; omega
 | b1 p ih =>
  cases q with
  | one => have := num_pos p; simp [num] at h; omega
  | b0 q => simp [num] at h; omega
  | b1 q => have e : p = q := ih (by simp [num] at h; omega); rw [e]
theorem ofNat_inj {m n : Nat} (h : ofNat m = ofNat n) : m = n := by
 have := congrArg num h
 rw [num_ofNat, num_ofNat] at this
 omega
noncomputable def beq (p : Pos) : Pos → Bool :=
 Pos.rec (fun q => Pos.rec true (fun _ _ => false) (fun _ _ => false) q)
  (fun _ ih q => Pos.rec false (fun q _ => ih q) (fun _ _ => false) q)
  (fun _ ih q => Pos.rec false (fun _ _ => false) (fun q _ => ih q) q) p
theorem beq_iff (p q : Pos) : p.beq q = true ↔ p = q := by
 induction p generalizing q with
 | one => cases q <;> simp [beq]
 | b0 p ih => cases q with
  | one => simp [beq]
  | b0 q => rw [show (b0 p).beq (b0 q) = p.beq q from rfl, ih]; simp
  | b1 q => simp [beq]
 | b1 p ih => cases q with
  | one => simp [beq]
  | b0 q => simp [beq]
  | b1 q => rw [show (b1 p).beq (b1 q) = p.beq q from rfl, ih]; simp
end Pos
inductive Tree (α : Type) where
 | leaf : Tree α
 | node : Tree α → Option α → Tree α → Tree α
namespace Tree
variable {α : Type}
noncomputable def get (p : Pos) : Tree α → Option α :=
 Pos.rec (fun t => Tree.rec none (fun _ v _ _ _ => v) t)
  (fun _ ih t => Tree.rec none (fun l _ _ _ _ => ih l) t)
  (fun _ ih t => Tree.rec none (fun _ _ r _ _ => ih r) t) p
noncomputable def put (x : Option α) (p : Pos) : Tree α → Tree α :=
 Pos.rec (fun t => Tree.rec (.node .leaf x .leaf) (fun l _ r _ _ => .node l x r) t)
  (fun _ ih t => Tree.rec (.node (ih .leaf) none .leaf) (fun l v r _ _ => .node (ih l) v r) t)
  (fun _ ih t => Tree.rec (.node .leaf none (ih .leaf)) (fun l v r _ _ => .node l v (ih r)) t) p
theorem get_leaf (p : Pos) : get p (.leaf : Tree α) = none := by cases p <;> rfl
theorem get_one (l : Tree α) (v) (r) : get .one (.node l v r) = v := rfl
theorem get_b0 (p) (l : Tree α) (v) (r) : get (.b0 p) (.node l v r) = get p l := rfl
theorem get_b1 (p) (l : Tree α) (v) (r) : get (.b1 p) (.node l v r) = get p r := rfl
theorem get_put (x : Option α) (p q : Pos) (t : Tree α) : get q (put x p t) = if p = q then x else get q t := by
 induction p generalizing q t with
 | one =>
  cases t with
  | leaf => cases q <;> simp [put, get_one, get_b0, get_b1, get_leaf]
  | node l v r => cases q <;> simp [put, get_one, get_b0, get_b1]
 | b0 p ih =>
  cases t with
  | leaf =>
   show get q (.node (put x p .leaf) none .leaf) = _
   cases q with
   | one => simp [get_one, get_leaf]
   | b0 q => rw [get_b0, ih]; simp [get_leaf]
   | b1 q => rw [get_b1]; simp [get_leaf]
  | node l v r =>
   show get q (.node (put x p l) v r) = _
   cases q with
   | one => simp [get_one]
   | b0 q => rw [get_b0, ih]; simp [get_b0]
   | b1 q => rw [get_b1]; simp [get_b1]
 | b1 p ih =>
  cases t with
  | leaf =>
   show get q (.node .leaf none (put x p .leaf)) = _
   cases q with
   | one => simp [get_one, get_leaf]
   | b0 q => rw [get_b0]; simp [get_leaf]
   | b1 q => rw [get_b1, ih]; simp [get_leaf]
  | node l v r =>
   show get q (.node l v (put x p r)) = _
   cases q with
   | one => simp [get_one]
   | b0 q => rw [get_b0]; simp [get_b0]
   | b1 q => rw [get_b1, ih]; simp [get_b1]
theorem get_put_same (x : Option α) (p : Pos) (t : Tree α) : get p (put x p t) = x := by simp [get_put]
theorem get_put_other (x : Option α) {p q : Pos} (t : Tree α) (h : p ≠ q) : get q (put x p t) = get q t := by simp [get_put, h]
end Tree
inductive SV where
 | bool (b : Bool)
 | int (k : IntKind) (n : Int)
 | str (s : List UInt8)
 | nilp
 | ptr (b : Pos) (off : Nat)
 | nils
 | slice (b : Pos) (off len cap : Nat)
 | ope (b : Pos) (off len size : Nat)
 | opz (b : Pos) (old off size : Nat)
 | rawz (a : Addr)
 | nilm
 | map (b : Pos)
 | nilf
 | fn (f : Fn) (first captured : List SV)
 | yield (b : Pos)
 | nili
 | iface (t : TypeId) (v : SV)
 | agg (l : List SV)
 | tuple (l : List SV)
structure Pl where
 block : Nat
 shift : Nat
 size : Nat
abbrev Map := Pos → Option Pl
mutual
def conc (m : Map) : SV → Option Value
 | .bool b => some (.bool b)
 | .int k n => some (.int k n)
 | .str s => some (.string ⟨s.toArray⟩)
 | .nilp => some (.pointer none)
 | .ptr b off => (m b).map fun p => .pointer (some ⟨p.block, off + p.shift, none⟩)
 | .nils => some (.slice none 0 0)
 | .slice b off len cap => (m b).map fun p => .slice (some ⟨p.block, off + p.shift, none⟩) len cap
 | .ope b off len z => (m b).bind fun p => if 0 < z ∧ off + p.shift + len * z ≤ p.size then some (.slice (some ⟨p.block, off + p.shift, none⟩) len ((p.size - (off + p.shift)) / z)) else none
 | .opz b old off z => (m b).bind fun p => if 0 < z ∧ off + p.shift ≤ p.size then some (.slice (some ⟨p.block, (if (p.size - (off + p.shift)) / z = 0 then old else off) + p.shift, none⟩) 0 ((p.size - (off + p.shift)) / z)) else none
 | .rawz a => some (.slice (some a) 0 0)
 | .nilm => some (.map none)
 | .map b => (m b).map fun p => .map (some p.block)
 | .nilf => some .nilFunc
 | .fn f first captured => (concs m first).bind fun a => (concs m captured).map fun b => .func f a.toArray b.toArray
 | .yield b => (m b).map fun p => .func (.yield p.block) #[] #[]
 | .nili => some .nilIface
 | .iface t v => (conc m v).map (.iface t ·)
 | .agg l => (concs m l).map fun a => .agg a.toArray
 | .tuple l => (concs m l).map fun a => .tuple a.toArray
def concs (m : Map) : List SV → Option (List Value)
 | [] => some []
 | v :: l => (conc m v).bind fun a => (concs m l).map fun b => a :: b
end
def Ext (m m' : Map) : Prop := ∀ b p, m b = some p → m' b = some p
theorem Ext.refl (m : Map) : Ext m m := fun _ _ h => h
theorem Ext.trans {a b c : Map} (h : Ext a b) (h' : Ext b c) : Ext a c := fun x p e => h' x p (h x p e)
mutual
theorem z8c {m m' : Map} (h : Ext m m') : ∀ (s : SV) (v : Value), conc m s = some v → conc m' s = some v
 | .bool _, _, e => e
 | .int .., _, e => e
 | .str _, _, e => e
 | .nilp, _, e => e
 | .nils, _, e => e
 | .nilm, _, e => e
 | .nilf, _, e => e
 | .nili, _, e => e
 | .rawz _, _, e => e
 | .ptr b off, v, e => by
  simp only [conc, Option.map_eq_some_iff] at e ⊢
  obtain ⟨p, hp, rfl⟩ := e
  exact ⟨p, h _ _ hp, rfl⟩
 | .slice b off len cap, v, e => by
  simp only [conc, Option.map_eq_some_iff] at e ⊢
  obtain ⟨p, hp, rfl⟩ := e
  exact ⟨p, h _ _ hp, rfl⟩
 | .ope b off len cap, v, e => by
  simp only [conc, Option.bind_eq_some_iff] at e ⊢
  obtain ⟨p, hp, hv⟩ := e
  exact ⟨p, h _ _ hp, hv⟩
 | .opz b old off z, v, e => by
  simp only [conc, Option.bind_eq_some_iff] at e ⊢
  obtain ⟨p, hp, hv⟩ := e
  exact ⟨p, h _ _ hp, hv⟩
 | .map b, v, e => by
  simp only [conc, Option.map_eq_some_iff] at e ⊢
  obtain ⟨p, hp, rfl⟩ := e
  exact ⟨p, h _ _ hp, rfl⟩
 | .fn f first captured, v, e => by
  simp only [conc, Option.bind_eq_some_iff, Option.map_eq_some_iff] at e ⊢
  obtain ⟨a, ha, b, hb, rfl⟩ := e
  exact ⟨a, z8s h _ _ ha, b, z8s h _ _ hb, rfl⟩
 | .yield b, v, e => by
  simp only [conc, Option.map_eq_some_iff] at e ⊢
  obtain ⟨p, hp, rfl⟩ := e
  exact ⟨p, h _ _ hp, rfl⟩
 | .iface t s, v, e => by
  simp only [conc, Option.map_eq_some_iff] at e ⊢
  obtain ⟨p, hp, rfl⟩ := e
  exact ⟨p, z8c h _ _ hp, rfl⟩
 | .agg l, v, e => by
  simp only [conc, Option.map_eq_some_iff] at e ⊢
  obtain ⟨p, hp, rfl⟩ := e
  exact ⟨p, z8s h _ _ hp, rfl⟩
 | .tuple l, v, e => by
  simp only [conc, Option.map_eq_some_iff] at e ⊢
  obtain ⟨p, hp, rfl⟩ := e
  exact ⟨p, z8s h _ _ hp, rfl⟩
theorem z8s {m m' : Map} (h : Ext m m') : ∀ (s : List SV) (v : List Value), concs m s = some v → concs m' s = some v
 | [], _, e => e
 | s :: l, v, e => by
  simp only [concs, Option.bind_eq_some_iff, Option.map_eq_some_iff] at e ⊢
  obtain ⟨a, ha, b, hb, rfl⟩ := e
  exact ⟨a, z8c h _ _ ha, b, z8s h _ _ hb, rfl⟩
end
theorem concs_nil (m : Map) : concs m [] = some [] := by simp [concs]
theorem concs_cons {m : Map} {s : SV} {l : List SV} {v : Value} {vs : List Value} (h : conc m s = some v) (hl : concs m l = some vs) : concs m (s :: l) = some (v :: vs) := by
 simp [concs, h, hl]
theorem z85 {m : Map} {s : SV} {l : List SV} {vs : List Value} (h : concs m (s :: l) = some vs) : ∃ v r, conc m s = some v ∧ concs m l = some r ∧ vs = v :: r := by
 simp only [concs, Option.bind_eq_some_iff, Option.map_eq_some_iff] at h
 obtain ⟨a, ha, b, hb, rfl⟩ := h
 exact ⟨a, b, ha, hb, rfl⟩
theorem z86 {m : Map} : ∀ {l : List SV} {vs : List Value}, concs m l = some vs → vs.length = l.length
 | [], vs, h => by simp [concs] at h; simp [← h]
 | s :: l, vs, h => by
  obtain ⟨v, r, _, hr, rfl⟩ := z85 h
  simp [z86 hr]
theorem zdf {m : Map} : ∀ {l : List SV} {vs : List Value} {i : Nat} {s : SV}, concs m l = some vs → l[i]? = some s → ∃ v, conc m s = some v ∧ vs[i]? = some v
 | [], _, _, _, _, h => by simp at h
 | s :: l, vs, i, x, h, hi => by
  obtain ⟨v, r, hv, hr, rfl⟩ := z85 h
  cases i with
  | zero => simp at hi; subst hi; exact ⟨v, hv, rfl⟩
  | succ i =>
   simp only [List.getElem?_cons_succ] at hi ⊢
   exact zdf hr hi
theorem z8b {m : Map} : ∀ {l k : List SV} {vs ws : List Value}, concs m l = some vs → concs m k = some ws → concs m (l ++ k) = some (vs ++ ws)
 | [], k, vs, ws, h, hk => by simp [concs] at h; simp [← h, hk]
 | s :: l, k, vs, ws, h, hk => by
  obtain ⟨v, r, hv, hr, rfl⟩ := z85 h
  exact concs_cons hv (z8b hr hk)
theorem zb9 {m : Map} (n : Nat) : ∀ {l : List SV} {vs : List Value}, concs m l = some vs → concs m (l.take n) = some (vs.take n) := by
 induction n with
 | zero => intro l vs _; simp [concs]
 | succ n ih =>
  intro l vs h
  cases l with
  | nil => simp [concs] at h; subst h; simp [concs]
  | cons s l =>
   obtain ⟨v, r, hv, hr, rfl⟩ := z85 h
   exact concs_cons hv (ih hr)
theorem zb8 {m : Map} (n : Nat) : ∀ {l : List SV} {vs : List Value}, concs m l = some vs → concs m (l.drop n) = some (vs.drop n) := by
 induction n with
 | zero => intro l vs h; simpa using h
 | succ n ih =>
  intro l vs h
  cases l with
  | nil => simp [concs] at h; subst h; simp [concs]
  | cons s l =>
   obtain ⟨v, r, hv, hr, rfl⟩ := z85 h
   exact ih hr
end Go.Ev
namespace Go.Ev
open Go.RowKit
def za6 (m : Map) (σ : Tree SV) (tm : Array Value) : Prop := ∀ t s, σ.get (Pos.ofNat t) = some s → ∃ v, tm[t]? = some v ∧ conc m s = some v
theorem za6.ext {m m' : Map} (h : Ext m m') {σ tm} (hr : za6 m σ tm) : za6 m' σ tm := fun t s e =>
 let ⟨v, h1, h2⟩ := hr t s e; ⟨v, h1, z8c h _ _ h2⟩
structure LoopS where
 st : LoopState
 pend : Option Code
 fn : FuncId
 n : Nat
 tmps : Tree SV
 ps : List Tmp
 assign : Code
 body : Code
 df : Pos
inductive RK where
 | mark
 | head (k : Nat)
 | whole
 | lost
inductive SObj where
 | row (e : TypeId) (k : RK) (cells : List SV)
 | fix (cells : List SV)
 | ro (cells : List SV)
 | map (es : List (SV × SV × Nat)) (clock : Nat)
 | siter (s : List UInt8) (pos : Nat)
 | loop (L : LoopS)
 | defd
def SObj.own : SObj → Bool
 | .fix _ => false
 | .ro _ => false
 | _ => true
structure Mem where
 t : Tree SObj
 next : Pos
 floor : Nat
inductive z8p {α β : Type} (R : α → β → Prop) : List α → List β → Prop
 | nil : z8p R [] []
 | cons {a b l k} : R a b → z8p R l k → z8p R (a :: l) (b :: k)
def z9h (m : Map) (s : SV × SV × Nat) (e : MapEntry) : Prop := conc m s.1 = some e.key ∧ conc m s.2.1 = some e.val ∧ s.2.2 = e.born
def Frz (k : RK) (p : Pl) (n : Nat) (fz : Nat × Nat) : Prop := match k with
 | .mark => fz.2 ≤ fz.1 ∨ p.size ≤ fz.1
 | .head k => fz.2 ≤ p.shift + k
 | .whole => fz.2 = 0 ∧ p.shift = 0 ∧ p.size = n
 | .lost => True
theorem Frz.zero {k : RK} (h : k ≠ .whole) (p : Pl) (n : Nat) : Frz k p n (0, 0) := by
 cases k with
 | mark => exact .inl (Nat.le_refl _)
 | head k => exact Nat.zero_le _
 | whole => exact absurd rfl h
 | lost => trivial
theorem Frz.store {k : RK} {p : Pl} {n : Nat} {fz : Nat × Nat} {off sz : Nat} (h : Frz k p n fz) (hk : (∀ j, k = .head j → j ≤ off) ∧ k ≠ .lost) (hs : p.size = sz) : fz.2 ≤ fz.1 ∨ sz ≤ fz.1 ∨ fz.2 ≤ off + p.shift := by
 cases k with
 | mark => rcases h with h | h <;> omega
 | head j =>
  have := hk.1 j rfl
  have h' : fz.2 ≤ p.shift + j := h
  omega
 | whole =>
  have h' : fz.2 = 0 ∧ p.shift = 0 ∧ p.size = n := h
  omega
 | lost => exact absurd rfl hk.2
theorem Frz.len {k : RK} {p : Pl} {n n' : Nat} {fz : Nat × Nat} (h : Frz k p n fz) (hn : n' = n) : Frz k p n' fz := hn ▸ h
def RowRel (m : Map) (p : Pl) (te : Option TypeId) (k : RK) (cells : List SV) (o : Option Obj) : Prop :=
 ∃ e fz pre vs post, o = some (.cells (pre ++ (vs ++ post)).toArray e fz) ∧ Frz k p vs.length fz ∧ pre.length = p.shift ∧ pre.length + (vs.length + post.length) = p.size ∧ concs m cells = some vs ∧ ∀ t, te = some t → e = t
def zf8 (m : Map) (L : LoopS) (R : Loop) : Prop :=
 R.state = L.st ∧ R.pending = L.pend ∧ R.fn = L.fn ∧ za6 m L.tmps R.tmps ∧ R.tmps.size = L.n ∧ R.params.toList = L.ps ∧ R.assign = L.assign ∧ R.body = L.body ∧ ∃ q, m L.df = some q ∧ R.defers = q.block
def zaq (m : Map) (p : Pl) : SObj → Option Obj → Prop
 | .row e k cells, o => RowRel m p (some e) k cells o
 | .fix cells, o => RowRel m p none .lost cells o
 | .ro cells, o => RowRel m p none .lost cells o
 | .map es clock, o => ∃ a, o = some (.map a clock) ∧ z8p (z9h m) es a.toList
 | .siter s pos, o => o = some (.stringIter ⟨s.toArray⟩ pos)
 | .loop L, o => ∃ R, o = some (.loop R) ∧ zf8 m L R
 | .defd, o => o = some (.deferred (some []))
theorem z9h.ext {m m' : Map} (h : Ext m m') {s e} (hr : z9h m s e) : z9h m' s e := ⟨z8c h _ _ hr.1, z8c h _ _ hr.2.1, hr.2.2⟩
theorem z8p.mono {α β : Type} {R S : α → β → Prop} (h : ∀ a b, R a b → S a b) : ∀ {l : List α} {k : List β}, z8p R l k → z8p S l k
 | _, _, .nil => .nil
 | _, _, .cons a b => .cons (h _ _ a) (z8p.mono h b)
theorem RowRel.ext {m m' : Map} (h : Ext m m') {p : Pl} {te : Option TypeId} {k : RK} {o : List SV} {x : Option Obj} (hr : RowRel m p te k o x) : RowRel m' p te k o x := by
 obtain ⟨e, fz, pre, vs, post, hx, hz, hs, hl, hc, ht⟩ := hr
 exact ⟨e, fz, pre, vs, post, hx, hz, hs, hl, z8s h _ _ hc, ht⟩
theorem zaq.ext {m m' : Map} (h : Ext m m') {p : Pl} {o : SObj} {x : Option Obj} (hr : zaq m p o x) : zaq m' p o x := by
 cases o with
 | row e k cells => exact RowRel.ext h hr
 | fix cells => exact RowRel.ext h hr
 | ro cells => exact RowRel.ext h hr
 | map es clock =>
  obtain ⟨a, hx, ha⟩ := hr
  exact ⟨a, hx, z8p.mono (fun _ _ => z9h.ext h) ha⟩
 | siter s pos => exact hr
 | loop L =>
  obtain ⟨R, hx, h1, h2, h3, h4, h5, h6, h7, h8, q, h9, h10⟩ := hr
  exact ⟨R, hx, h1, h2, h3, h4.ext h, h5, h6, h7, h8, q, h _ _ h9, h10⟩
 | defd => exact hr
structure MRel (B : Nat) (m : Map) (M : Mem) (w : World) : Prop where
 objs : ∀ b o p, M.t.get b = some o → m b = some p → zaq m p o w.heap[p.block]?
 inj : ∀ b b' o o' p p', M.t.get b = some o → M.t.get b' = some o' → (o.own = true ∨ o'.own = true) → m b = some p → m b' = some p' → p.block = p'.block → b = b'
 fresh : ∀ b, M.next.num ≤ b.num → m b = none ∧ M.t.get b = none
 bound : ∀ b p, m b = some p → p.block < w.heap.size
 low : ∀ b o p, M.t.get b = some o → o.own = true → m b = some p → B ≤ p.block
 base : B ≤ w.heap.size
 glob : ∀ b c, M.t.get b = some (.fix c) → ∃ z, m b = some ⟨b.num - 1, 0, z⟩ ∧ z = c.length
 flo : M.floor ≤ M.next.num
def zbj (m : Map) (M : Mem) (k : Nat) : Prop := ∃ c x q, M.t.get c = some x ∧ x.own = true ∧ m c = some q ∧ q.block = k
noncomputable def setT (M : Mem) (b : Pos) (o : Option SObj) : Mem := Mem.rec (fun t n f => ⟨t.put o b, n, f⟩) M
structure z82 (B : Nat) (m : Map) (M : Mem) (w : World) (m' : Map) (M' : Mem) (w' : World) : Prop where
 rel : MRel B m' M' w'
 same : ∀ b, b.num < M.next.num → m' b = m b
 keep : ∀ b, b.num < M.next.num → m b = none → M'.t.get b = M.t.get b
 next : M.next.num ≤ M'.next.num
 below : Below B w w'
 frame : ∀ k, k < w.heap.size → ¬ zbj m M k → w'.heap[k]? = w.heap[k]?
 born : ∀ k, k < w.heap.size → zbj m' M' k → zbj m M k
 under : ∀ b, b.num < M.floor → M'.t.get b = M.t.get b
 floor : M'.floor = M.floor
 fixes : ∀ b c, M'.t.get b = some (.fix c) → M.t.get b = some (.fix c)
 news : ∀ b p, M.next.num ≤ b.num → m' b = some p → p.block < w.heap.size → zbj m M p.block
theorem MRel.ext {B m M w} (hr : MRel B m M w) {m' : Map} (h : ∀ b, b.num < M.next.num → m' b = m b) : Ext m m' := by
 intro b p hp
 by_cases hb : b.num < M.next.num
 ·rw [h b hb]; exact hp
 ·have := (hr.fresh b (by omega)).1
  rw [this] at hp
  exact absurd hp (by simp)
theorem z82.ext {B m M w m' M' w'} (hr : MRel B m M w) (h : z82 B m M w m' M' w') : Ext m m' := hr.ext h.same
theorem z82.refl {B m M w} (hr : MRel B m M w) : z82 B m M w m M w := ⟨hr, fun _ _ => rfl, fun _ _ _ => rfl, Nat.le_refl _, Below.refl _ _, fun _ _ _ => rfl, fun _ _ h => h, fun _ _ => rfl, rfl, fun _ _ h => h, fun b p hb hp _ => absurd hp (by rw [(hr.fresh b hb).1]; simp)⟩
theorem z82.trans {B m M w m1 M1 w1 m2 M2 w2} (h1 : z82 B m M w m1 M1 w1) (h2 : z82 B m1 M1 w1 m2 M2 w2) : z82 B m M w m2 M2 w2 := by
 refine ⟨h2.rel, fun b hb => ?_, fun b hb hm => ?_, Nat.le_trans h1.next h2.next, h1.below.trans h2.below, fun k hk ho => ?_, fun k hk ho => ?_, fun b hb => ?_, h2.floor.trans h1.floor, fun b c h => h1.fixes b c (h2.fixes b c h), fun b p hb hp hlt => ?_⟩
 ·rw [h2.same b (by have := h1.next; omega), h1.same b hb]
 ·rw [h2.keep b (by have := h1.next; omega) (by rw [h1.same b hb]; exact hm), h1.keep b hb hm]
 ·rw [h2.frame k (by have := h1.below.size; omega) (fun h => ho (h1.born k hk h)), h1.frame k hk ho]
 ·exact h1.born k hk (h2.born k (by have := h1.below.size; omega) ho)
 ·rw [h2.under b (by rw [h1.floor]; exact hb), h1.under b hb]
 ·by_cases hb1 : b.num < M1.next.num
  ·exact h1.news b p hb (by rw [← h2.same b hb1]; exact hp) hlt
  ·exact h1.born _ hlt (h2.news b p (by omega) hp (by have := h1.below.size; omega))
theorem MRel.drew {B m M w w'} (hr : MRel B m M w) (h : w'.heap = w.heap) : MRel B m M w' :=
 ⟨fun b o p h1 h2 => h ▸ hr.objs b o p h1 h2, hr.inj, hr.fresh, fun b p h1 => h ▸ hr.bound b p h1, hr.low, h ▸ hr.base, hr.glob, hr.flo⟩
theorem z82.fresh {B : Nat} {m : Map} {M : Mem} {w w' : World} (hr : MRel B m M w) (M1 : Tree SObj) (p : Pl) (o : SObj)
  (hM1 : ∀ b x, M1.get b = some x → M.t.get b = some x)
  (hkeep : ∀ b, b.num < M.next.num → m b = none → M1.get b = M.t.get b)
  (hunder : ∀ b, b.num < M.floor → M1.get b = M.t.get b)
  (hold : ∀ b x q, M1.get b = some x → m b = some q → q.block ≠ p.block ∧ w'.heap[q.block]? = w.heap[q.block]?)
  (hb : Below B w w') (hp : p.block < w'.heap.size) (hB : B ≤ p.block) (hown : o.own = true)
  (ho : ∀ m', Ext m m' → zaq m' p o w'.heap[p.block]?)
  (hframe : ∀ k, k < w.heap.size → ¬ zbj m M k → w'.heap[k]? = w.heap[k]?) (hborn : p.block < w.heap.size → zbj m M p.block) :
  z82 B m M w (fun b => if b = M.next then some p else m b) ⟨M1.put (some o) M.next, M.next.succ, M.floor⟩ w' := by
 have hnone : ∀ b, M.next.num ≤ b.num → M1.get b = none := by
  intro b hb
  cases h : M1.get b with
  | none => rfl
  | some x => have := hM1 b x h; rw [(hr.fresh b hb).2] at this; exact absurd this (by simp)
 have hext : Ext m (fun b => if b = M.next then some p else m b) := by
  intro b q hq
  by_cases hb : b = M.next
  ·rw [hb, (hr.fresh _ (Nat.le_refl _)).1] at hq; exact absurd hq (by simp)
  ·simp [hb, hq]
 refine ⟨⟨?_, ?_, ?_, ?_, ?_, Nat.le_trans hr.base hb.size, ?_, ?_⟩, ?_, ?_, ?_, hb, hframe, ?_, ?_, rfl, ?_, fun b q hb' hq hlt => ?_⟩
 ·intro b x q hx hq
  by_cases hb : b = M.next
  ·subst hb
   simp only [Tree.get_put_same, Option.some.injEq] at hx
   simp only [if_true, Option.some.injEq] at hq
   subst hx; subst hq
   exact ho _ hext
  ·simp only [Tree.get_put_other _ _ (Ne.symm hb)] at hx
   simp only [hb, if_false] at hq
   obtain ⟨_, he⟩ := hold b x q hx hq
   rw [he]
   exact (hr.objs b x q (hM1 _ _ hx) hq).ext hext
 ·intro b b' x x' q q' hx hx' how hq hq' he
  by_cases hb : b = M.next <;> by_cases hb' : b' = M.next
  ·rw [hb, hb']
  ·subst hb
   simp only [Tree.get_put_other _ _ (Ne.symm hb')] at hx'
   simp only [if_true, Option.some.injEq] at hq
   simp only [hb', if_false] at hq'
   subst hq
   exact absurd he.symm (hold b' x' q' hx' hq').1
  ·subst hb'
   simp only [Tree.get_put_other _ _ (Ne.symm hb)] at hx
   simp only [if_true, Option.some.injEq] at hq'
   simp only [hb, if_false] at hq
   subst hq'
   exact absurd he (hold b x q hx hq).1
  ·simp only [Tree.get_put_other _ _ (Ne.symm hb)] at hx
   simp only [Tree.get_put_other _ _ (Ne.symm hb')] at hx'
   simp only [hb, if_false] at hq
   simp only [hb', if_false] at hq'
   exact hr.inj b b' x x' q q' (hM1 _ _ hx) (hM1 _ _ hx') how hq hq' he
 ·intro b hb
  simp only [Pos.num_succ] at hb
  have hne : b ≠ M.next := by intro h; subst h; omega
  simp only [hne, if_false, Tree.get_put_other _ _ (Ne.symm hne)]
  exact ⟨(hr.fresh b (by omega)).1, hnone b (by omega)⟩
 ·intro b q hq
  by_cases hb' : b = M.next
  ·simp only [hb', if_true, Option.some.injEq] at hq; subst hq; exact hp
  ·simp only [hb', if_false] at hq
   have := hr.bound b q hq
   have := hb.size
   omega
 ·intro b x q hx hown hq
  by_cases hb' : b = M.next
  ·simp only [hb', if_true, Option.some.injEq] at hq; subst hq; exact hB
  ·simp only [hb', if_false] at hq
   simp only [Tree.get_put_other _ _ (Ne.symm hb')] at hx
   exact hr.low b x q (hM1 _ _ hx) hown hq
 ·intro b c hc
  by_cases hb' : b = M.next
  ·subst hb'
   simp only [Tree.get_put_same, Option.some.injEq] at hc
   subst hc
   simp [SObj.own] at hown
  ·simp only [Tree.get_put_other _ _ (Ne.symm hb')] at hc
   obtain ⟨z, h, hz⟩ := hr.glob b c (hM1 _ _ hc)
   exact ⟨z, by simp [hb', h], hz⟩
 ·have := hr.flo; simp only [Pos.num_succ]; omega
 ·intro b hb
  have hne : b ≠ M.next := by intro h; subst h; omega
  simp [hne]
 ·intro b hb hm
  have hne : b ≠ M.next := by intro h; subst h; omega
  simp only [Tree.get_put_other _ _ (Ne.symm hne)]
  exact hkeep b hb hm
 ·simp only [Pos.num_succ]; omega
 ·rintro k hk ⟨c, x, q, hx, hxo, hq, rfl⟩
  by_cases hc : c = M.next
  ·simp only [hc, if_true, Option.some.injEq] at hq
   subst hq
   exact hborn hk
  ·simp only [hc, if_false] at hq
   simp only [Tree.get_put_other _ _ (Ne.symm hc)] at hx
   exact ⟨c, x, q, hM1 _ _ hx, hxo, hq, rfl⟩
 ·intro b hb
  have hne : b ≠ M.next := by intro h; subst h; have := hr.flo; omega
  simp only [Tree.get_put_other _ _ (Ne.symm hne)]
  exact hunder b hb
 ·intro b c hc
  by_cases hb' : b = M.next
  ·subst hb'
   simp only [Tree.get_put_same, Option.some.injEq] at hc
   subst hc
   simp [SObj.own] at hown
  ·simp only [Tree.get_put_other _ _ (Ne.symm hb')] at hc
   exact hM1 _ _ hc
 ·by_cases hbn : b = M.next
  ·simp only [hbn, if_true, Option.some.injEq] at hq
   subst hq
   exact hborn hlt
  ·simp only [hbn, if_false] at hq
   rw [(hr.fresh b hb').1] at hq
   simp at hq
theorem z82.update {B : Nat} {m : Map} {M : Mem} {w w' : World} (hr : MRel B m M w) (b : Pos) (x o : SObj) (p : Pl)
  (hx : M.t.get b = some x) (hown : x.own = true) (hp : m b = some p)
  (hold : ∀ k, k ≠ p.block → w'.heap[k]? = w.heap[k]?) (hb : Below B w w')
  (hown' : o.own = true) (ho : zaq m p o w'.heap[p.block]?) (hfl : M.floor ≤ b.num) :
  z82 B m M w m ⟨M.t.put (some o) b, M.next, M.floor⟩ w' := by
 have hlt : b.num < M.next.num := by
  apply Classical.byContradiction
  intro h
  have := (hr.fresh b (by omega)).1
  rw [this] at hp; exact absurd hp (by simp)
 refine ⟨⟨?_, ?_, ?_, ?_, ?_, Nat.le_trans hr.base hb.size, ?_, hr.flo⟩, fun _ _ => rfl, ?_, Nat.le_refl _, hb, ?_, ?_, ?_, rfl, ?_, fun c q hc hq _ => absurd hq (by rw [(hr.fresh c hc).1]; simp)⟩
 ·intro c y q hy hq
  by_cases hb : b = c
  ·subst hb
   simp only [Tree.get_put_same, Option.some.injEq] at hy
   subst hy
   rw [hp] at hq; cases hq
   exact ho
  ·simp only [Tree.get_put_other _ _ hb] at hy
   have hne : q.block ≠ p.block := fun he => hb (hr.inj b c x y p q hx hy (.inl hown) hp hq he.symm)
   rw [hold _ hne]
   exact hr.objs c y q hy hq
 ·intro c c' y y' q q' hy hy' how hq hq' he
  have f : ∀ {c y}, Tree.get c (M.t.put (some o) b) = some y → ∃ z, M.t.get c = some z ∧ (y.own = true → z.own = true) := by
   intro c y h
   by_cases hb : b = c
   ·subst hb; exact ⟨x, hx, fun _ => hown⟩
   ·simp only [Tree.get_put_other _ _ hb] at h; exact ⟨y, h, id⟩
  obtain ⟨z, hz, hzo⟩ := f hy
  obtain ⟨z', hz', hzo'⟩ := f hy'
  exact hr.inj c c' z z' q q' hz hz' (how.imp hzo hzo') hq hq' he
 ·intro c hc
  have hc' : M.next.num ≤ c.num := hc
  have hne : b ≠ c := by intro h; subst h; omega
  simp only [Tree.get_put_other _ _ hne]
  exact hr.fresh c hc'
 ·intro c q hq
  have := hr.bound c q hq
  have := hb.size
  omega
 ·intro c y q hy hyo hq
  by_cases hbc : b = c
  ·subst hbc
   rw [hp] at hq; cases hq
   exact hr.low b x p hx hown hp
  ·simp only [Tree.get_put_other _ _ hbc] at hy
   exact hr.low c y q hy hyo hq
 ·intro c y hy
  by_cases hbc : b = c
  ·subst hbc
   simp only [Tree.get_put_same, Option.some.injEq] at hy
   subst hy
   simp [SObj.own] at hown'
  ·simp only [Tree.get_put_other _ _ hbc] at hy
   exact hr.glob c y hy
 ·intro c hc hm
  have hne : b ≠ c := by intro h; subst h; rw [hp] at hm; exact absurd hm (by simp)
  simp only [Tree.get_put_other _ _ hne]
 ·intro k _ hk
  exact hold k fun e => hk ⟨b, x, p, hx, hown, hp, e.symm⟩
 ·rintro k _ ⟨c, y, q, hy, hyo, hq, rfl⟩
  by_cases hc : b = c
  ·subst hc
   exact ⟨b, x, q, hx, hown, hq, rfl⟩
  ·simp only [Tree.get_put_other _ _ hc] at hy
   exact ⟨c, y, q, hy, hyo, hq, rfl⟩
 ·intro c hc
  have hne : b ≠ c := by intro h; subst h; omega
  simp only [Tree.get_put_other _ _ hne]
 ·intro c y hy
  by_cases hbc : b = c
  ·subst hbc
   simp only [Tree.get_put_same, Option.some.injEq] at hy
   subst hy
   simp [SObj.own] at hown'
  ·simp only [Tree.get_put_other _ _ hbc] at hy
   exact hy
end Go.Ev
namespace Go.Ev
open Go.RowKit
variable {P : Program}
noncomputable def nth (l : List SV) : Nat → Option SV :=
 List.rec (fun _ => none) (fun a _ ih i => Nat.rec (some a) (fun j _ => ih j) i) l
noncomputable def tk (n : Nat) : List SV → List SV :=
 Nat.rec (fun _ => []) (fun _ ih l => List.rec [] (fun a r _ => a :: ih r) l) n
noncomputable def dp (n : Nat) : List SV → List SV :=
 Nat.rec (fun l => l) (fun _ ih l => List.rec [] (fun _ r _ => ih r) l) n
noncomputable def len (l : List SV) : Nat := List.rec 0 (fun _ _ ih => Nat.succ ih) l
noncomputable def app (l k : List SV) : List SV := List.rec k (fun a _ ih => a :: ih) l
theorem zhb : ∀ (l : List SV) (i : Nat), nth l i = l[i]?
 | [], _ => by simp [nth]
 | a :: l, 0 => rfl
 | a :: l, i + 1 => by
  show nth l i = _
  rw [zhb l i]; simp
theorem zck : ∀ (n : Nat) (l : List SV), tk n l = l.take n
 | 0, l => by show ([] : List SV) = _; simp
 | n + 1, [] => by simp [tk]
 | n + 1, a :: l => by show a :: tk n l = _; rw [zck n l]; simp
theorem zc6 : ∀ (n : Nat) (l : List SV), dp n l = l.drop n
 | 0, l => by show l = _; simp
 | n + 1, [] => by simp [dp]
 | n + 1, a :: l => by show dp n l = _; rw [zc6 n l]; simp
theorem z93 : ∀ l : List SV, len l = l.length
 | [] => rfl
 | a :: l => by show Nat.succ (len l) = _; rw [z93 l]; rfl
theorem z9i : ∀ l k : List SV, app l k = l ++ k
 | [], _ => rfl
 | a :: l, k => by show a :: app l k = _; rw [z9i l k]; rfl
noncomputable def z9k (M : Mem) (b : Pos) : Option (List SV) := match M.t.get b with
 | some (.row _ _ c) => some c
 | some (.fix c) => some c
 | some (.ro c) => some c
 | _ => none
noncomputable def above (M : Mem) (b : Pos) : Bool := Nat.ble M.floor b.num
theorem zcm {M : Mem} {b : Pos} (h : above M b = true) : M.floor ≤ b.num := Nat.le_of_ble_eq_true h
noncomputable def zsg (M : Mem) (b : Pos) : Option (TypeId × RK) := match M.t.get b with
 | some (.row e k _) => match above M b with
  | true => some (e, k)
  | false => none
 | _ => none
noncomputable def zi8 (k : RK) (off : Nat) : Bool := match k with
 | .head k => Nat.ble k off
 | .lost => false
 | _ => true
theorem zlu {k : RK} {off : Nat} (h : zi8 k off = true) : (∀ j, k = .head j → j ≤ off) ∧ k ≠ .lost := by
 refine ⟨fun j hj => ?_, fun hj => ?_⟩
 ·subst hj
  exact Nat.le_of_ble_eq_true h
 ·subst hj
  simp [zi8] at h
noncomputable def zhk (k : RK) (off : Nat) : RK := match k with
 | .mark => .mark
 | .head k => .head (Nat.sub k off)
 | .whole => .head 0
 | .lost => .lost
theorem zpj (k : RK) (off : Nat) : zhk k off ≠ .whole := by
 cases k <;> simp [zhk]
theorem zp7 {M : Mem} {b : Pos} {e : TypeId} {k : RK} (h : zsg M b = some (e, k)) : (∃ c, M.t.get b = some (.row e k c)) ∧ M.floor ≤ b.num := by
 unfold zsg at h
 split at h
 ·rename_i hb
  split at h
  ·rename_i ha
   simp only [Option.some.injEq, Prod.mk.injEq] at h
   obtain ⟨rfl, rfl⟩ := h
   exact ⟨⟨_, hb⟩, zcm ha⟩
  ·simp at h
 ·simp at h
theorem zmd {M : Mem} {b : Pos} {c : List SV} (h : z9k M b = some c) : (∃ e k, M.t.get b = some (.row e k c)) ∨ M.t.get b = some (.fix c) ∨ M.t.get b = some (.ro c) := by
 unfold z9k at h
 cases hb : M.t.get b with
 | none => rw [hb] at h; simp at h
 | some o => rw [hb] at h; cases o <;> simp_all
theorem zdt {M : Mem} {b : Pos} {e : TypeId} {k : RK} {c : List SV} (h : M.t.get b = some (.row e k c)) : z9k M b = some c := by
 unfold z9k
 rw [h]
section
variable {B : Nat} {m : Map} {M : Mem} {w : World}
theorem zpd (hr : MRel B m M w) {b : Pos} {cells : List SV} {p : Pl} (hb : z9k M b = some cells) (hp : m b = some p) :
  ∃ e fz pre vs post, w.heap[p.block]? = some (.cells (pre ++ (vs ++ post)).toArray e fz) ∧ pre.length = p.shift ∧ pre.length + (vs.length + post.length) = p.size ∧ concs m cells = some vs := by
 rcases zmd hb with ⟨e, k, h⟩ | h | h
 rotate_left 2
 ·obtain ⟨e, fz, pre, vs, post, h1, _, h2, h3, h4, _⟩ := hr.objs b _ p h hp
  exact ⟨e, fz, pre, vs, post, h1, h2, h3, h4⟩
 ·obtain ⟨e, fz, pre, vs, post, h1, _, h2, h3, h4, _⟩ := hr.objs b _ p h hp
  exact ⟨e, fz, pre, vs, post, h1, h2, h3, h4⟩
 ·obtain ⟨e, fz, pre, vs, post, h1, _, h2, h3, h4, _⟩ := hr.objs b _ p h hp
  exact ⟨e, fz, pre, vs, post, h1, h2, h3, h4⟩
theorem znt (hr : MRel B m M w) {b : Pos} {cells : List SV} {p : Pl} (hb : z9k M b = some cells) (hp : m b = some p) {i : Nat} {s : SV} (hi : cells[i]? = some s) :
  ∃ v, conc m s = some v ∧ w.cell? ⟨p.block, i + p.shift, none⟩ = some v := by
 obtain ⟨e, fz, pre, vs, post, hh, hs, hl, hc⟩ := zpd hr hb hp
 obtain ⟨v, hv, hvi⟩ := zdf hc hi
 refine ⟨v, hv, ?_⟩
 have hlt : i < vs.length := (List.getElem?_eq_some_iff.1 hvi).1
 simp only [World.cell?, hh]
 simp only [Option.isSome_none, Bool.false_eq_true, if_false, List.getElem?_toArray]
 rw [List.getElem?_append_right (by omega), show i + p.shift - pre.length = i by omega, List.getElem?_append_left hlt, hvi]
theorem zdc (b o n : Nat) : (⟨b, o, none⟩ : Addr).add n = ⟨b, o + n, none⟩ := by unfold Addr.add; split <;> simp_all
theorem zcg (hr : MRel B m M w) {b : Pos} {cells : List SV} {p : Pl} (hb : z9k M b = some cells) (hp : m b = some p) {off n : Nat} (hn : off + n ≤ cells.length) :
  ∃ vs, concs m ((cells.drop off).take n) = some vs ∧ vs.length = n ∧ (∀ j v, vs[j]? = some v → w.cell? ((⟨p.block, off + p.shift, none⟩ : Addr).add j) = some v) ∧
   (loadCells ⟨p.block, off + p.shift, none⟩ n).run P w = .ok vs.toArray w := by
 obtain ⟨e, fz, pre, ws, post, hh, hs, hl, hc⟩ := zpd hr hb hp
 have h1 := zb9 n (zb8 off hc)
 have hlen := z86 h1
 have hlen' : ((ws.drop off).take n).length = n := by rw [hlen]; simp; omega
 have hcell : ∀ j v, ((ws.drop off).take n)[j]? = some v → w.cell? ((⟨p.block, off + p.shift, none⟩ : Addr).add j) = some v := by
  intro j v hj
  have hjn : j < n := by have := (List.getElem?_eq_some_iff.1 hj).1; omega
  rw [List.getElem?_take_of_lt hjn, List.getElem?_drop] at hj
  rw [zdc]
  simp only [World.cell?, hh, Option.isSome_none, Bool.false_eq_true, if_false, List.getElem?_toArray]
  have hlt : off + j < ws.length := (List.getElem?_eq_some_iff.1 hj).1
  rw [List.getElem?_append_right (by omega), show off + p.shift + j - pre.length = off + j by omega, List.getElem?_append_left hlt, hj]
 refine ⟨_, h1, hlen', hcell, ?_⟩
 have := run_loadCells_list (P := P) w ⟨p.block, off + p.shift, none⟩ _ hcell
 rwa [hlen'] at this
def one : SV → Bool
 | .agg _ => false
 | .tuple _ => false
 | _ => true
theorem zr1 {s : SV} {v : Value} (h : one s = true) (hv : conc m s = some v) : v.oneCell' = true := by
 cases s <;> simp only [conc, Option.map_eq_some_iff, Option.bind_eq_some_iff, Option.some.injEq] at hv
 case bool => subst hv; rfl
 case int => subst hv; rfl
 case str => subst hv; rfl
 case nilp => subst hv; rfl
 case ptr => obtain ⟨_, _, rfl⟩ := hv; rfl
 case nils => subst hv; rfl
 case slice => obtain ⟨_, _, rfl⟩ := hv; rfl
 case ope =>
  obtain ⟨p, _, hv⟩ := hv
  split at hv
  ·simp only [Option.some.injEq] at hv; subst hv; rfl
  ·exact absurd hv (by simp)
 case opz =>
  obtain ⟨p, _, hv⟩ := hv
  split at hv
  ·simp only [Option.some.injEq] at hv; subst hv; rfl
  ·exact absurd hv (by simp)
 case rawz => subst hv; rfl
 case nilm => subst hv; rfl
 case map => obtain ⟨_, _, rfl⟩ := hv; rfl
 case nilf => subst hv; rfl
 case fn => obtain ⟨_, _, _, _, rfl⟩ := hv; rfl
 case yield => obtain ⟨_, _, rfl⟩ := hv; rfl
 case nili => subst hv; rfl
 case iface => obtain ⟨_, _, rfl⟩ := hv; rfl
 case agg => exact absurd h (by simp [one])
 case tuple => exact absurd h (by simp [one])
noncomputable def ones (l : List SV) : Bool := List.rec true (fun a _ ih => Bool.rec false ih (one a)) l
theorem zm6 : ∀ {l : List SV}, ones l = true → ∀ s ∈ l, one s = true
 | a :: l, h, s, hs => by
  have h' : Bool.rec false (ones l) (one a) = true := h
  cases ha : one a with
  | false => rw [ha] at h'; exact absurd h' (by simp)
  | true =>
   rw [ha] at h'
   rcases List.mem_cons.1 hs with rfl | hm
   ·exact ha
   ·exact zm6 h' s hm
theorem zg3 : ∀ {l : List SV} {vs : List Value}, ones l = true → concs m l = some vs → ∀ v ∈ vs, v.oneCell' = true
 | [], vs, _, h, v, hv => by simp [concs] at h; subst h; simp at hv
 | a :: l, vs, h, hc, v, hv => by
  obtain ⟨x, r, hx, hr, rfl⟩ := z85 hc
  rcases List.mem_cons.1 hv with rfl | hm
  ·exact zr1 (zm6 h a (by simp)) hx
  ·exact zg3 (l := l) (by
    have h' : Bool.rec false (ones l) (one a) = true := h
    cases ha : one a with
    | false => rw [ha] at h'; exact absurd h' (by simp)
    | true => rw [ha] at h'; exact h') hr v hm
noncomputable def z9p (M : Mem) (b : Pos) (off : Nat) (new : List SV) : Option Mem :=
 match M.t.get b with
 | some (.row e k cells) => match above M b, zi8 k off, Nat.ble (Nat.add off (len new)) (len cells), ones new with
  | true, true, true, true => some (setT M b (some (.row e k (app (tk off cells) (app new (dp (Nat.add off (len new)) cells))))))
  | _, _, _, _ => none
 | _ => none
theorem zl0 {M M' : Mem} {b : Pos} {off : Nat} {new : List SV} (h : z9p M b off new = some M') :
  ∃ e k cells, M.t.get b = some (.row e k cells) ∧ M.floor ≤ b.num ∧ ((∀ j, k = .head j → j ≤ off) ∧ k ≠ .lost) ∧ off + new.length ≤ cells.length ∧ ones new = true ∧ M' = ⟨M.t.put (some (.row e k (cells.take off ++ (new ++ cells.drop (off + new.length))))) b, M.next, M.floor⟩ := by
 unfold z9p at h
 split at h
 ·rename_i e k cells hb
  split at h
  ·rename_i h1 h2 h3 h4
   simp only [z93, z9i, zck, zc6, Nat.add_eq, Option.some.injEq] at h h3
   exact ⟨e, k, cells, hb, zcm h1, zlu h2, Nat.le_of_ble_eq_true h3, h4, h.symm⟩
  ·simp at h
 ·simp at h
theorem zeh (g o : Nat) (t : TypeId) (fz : Nat × Nat) : ∀ (vs : List Value) (i : Nat) (cur : Array Value) (w : World), w.heap[g]? = some (.cells cur t fz) → o + i + vs.length ≤ cur.size → (fz.2 ≤ fz.1 ∨ cur.size ≤ fz.1 ∨ fz.2 ≤ o + i) → (∀ v ∈ vs, v.oneCell' = true) →
  (storeCells ⟨g, o, none⟩ vs i).run P w = .ok () (w.setRow g (cur.toList.take (o + i) ++ vs ++ cur.toList.drop (o + i + vs.length)).toArray)
 | [], i, cur, w, hg, _, _, _ => by
  simp only [storeCells, List.append_nil, List.length_nil, Nat.add_zero, List.take_append_drop, Array.toArray_toList]
  rw [setRow_self w g cur t fz hg]
  rfl
 | v :: rest, i, cur, w, hg, hl, hz, h1 => by
  have hi : o + i < cur.size := by simp at hl; omega
  have hc : w.cell? ⟨g, o + i, none⟩ = some cur[o + i] := by simp [World.cell?, hg, hi]
  have hf : w.frozen? ⟨g, o + i, none⟩ = false := by
   simp only [World.frozen?, hg]
   rw [Bool.and_eq_false_iff]
   rcases hz with h | h | h
   ·by_cases h2 : fz.1 ≤ o + i
    ·exact .inr (decide_eq_false (by omega))
    ·exact .inl (decide_eq_false h2)
   ·exact .inl (decide_eq_false (by omega))
   ·exact .inr (decide_eq_false (by omega))
  have hst : (store ((⟨g, o, none⟩ : Addr).add i) v).run P w = .ok () (w.setCell ⟨g, o + i, none⟩ v) := by
   rw [zdc, run_store P w _ v _ (h1 v (by simp))]
   simp [hc, hf]
  have hset : w.setCell ⟨g, o + i, none⟩ v = w.setRow g (cur.setIfInBounds (o + i) v) := by
   have hlt : g < w.heap.size := (Array.getElem?_eq_some_iff.1 hg).1
   have hv : w.heap[g] = .cells cur t fz := (Array.getElem?_eq_some_iff.1 hg).2
   unfold World.setCell World.setRow
   congr 1
   apply Array.ext
   ·simp
   ·intro k h1 h2
    rw [Array.getElem_modify, Array.getElem_modify]
    by_cases hk : g = k
    ·subst hk; simp [hv]
    ·simp [hk]
  have ih := zeh g o t fz rest (i + 1) (cur.setIfInBounds (o + i) v) (w.setRow g (cur.setIfInBounds (o + i) v)) (setRow_heap w g cur _ t fz hg) (by simp at hl ⊢; omega) (by rw [Array.size_setIfInBounds]; omega) (fun x hx => h1 x (by simp [hx]))
  simp only [storeCells, Sem.run_bind, hst, Result.andThen_ok, hset, ih]
  congr 1
  have h2 : ∀ a b, (w.setRow g a).setRow g b = w.setRow g b := by
   intro a b
   unfold World.setRow
   congr 1
   apply Array.ext
   ·simp
   ·intro k h1 h2
    rw [Array.getElem_modify, Array.getElem_modify, Array.getElem_modify]
    by_cases hk : g = k
    ·subst hk
     have hg2 : g < w.heap.size := by simpa using h2
     generalize w.heap[g] = ob
     cases ob <;> simp
    ·simp [hk]
  rw [h2]
  congr 2
  have hlt : o + i < cur.toList.length := by simpa using hi
  rw [Array.toList_setIfInBounds, List.set_eq_take_append_cons_drop, if_pos hlt]
  have hl2 : (cur.toList.take (o + i)).length = o + i := by rw [List.length_take]; omega
  have e1 : (cur.toList.take (o + i) ++ v :: cur.toList.drop (o + i + 1)).take (o + (i + 1)) = cur.toList.take (o + i) ++ [v] := by
   rw [List.take_append, List.take_of_length_le (by omega), hl2, show o + (i + 1) - (o + i) = 1 by omega]
   rfl
  have e2 : (cur.toList.take (o + i) ++ v :: cur.toList.drop (o + i + 1)).drop (o + (i + 1) + rest.length) = cur.toList.drop (o + i + (rest.length + 1)) := by
   rw [List.drop_append, List.drop_of_length_le (by omega), hl2, show o + (i + 1) + rest.length - (o + i) = rest.length + 1 by omega, List.nil_append, List.drop_succ_cons, List.drop_drop]
   congr 1
   omega
  rw [e1, e2]
  simp
theorem zeg (hr : MRel B m M w) {b : Pos} {off : Nat} {new : List SV} {p : Pl} {vs : List Value} {M' : Mem} (h : z9p M b off new = some M') (hp : m b = some p) (hv : concs m new = some vs) :
  ∃ w', (storeCells ⟨p.block, off + p.shift, none⟩ vs).run P w = .ok () w' ∧ z82 B m M w m M' w' := by
 obtain ⟨te, kk, cells, hb, hfl, hk, hn, ho, rfl⟩ := zl0 h
 obtain ⟨e, fz, pre, ws, post, hh, hz, hs, hl, hc, hte⟩ := hr.objs b _ p hb hp
 have hlen := z86 hv
 have hwl := z86 hc
 have hst := zeh (P := P) p.block (off + p.shift) e fz vs 0 _ w hh (by simp; omega) (by have := hz.store hk (sz := (pre ++ (ws ++ post)).toArray.size) (by simp; omega); exact this) (zg3 ho hv)
 refine ⟨_, hst, ?_⟩
 have hlow := hr.low b _ p hb rfl hp
 refine z82.update hr b _ _ p hb rfl hp (fun k hk => setRow_other w _ k _ hk) ⟨rfl, rfl, rfl, by simp [World.setRow], fun k hk => setRow_other w _ k _ (by omega)⟩ rfl ?_ hfl
 rw [setRow_heap w p.block _ _ e fz hh]
 refine ⟨e, fz, pre, ws.take off ++ (vs ++ ws.drop (off + new.length)), post, ?_, hz.len (by simp only [List.length_append, List.length_take, List.length_drop]; omega), hs, ?_, ?_, hte⟩
 ·congr 2
  have e1 : (pre ++ (ws ++ post)).take (off + p.shift + 0) = pre ++ ws.take off := by
   rw [List.take_append, List.take_of_length_le (by omega), List.take_append, List.take_eq_nil_iff.2 (.inl (by omega : off + p.shift + 0 - pre.length - ws.length = 0)), List.append_nil]
   congr 2; omega
  have e2 : (pre ++ (ws ++ post)).drop (off + p.shift + 0 + vs.length) = ws.drop (off + new.length) ++ post := by
   rw [List.drop_append, List.drop_of_length_le (by omega), List.nil_append, List.drop_append, show off + p.shift + 0 + vs.length - pre.length = off + new.length by omega, show off + new.length - ws.length = 0 by omega, List.drop_zero]
  simp only [e1, e2, List.append_assoc]
 ·simp only [List.length_append, List.length_take, List.length_drop]; omega
 ·exact z8b (zb9 _ hc) (z8b hv (zb8 _ hc))
noncomputable def z8k (e : TypeId) (k : RK) (M : Mem) (cells : List SV) : Mem := Mem.rec (fun t n f => ⟨t.put (some (.row e k cells)) n, n.succ, f⟩) M
theorem znq (hr : MRel B m M w) (kk : RK) (cells : List SV) (vs post : List Value) (hkk : kk ≠ .whole ∨ post = []) (e : TypeId) (hv : concs m cells = some vs) {w' : World} (hw : w'.heap = w.heap.push (.cells (vs ++ post).toArray e (0, 0))) (hos : w'.os = w.os) (htape : w'.tape = w.tape) (hout : w'.output = w.output) :
  z82 B m M w (fun b => if b = M.next then some ⟨w.heap.size, 0, vs.length + post.length⟩ else m b) (z8k e kk M cells) w' := by
 have := z82.fresh hr M.t ⟨w.heap.size, 0, vs.length + post.length⟩ (.row e kk cells) (w' := w') (fun _ _ h => h) (fun _ _ _ => rfl) (fun _ _ => rfl)
  (fun b x q hx hq => by
   have hlt := hr.bound b q hq
   refine ⟨by simp; omega, ?_⟩
   rw [hw, Array.getElem?_push, if_neg (by omega)])
  ⟨hos, htape, hout, by rw [hw]; simp, fun k hk => by have := hr.base; rw [hw, Array.getElem?_push, if_neg (by omega)]⟩ (by rw [hw]; simp) hr.base rfl (fun m' hm' => by
   rw [hw]
   exact ⟨e, (0, 0), [], vs, post, by simp, (by
    rcases hkk with h | h
    ·exact Frz.zero h _ _
    ·subst h
     cases kk with
     | whole => exact ⟨rfl, rfl, by simp⟩
     | mark => exact Frz.zero (by simp) _ _
     | head k => exact Frz.zero (by simp) _ _
     | lost => exact Frz.zero (by simp) _ _), rfl, by simp, z8s hm' _ _ hv, fun t h => Option.some.inj h⟩)
  (fun k hk _ => by rw [hw, Array.getElem?_push, if_neg (by omega)]) (fun h => absurd h (by simp))
 cases M with
 | mk t n f => exact this
end
end Go.Ev
