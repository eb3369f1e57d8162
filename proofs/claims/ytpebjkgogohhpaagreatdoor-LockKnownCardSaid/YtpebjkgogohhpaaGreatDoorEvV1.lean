/- A small machine for runs of closed calls: its values, its memory, and what stands for them in the model. -/
import Derived.Control
import Derived.Calls
namespace Go.Ev

/-- Names of rows: positive numbers in binary, the lowest digit first. -/
inductive Pos where
  | one
  | b0 (p : Pos)
  | b1 (p : Pos)
  deriving DecidableEq

namespace Pos

noncomputable def succ (p : Pos) : Pos := Pos.rec (.b0 .one) (fun p _ => .b1 p) (fun _ ih => .b0 ih) p

noncomputable def ofNat (n : Nat) : Pos := Nat.rec .one (fun _ ih => ih.succ) n

def num : Pos → Nat
  | .one => 1
  | .b0 p => 2 * p.num
  | .b1 p => 2 * p.num + 1

theorem succ_one : succ .one = .b0 .one := rfl
theorem succ_b0 (p : Pos) : succ (.b0 p) = .b1 p := rfl
theorem succ_b1 (p : Pos) : succ (.b1 p) = .b0 p.succ := rfl
theorem ofNat_zero : ofNat 0 = .one := rfl
theorem ofNat_succ (n : Nat) : ofNat (n + 1) = (ofNat n).succ := rfl

theorem num_pos (p : Pos) : 1 ≤ p.num := by
  induction p with
  | one => simp [num]
  | b0 p ih => simp [num]; omega
  | b1 p ih => simp [num]

theorem num_succ (p : Pos) : p.succ.num = p.num + 1 := by
  induction p with
  | one => rfl
  | b0 p ih => rw [succ_b0]; simp [num]
  | b1 p ih => rw [succ_b1]; simp only [num, ih]; omega

theorem num_ofNat (n : Nat) : (ofNat n).num = n + 1 := by
  induction n with
  | zero => rfl
  | succ n ih => rw [ofNat_succ, num_succ, ih]

theorem num_inj {p q : Pos} (h : p.num = q.num) : p = q := by
  induction p generalizing q with
  | one =>
    cases q with
    | one => rfl
    | b0 q => simp [num] at h; omega
    | b1 q => have := num_pos q; simp [num] at h; omega
  | b0 p ih =>
    cases q with
    | one => simp [num] at h; omega
    | b0 q => have e : p = q := ih (by simp [num] at h; omega); rw [e]
    | b1 q => simp [num] at h; omega
  | b1 p ih =>
    cases q with
    | one => have := num_pos p; simp [num] at h; omega
    | b0 q => simp [num] at h; omega
    | b1 q => have e : p = q := ih (by simp [num] at h; omega); rw [e]

theorem ofNat_inj {m n : Nat} (h : ofNat m = ofNat n) : m = n := by
  have := congrArg num h
  rw [num_ofNat, num_ofNat] at this
  omega

noncomputable def beq (p : Pos) : Pos → Bool :=
  Pos.rec (fun q => Pos.rec true (fun _ _ => false) (fun _ _ => false) q)
    (fun _ ih q => Pos.rec false (fun q _ => ih q) (fun _ _ => false) q)
    (fun _ ih q => Pos.rec false (fun _ _ => false) (fun q _ => ih q) q) p

theorem beq_iff (p q : Pos) : p.beq q = true ↔ p = q := by
  induction p generalizing q with
  | one => cases q <;> simp [beq]
  | b0 p ih => cases q with
    | one => simp [beq]
    | b0 q => rw [show (b0 p).beq (b0 q) = p.beq q from rfl, ih]; simp
    | b1 q => simp [beq]
  | b1 p ih => cases q with
    | one => simp [beq]
    | b0 q => simp [beq]
    | b1 q => rw [show (b1 p).beq (b1 q) = p.beq q from rfl, ih]; simp

end Pos

/-- A tree of entries by name. -/
inductive Tree (α : Type) where
  | leaf : Tree α
  | node : Tree α → Option α → Tree α → Tree α

namespace Tree
variable {α : Type}

noncomputable def get (p : Pos) : Tree α → Option α :=
  Pos.rec (fun t => Tree.rec none (fun _ v _ _ _ => v) t)
    (fun _ ih t => Tree.rec none (fun l _ _ _ _ => ih l) t)
    (fun _ ih t => Tree.rec none (fun _ _ r _ _ => ih r) t) p

noncomputable def put (x : Option α) (p : Pos) : Tree α → Tree α :=
  Pos.rec (fun t => Tree.rec (.node .leaf x .leaf) (fun l _ r _ _ => .node l x r) t)
    (fun _ ih t => Tree.rec (.node (ih .leaf) none .leaf) (fun l v r _ _ => .node (ih l) v r) t)
    (fun _ ih t => Tree.rec (.node .leaf none (ih .leaf)) (fun l v r _ _ => .node l v (ih r)) t) p

theorem get_leaf (p : Pos) : get p (.leaf : Tree α) = none := by cases p <;> rfl
theorem get_one (l : Tree α) (v) (r) : get .one (.node l v r) = v := rfl
theorem get_b0 (p) (l : Tree α) (v) (r) : get (.b0 p) (.node l v r) = get p l := rfl
theorem get_b1 (p) (l : Tree α) (v) (r) : get (.b1 p) (.node l v r) = get p r := rfl

theorem get_put (x : Option α) (p q : Pos) (t : Tree α) : get q (put x p t) = if p = q then x else get q t := by
  induction p generalizing q t with
  | one =>
    cases t with
    | leaf => cases q <;> simp [put, get_one, get_b0, get_b1, get_leaf]
    | node l v r => cases q <;> simp [put, get_one, get_b0, get_b1]
  | b0 p ih =>
    cases t with
    | leaf =>
      show get q (.node (put x p .leaf) none .leaf) = _
      cases q with
      | one => simp [get_one, get_leaf]
      | b0 q => rw [get_b0, ih]; simp [get_leaf]
      | b1 q => rw [get_b1]; simp [get_leaf]
    | node l v r =>
      show get q (.node (put x p l) v r) = _
      cases q with
      | one => simp [get_one]
      | b0 q => rw [get_b0, ih]; simp [get_b0]
      | b1 q => rw [get_b1]; simp [get_b1]
  | b1 p ih =>
    cases t with
    | leaf =>
      show get q (.node .leaf none (put x p .leaf)) = _
      cases q with
      | one => simp [get_one, get_leaf]
      | b0 q => rw [get_b0]; simp [get_leaf]
      | b1 q => rw [get_b1, ih]; simp [get_leaf]
    | node l v r =>
      show get q (.node l v (put x p r)) = _
      cases q with
      | one => simp [get_one]
      | b0 q => rw [get_b0]; simp [get_b0]
      | b1 q => rw [get_b1, ih]; simp [get_b1]

theorem get_put_same (x : Option α) (p : Pos) (t : Tree α) : get p (put x p t) = x := by simp [get_put]
theorem get_put_other (x : Option α) {p q : Pos} (t : Tree α) (h : p ≠ q) : get q (put x p t) = get q t := by simp [get_put, h]

end Tree

/-- Values, rows by name. -/
inductive SV where
  | bool (b : Bool)
  | int (k : IntKind) (n : Int)
  | str (s : List UInt8)
  | nilp
  | ptr (b : Pos) (off : Nat)
  | nils
  | slice (b : Pos) (off len cap : Nat)
  | ope (b : Pos) (off len size : Nat)
  | nilm
  | map (b : Pos)
  | nilf
  | fn (f : Fn) (first captured : List SV)
  | yield (b : Pos)
  | nili
  | iface (t : TypeId) (v : SV)
  | agg (l : List SV)
  | tuple (l : List SV)

/-- Where a row lies in memory. -/
structure Pl where
  block : Nat
  shift : Nat
  size : Nat

abbrev Map := Pos → Option Pl

mutual
/-- The value that stands for sv, if all its rows are placed. -/
def conc (m : Map) : SV → Option Value
  | .bool b => some (.bool b)
  | .int k n => some (.int k n)
  | .str s => some (.string ⟨s.toArray⟩)
  | .nilp => some (.pointer none)
  | .ptr b off => (m b).map fun p => .pointer (some ⟨p.block, off + p.shift, none⟩)
  | .nils => some (.slice none 0 0)
  | .slice b off len cap => (m b).map fun p => .slice (some ⟨p.block, off + p.shift, none⟩) len cap
  | .ope b off len z => (m b).bind fun p => if 0 < z ∧ off + p.shift + len * z ≤ p.size then some (.slice (some ⟨p.block, off + p.shift, none⟩) len ((p.size - (off + p.shift)) / z)) else none
  | .nilm => some (.map none)
  | .map b => (m b).map fun p => .map (some p.block)
  | .nilf => some .nilFunc
  | .fn f first captured => (concs m first).bind fun a => (concs m captured).map fun b => .func f a.toArray b.toArray
  | .yield b => (m b).map fun p => .func (.yield p.block) #[] #[]
  | .nili => some .nilIface
  | .iface t v => (conc m v).map (.iface t ·)
  | .agg l => (concs m l).map fun a => .agg a.toArray
  | .tuple l => (concs m l).map fun a => .tuple a.toArray
def concs (m : Map) : List SV → Option (List Value)
  | [] => some []
  | v :: l => (conc m v).bind fun a => (concs m l).map fun b => a :: b
end

/-- m' places what m places, and maybe more. -/
def Ext (m m' : Map) : Prop := ∀ b p, m b = some p → m' b = some p

theorem Ext.refl (m : Map) : Ext m m := fun _ _ h => h
theorem Ext.trans {a b c : Map} (h : Ext a b) (h' : Ext b c) : Ext a c := fun x p e => h' x p (h x p e)

mutual
theorem conc_ext {m m' : Map} (h : Ext m m') : ∀ (s : SV) (v : Value), conc m s = some v → conc m' s = some v
  | .bool _, _, e => e
  | .int .., _, e => e
  | .str _, _, e => e
  | .nilp, _, e => e
  | .nils, _, e => e
  | .nilm, _, e => e
  | .nilf, _, e => e
  | .nili, _, e => e
  | .ptr b off, v, e => by
    simp only [conc, Option.map_eq_some_iff] at e ⊢
    obtain ⟨p, hp, rfl⟩ := e
    exact ⟨p, h _ _ hp, rfl⟩
  | .slice b off len cap, v, e => by
    simp only [conc, Option.map_eq_some_iff] at e ⊢
    obtain ⟨p, hp, rfl⟩ := e
    exact ⟨p, h _ _ hp, rfl⟩
  | .ope b off len cap, v, e => by
    simp only [conc, Option.bind_eq_some_iff] at e ⊢
    obtain ⟨p, hp, hv⟩ := e
    exact ⟨p, h _ _ hp, hv⟩
  | .map b, v, e => by
    simp only [conc, Option.map_eq_some_iff] at e ⊢
    obtain ⟨p, hp, rfl⟩ := e
    exact ⟨p, h _ _ hp, rfl⟩
  | .fn f first captured, v, e => by
    simp only [conc, Option.bind_eq_some_iff, Option.map_eq_some_iff] at e ⊢
    obtain ⟨a, ha, b, hb, rfl⟩ := e
    exact ⟨a, concs_ext h _ _ ha, b, concs_ext h _ _ hb, rfl⟩
  | .yield b, v, e => by
    simp only [conc, Option.map_eq_some_iff] at e ⊢
    obtain ⟨p, hp, rfl⟩ := e
    exact ⟨p, h _ _ hp, rfl⟩
  | .iface t s, v, e => by
    simp only [conc, Option.map_eq_some_iff] at e ⊢
    obtain ⟨p, hp, rfl⟩ := e
    exact ⟨p, conc_ext h _ _ hp, rfl⟩
  | .agg l, v, e => by
    simp only [conc, Option.map_eq_some_iff] at e ⊢
    obtain ⟨p, hp, rfl⟩ := e
    exact ⟨p, concs_ext h _ _ hp, rfl⟩
  | .tuple l, v, e => by
    simp only [conc, Option.map_eq_some_iff] at e ⊢
    obtain ⟨p, hp, rfl⟩ := e
    exact ⟨p, concs_ext h _ _ hp, rfl⟩
theorem concs_ext {m m' : Map} (h : Ext m m') : ∀ (s : List SV) (v : List Value), concs m s = some v → concs m' s = some v
  | [], _, e => e
  | s :: l, v, e => by
    simp only [concs, Option.bind_eq_some_iff, Option.map_eq_some_iff] at e ⊢
    obtain ⟨a, ha, b, hb, rfl⟩ := e
    exact ⟨a, conc_ext h _ _ ha, b, concs_ext h _ _ hb, rfl⟩
end

theorem concs_nil (m : Map) : concs m [] = some [] := by simp [concs]
theorem concs_cons {m : Map} {s : SV} {l : List SV} {v : Value} {vs : List Value} (h : conc m s = some v) (hl : concs m l = some vs) : concs m (s :: l) = some (v :: vs) := by
  simp [concs, h, hl]
theorem concs_cons_inv {m : Map} {s : SV} {l : List SV} {vs : List Value} (h : concs m (s :: l) = some vs) : ∃ v r, conc m s = some v ∧ concs m l = some r ∧ vs = v :: r := by
  simp only [concs, Option.bind_eq_some_iff, Option.map_eq_some_iff] at h
  obtain ⟨a, ha, b, hb, rfl⟩ := h
  exact ⟨a, b, ha, hb, rfl⟩
theorem concs_length {m : Map} : ∀ {l : List SV} {vs : List Value}, concs m l = some vs → vs.length = l.length
  | [], vs, h => by simp [concs] at h; simp [← h]
  | s :: l, vs, h => by
    obtain ⟨v, r, _, hr, rfl⟩ := concs_cons_inv h
    simp [concs_length hr]
theorem concs_get {m : Map} : ∀ {l : List SV} {vs : List Value} {i : Nat} {s : SV}, concs m l = some vs → l[i]? = some s → ∃ v, conc m s = some v ∧ vs[i]? = some v
  | [], _, _, _, _, h => by simp at h
  | s :: l, vs, i, x, h, hi => by
    obtain ⟨v, r, hv, hr, rfl⟩ := concs_cons_inv h
    cases i with
    | zero => simp at hi; subst hi; exact ⟨v, hv, rfl⟩
    | succ i =>
      simp only [List.getElem?_cons_succ] at hi ⊢
      exact concs_get hr hi
theorem concs_append {m : Map} : ∀ {l k : List SV} {vs ws : List Value}, concs m l = some vs → concs m k = some ws → concs m (l ++ k) = some (vs ++ ws)
  | [], k, vs, ws, h, hk => by simp [concs] at h; simp [← h, hk]
  | s :: l, k, vs, ws, h, hk => by
    obtain ⟨v, r, hv, hr, rfl⟩ := concs_cons_inv h
    exact concs_cons hv (concs_append hr hk)
theorem concs_append_inv {m : Map} : ∀ {l k : List SV} {vs : List Value}, concs m (l ++ k) = some vs → ∃ a b, concs m l = some a ∧ concs m k = some b ∧ vs = a ++ b
  | [], k, vs, h => ⟨[], vs, concs_nil m, h, rfl⟩
  | s :: l, k, vs, h => by
    obtain ⟨v, r, hv, hr, rfl⟩ := concs_cons_inv h
    obtain ⟨a, b, ha, hb, rfl⟩ := concs_append_inv hr
    exact ⟨v :: a, b, concs_cons hv ha, hb, rfl⟩
theorem concs_take {m : Map} (n : Nat) : ∀ {l : List SV} {vs : List Value}, concs m l = some vs → concs m (l.take n) = some (vs.take n) := by
  induction n with
  | zero => intro l vs _; simp [concs]
  | succ n ih =>
    intro l vs h
    cases l with
    | nil => simp [concs] at h; subst h; simp [concs]
    | cons s l =>
      obtain ⟨v, r, hv, hr, rfl⟩ := concs_cons_inv h
      exact concs_cons hv (ih hr)
theorem concs_drop {m : Map} (n : Nat) : ∀ {l : List SV} {vs : List Value}, concs m l = some vs → concs m (l.drop n) = some (vs.drop n) := by
  induction n with
  | zero => intro l vs h; simpa using h
  | succ n ih =>
    intro l vs h
    cases l with
    | nil => simp [concs] at h; subst h; simp [concs]
    | cons s l =>
      obtain ⟨v, r, hv, hr, rfl⟩ := concs_cons_inv h
      exact ih hr

end Go.Ev
