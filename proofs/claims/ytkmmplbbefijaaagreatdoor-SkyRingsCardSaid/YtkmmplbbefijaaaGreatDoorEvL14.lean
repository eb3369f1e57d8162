/- A part of the small machine. -/
import Derived.Test.YtkmmplbbefijaaaGreatDoorEvL12
import Derived.Deep.Slices
set_option linter.unusedVariables false
namespace Go.Ev
open Go.RowKit
variable {P : Program}
structure InnerArg {α : Type} (W : World) (z : Nat) (enc : α → List SV) (v : Value) (l : List α) (r : ARow) (s : Nat → SV) : Prop where
  row : ∀ x, r = some x → x.1.block < W.heap.size ∧ ∀ m, RowRel m x.1 none .lost x.2 W.heap[x.1.block]?
  val : ∀ (m : Map) (j : Nat), (∀ x, r = some x → m (Pos.ofNat j) = some x.1) → conc m (s j) = some v
  slc : ∀ (f : Rd) (j : Nat), (∀ x, r = some x → f (Pos.ofNat j) = some x.2) → Slc f z (FlatR enc) (s j) l
  len : l.length ≤ maxLen
def AtM (m : Map) (j : Nat) (l : List BRow) : Prop := ∀ (i : Nat) (y : Bool × Pl × List SV), l[i]? = some (some y) → m (Pos.ofNat (j + i)) = some y.2.1
def AtF (f : Rd) (j : Nat) (l : List BRow) : Prop := ∀ (i : Nat) (y : Bool × Pl × List SV), l[i]? = some (some y) → f (Pos.ofNat (j + i)) = some y.2.2
structure ElemArg {α : Type} (W : World) (z : Nat) (R : Rd → List SV → α → Prop) (Q : α → Prop) (cs : List Value) (a : α) (r : ARow) (s : Nat → List SV) : Prop where
  row : ∀ x, r = some x → x.1.block < W.heap.size ∧ ∀ m, RowRel m x.1 none .lost x.2 W.heap[x.1.block]?
  val : ∀ (m : Map) (j : Nat), (∀ x, r = some x → m (Pos.ofNat j) = some x.1) → concs m (s j) = some cs
  rep : ∀ (f : Rd) (j : Nat), (∀ x, r = some x → f (Pos.ofNat j) = some x.2) → R f (s j) a
  len : ∀ j, (s j).length = z
  ok : Q a
structure NestArg {α : Type} (W : World) (z : Nat) (R : Rd → List SV → α → Prop) (Q : α → Prop) (v : Value) (l : List α) (rows : Nat → List BRow) (s : Nat → SV) : Prop where
  row : ∀ (j i : Nat) (y : Bool × Pl × List SV), (rows j)[i]? = some (some y) → y.1 = false ∧ y.2.1.block < W.heap.size ∧ ∀ m, AtM m j (rows j) → RowRel m y.2.1 none .lost y.2.2 W.heap[y.2.1.block]?
  val : ∀ (m : Map) (j : Nat), AtM m j (rows j) → conc m (s j) = some v
  slc : ∀ (f : Rd) (j : Nat), AtF f j (rows j) → Slc f z (R f) (s j) l
  len : l.length ≤ maxLen
  all : ∀ a ∈ l, Q a
end Go.Ev
namespace Go.Ev
open Go.RowKit
variable {P : Program}
section
variable {e : Env} {M : Mem} {x y p q : Operand} {t u et : TypeId} {kk : IntKind}
theorem eqA_ar {d nn z : Nat} {xs ys : List SV} {r : Bool} (h : aggK P t = some (.ar nn et z)) (he : eqEs P (eqA P d et) et z xs ys nn 0 = some r) : eqA P (d + 1) t (.agg xs) (.agg ys) = some r := by
  unfold eqA
  simp only [h, he]
theorem eqEs_cons {eq : SV → SV → Option Bool} {z n i : Nat} {xs ys : List SV} {a b : SV} {r r' : Bool} (h1 : partS P et xs (Nat.mul i z) = some a) (h2 : partS P et ys (Nat.mul i z) = some b) (he : eq a b = some r) (hl : eqEs P eq et z xs ys n (Nat.succ i) = some r') : eqEs P eq et z xs ys (n + 1) i = some (r && r') := by
  unfold eqEs
  simp only [h1, h2, he]
  cases r
  · rfl
  · exact hl
theorem eqEs_nil {eq : SV → SV → Option Bool} {z i : Nat} {xs ys : List SV} : eqEs P eq et z xs ys 0 i = some true := rfl
theorem ex_buildA {ps : Array (Nat × Operand)} {l : List (Nat × SV)} {z r : List SV} {nn : Nat} (h : pars e ps.toList = some l) (hz : zerosOf P t = some z) (hp : placesOf P t = some (.ar nn)) (hf : fillS (fun i => some (Nat.mul i nn, nn)) z l = some r) :
    execO P M (treeOf e) (.build t ps) = .val (.agg r) M := by
  show eBuild P M (treeOf e) t ps = _
  unfold eBuild
  rw [pars_args h M]
  show xBuild P t l M = _
  unfold xBuild
  simp only [hz, hp, hf]
theorem ex_idxA {l : List SV} {s : SV} {nn z j : Nat} {k : Int} (h : ar e x = some (.agg l)) (h' : ar e y = some (.int kk k)) (hw : whole P t = some (.arr nn et z)) (hk : natIn k nn = some j) (hp : partS P et l (Nat.mul j z) = some s) : execO P M (treeOf e) (.index t x y) = .val s M := by
  show eIndex P M (treeOf e) t x y = _
  unfold eIndex
  rw [ar_arg h, ar_arg h']
  show xIndex P t (.agg l) (.int kk k) M = _
  unfold xIndex
  simp only [hw, hk, hp]
theorem part_at {l : List SV} {s : SV} {j : Nat} (h : aggSize P et = some none) (hs : l[j]? = some s) : partS P et l (Nat.mul j 1) = some s := by
  refine part_one h ?_
  rw [nth_eq]
  show l[j * 1]? = some s
  rw [Nat.mul_one]
  exact hs
theorem inA_lt {k : Int} {n j : Nat} (h : inA k n = some j) : j < n := (natIn_eq (inA_natIn h)).2
end
section
variable {F : Rd} {M : Mem} {H : List Ent} {e : Env} {p q : Operand} {t tt : TypeId} {rk : RK} {i j n off : Nat} {b : Pos} {c cs : List SV} {s : SV}
theorem set_mid {a a' A B : List SV} (ha : a.length = n) (hs : a.set j s = a') (hA : A.length = off) (hj : j < n) : (A ++ (a ++ B)).take (off + j * 1) ++ ([s] ++ (A ++ (a ++ B)).drop (off + j * 1 + 1)) = A ++ (a' ++ B) := by
  subst hs hA
  have h := List.set_eq_take_append_cons_drop (l := A ++ (a ++ B)) (i := A.length + j * 1) (a := s)
  rw [if_pos (by simp; omega)] at h
  rw [List.singleton_append, ← h, Nat.mul_one, List.set_append_right (h := by omega), Nat.add_sub_cancel_left, List.set_append_left (h := by omega)]
theorem ExG.storeV {a' : List SV} (h : ar e p = some (.ptr b (off + j * 1))) (h' : ar e q = some s) (hcs : cellsOf s = [s]) (hH : Has F M H) (hi : H[i]? = some (.obj b (.row tt .whole c))) (hz : szOf P t = some 1) (hc : (c.drop off).take cs.length = cs) (hj : j < cs.length) (h1 : ones [s] = true) (hs : cs.set j s = a') {c' : List SV} (hc' : c.take off ++ (a' ++ c.drop (off + cs.length)) = c') :
    ExG P M e (.store t p q) fun v M' => v = .tuple [] ∧ Has F M' (H.set i (.obj b (.row tt .whole c'))) := by
  have hlen : off + cs.length ≤ c.length := by
    have := congrArg List.length hc
    simp only [List.length_take, List.length_drop] at this
    omega
  have hsplit : c = c.take off ++ (cs ++ c.drop (off + cs.length)) := by
    have h2 : c.drop off = cs ++ c.drop (off + cs.length) := by
      have := (List.take_append_drop cs.length (c.drop off)).symm
      rw [hc, List.drop_drop] at this
      exact this
    rw [← h2, List.take_append_drop]
  refine ExG.storeC (zz := 1) (c' := c') h h' hcs hH hi hz rfl rfl (Nat.ble_eq_true_of_le (by omega)) h1 ?_
  have := set_mid (B := c.drop (off + cs.length)) rfl hs (A := c.take off) (off := off) (by simp; omega) hj
  rw [← hsplit] at this
  rw [this, hc']
end
end Go.Ev
