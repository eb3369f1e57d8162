/- A part of the small machine. -/
import Derived.Test.YtajnglhkdglglaaGreatDoorEvL12
import Derived.Deep.Slices
set_option linter.unusedVariables false
/- Arguments that are slices of structs that hold slices: rows that are only read, of which the first refers to the others. -/
namespace Go.Ev
open Go.RowKit
variable {P : Program}

theorem ztg {w : World} {a : Addr} {v : Value} (h : w.cell? a = some v) : a.spot = none ∧ ∃ c e fz, w.heap[a.block]? = some (.cells c e fz) ∧ a.off < c.size := by
 unfold World.cell? at h
 split at h
 ·rename_i c e fz hobj
  split at h
  ·simp at h
  ·rename_i hs
   refine ⟨by simpa using hs, c, e, fz, hobj, ?_⟩
   apply Classical.byContradiction
   intro hn
   rw [Array.getElem?_eq_none (by omega)] at h
   simp at h
 ·simp at h

/-- Rows that lie from j on. -/
def AtM (m : Map) (j : Nat) (l : List Yz) : Prop := ∀ (i : Nat) (y : Bool × Pl × List SV), l[i]? = some (some y) → m (Pos.ofNat (j + i)) = some y.2.1
def AtF (f : Rd) (j : Nat) (l : List Yz) : Prop := ∀ (i : Nat) (y : Bool × Pl × List SV), l[i]? = some (some y) → f (Pos.ofNat (j + i)) = some y.2.2

theorem zjl {z : Nat} {g : Nat → List SV} (hg : ∀ i, (g i).length = z) : ∀ n : Nat, ((List.range n).flatMap g).length = n * z
 | 0 => by simp
 | n + 1 => by
  rw [List.range_succ, List.flatMap_append, List.length_append, zjl hg n]
  simp [hg, Nat.succ_mul]
theorem zrh {z : Nat} {g : Nat → List SV} (hg : ∀ i, (g i).length = z) : ∀ (n i : Nat), i < n → (((List.range n).flatMap g).drop (i * z)).take z = g i
 | 0, i, h => by omega
 | n + 1, i, h => by
  have hl := zjl hg n
  rw [List.range_succ, List.flatMap_append]
  simp only [List.flatMap_cons, List.flatMap_nil, List.append_nil]
  by_cases hi : i < n
  ·have h2 : (i + 1) * z ≤ n * z := Nat.mul_le_mul_right z hi
   rw [Nat.succ_mul] at h2
   rw [List.drop_append_of_le_length (by omega), List.take_append_of_le_length (by rw [List.length_drop]; omega)]
   exact zrh hg n i hi
  ·obtain rfl : i = n := by omega
   rw [List.drop_append, List.drop_of_length_le (by omega), hl, Nat.sub_self, List.drop_zero, List.nil_append, List.take_of_length_le (by rw [hg]; exact Nat.le_refl _)]

/-- Rows before, and those of such an argument behind them. -/
theorem atM_app {pre l : List Yz} : AtM (mapB (pre ++ l)) pre.length l := fun i y hy => zxt (by rw [List.getElem?_append_right (Nat.le_add_right _ _), Nat.add_sub_cancel_left]; exact hy)
theorem atF_app {pre l : List Yz} (hf : ∀ (i : Nat) (y : Bool × Pl × List SV), l[i]? = some (some y) → y.1 = false) : AtF (rd (memB (pre ++ l))) pre.length l := fun i y hy => by
 have h1 := hf i y hy
 obtain ⟨a, p, c⟩ := y
 simp only at h1
 subst h1
 exact zwq (zxu (by rw [List.getElem?_append_right (Nat.le_add_right _ _), Nat.add_sub_cancel_left]; exact hy))
end Go.Ev

/- Short arrays by value, as structs: their equality, building, elements at places that are not known. -/
namespace Go.Ev
open Go.RowKit
variable {P : Program}
section
variable {e : Env} {M : Mem} {x y p q : Operand} {t u et : TypeId} {kk : IntKind}
/-- An element of an array that is a value. -/
theorem ex_idxA {l : List SV} {s : SV} {nn z j : Nat} {k : Int} (h : ar e x = some (.agg l)) (h' : ar e y = some (.int kk k)) (hw : whole P t = some (.arr nn et z)) (hk : znt k nn = some j) (hp : zij P et l (Nat.mul j z) = some s) : Qy P M (treeOf e) (.index t x y) = .val s M := by
 show zop P M (treeOf e) t x y = _
 unfold zop
 rw [zds h, zds h']
 show zid P t (.agg l) (.int kk k) M = _
 unfold zid
 simp only [hw, hk, hp]
end
section
variable {F : Rd} {M : Mem} {H : List Ent} {e : Env} {p q : Operand} {t tt : TypeId} {rk : RK} {i j n off : Nat} {b : Pos} {c cs : List SV} {s : SV}
end
end Go.Ev

