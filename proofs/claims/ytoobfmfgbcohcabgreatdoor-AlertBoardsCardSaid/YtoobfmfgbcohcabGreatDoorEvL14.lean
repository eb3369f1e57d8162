/- A part of the small machine. -/
import Derived.Test.YtoobfmfgbcohcabGreatDoorEvL12
import Derived.Deep.Slices
set_option linter.unusedVariables false
/- Arguments that are slices of structs that hold slices: rows that are only read, of which the first refers to the others. -/
namespace Go.Ev
open Go.RowKit
variable {P : Program}

theorem zy3 {w : World} {a : Addr} {v : Value} (h : w.cell? a = some v) : a.spot = none ∧ ∃ c e fz, w.heap[a.block]? = some (.cells c e fz) ∧ a.off < c.size := by
 unfold World.cell? at h
 split at h
 ·rename_i c e fz hobj
  split at h
  ·simp at h
  ·rename_i hs
   refine ⟨by simpa using hs, c, e, fz, hobj, ?_⟩
   apply Classical.byContradiction
   intro hn
   rw [Array.getElem?_eq_none (by omega)] at h
   simp at h
 ·simp at h

/-- Rows that lie from j on. -/
def AtM (m : Map) (j : Nat) (l : List BRow) : Prop := ∀ (i : Nat) (y : Bool × Pl × List SV), l[i]? = some (some y) → m (Pos.ofNat (j + i)) = some y.2.1
def AtF (f : Rd) (j : Nat) (l : List BRow) : Prop := ∀ (i : Nat) (y : Bool × Pl × List SV), l[i]? = some (some y) → f (Pos.ofNat (j + i)) = some y.2.2

theorem znx {z : Nat} {g : Nat → List SV} (hg : ∀ i, (g i).length = z) : ∀ n : Nat, ((List.range n).flatMap g).length = n * z
 | 0 => by simp
 | n + 1 => by
  rw [List.range_succ, List.flatMap_append, List.length_append, znx hg n]
  simp [hg, Nat.succ_mul]
theorem zur {z : Nat} {g : Nat → List SV} (hg : ∀ i, (g i).length = z) : ∀ (n i : Nat), i < n → (((List.range n).flatMap g).drop (i * z)).take z = g i
 | 0, i, h => by omega
 | n + 1, i, h => by
  have hl := znx hg n
  rw [List.range_succ, List.flatMap_append]
  simp only [List.flatMap_cons, List.flatMap_nil, List.append_nil]
  by_cases hi : i < n
  ·have h2 : (i + 1) * z ≤ n * z := Nat.mul_le_mul_right z hi
   rw [Nat.succ_mul] at h2
   rw [List.drop_append_of_le_length (by omega), List.take_append_of_le_length (by rw [List.length_drop]; omega)]
   exact zur hg n i hi
  ·obtain rfl : i = n := by omega
   rw [List.drop_append, List.drop_of_length_le (by omega), hl, Nat.sub_self, List.drop_zero, List.nil_append, List.take_of_length_le (by rw [hg]; exact Nat.le_refl _)]

/-- Rows before, and those of such an argument behind them. -/
theorem atM_app {pre l : List BRow} : AtM (mapB (pre ++ l)) pre.length l := fun i y hy => mapB_at (by rw [List.getElem?_append_right (Nat.le_add_right _ _), Nat.add_sub_cancel_left]; exact hy)
theorem atF_app {pre l : List BRow} (hf : ∀ (i : Nat) (y : Bool × Pl × List SV), l[i]? = some (some y) → y.1 = false) : AtF (rd (memB (pre ++ l))) pre.length l := fun i y hy => by
 have h1 := hf i y hy
 obtain ⟨a, p, c⟩ := y
 simp only at h1
 subst h1
 exact ro_rd (memB_ro (by rw [List.getElem?_append_right (Nat.le_add_right _ _), Nat.add_sub_cancel_left]; exact hy))
end Go.Ev

/- Short arrays by value, as structs: their equality, building, elements at places that are not known. -/
namespace Go.Ev
open Go.RowKit
variable {P : Program}
section
variable {e : Env} {M : Mem} {x y p q : Operand} {t u et : TypeId} {kk : IntKind}
theorem ex_buildA {ps : Array (Nat × Operand)} {l : List (Nat × SV)} {z r : List SV} {nn : Nat} (h : zzp e ps.toList = some l) (hz : zerosOf P t = some z) (hp : placesOf P t = some (.ar nn)) (hf : fillS (fun i => some (Nat.mul i nn, nn)) z l = some r) :
  execO P M (treeOf e) (.build t ps) = .val (.agg r) M := by
 show zt4 P M (treeOf e) t ps = _
 unfold zt4
 rw [zn6 h M]
 show zmk P t l M = _
 unfold zmk
 simp only [hz, hp, hf]
/-- An element of an array that is a value. -/
theorem ex_idxA {l : List SV} {s : SV} {nn z j : Nat} {k : Int} (h : ar e x = some (.agg l)) (h' : ar e y = some (.int kk k)) (hw : whole P t = some (.arr nn et z)) (hk : ztb k nn = some j) (hp : znj P et l (Nat.mul j z) = some s) : execO P M (treeOf e) (.index t x y) = .val s M := by
 show zsn P M (treeOf e) t x y = _
 unfold zsn
 rw [zig h, zig h']
 show zmh P t (.agg l) (.int kk k) M = _
 unfold zmh
 simp only [hw, hk, hp]
end
section
variable {F : Rd} {M : Mem} {H : List Ent} {e : Env} {p q : Operand} {t tt : TypeId} {rk : RK} {i j n off : Nat} {b : Pos} {c cs : List SV} {s : SV}
end
end Go.Ev

