/- A part of the small machine. -/
import Derived.Test.YtjddbfpinjjkkaaGreatDoorEvL16
import Derived.Lib.LaidTab
set_option linter.unusedVariables false
namespace Go.Ev
open Go.RowKit
variable {P : Program}
structure zmn {α : Type} (W : World) (z : Nat) (R : Rd → List SV → α → Prop) (Q : α → Prop) (cs : List Value) (a : α) (K : Nat) (rows : Nat → List BRow) (s : Nat → List SV) : Prop where
 cnt : ∀ j, (rows j).length = K
 row : ∀ (j i : Nat) (y : Bool × Pl × List SV), (rows j)[i]? = some (some y) → y.1 = false ∧ y.2.1.block < W.heap.size ∧ ∀ m, AtM m j (rows j) → RowRel m y.2.1 none .lost y.2.2 W.heap[y.2.1.block]?
 val : ∀ (m : Map) (j : Nat), AtM m j (rows j) → concs m (s j) = some cs
 rep : ∀ (f : Rd) (j : Nat), AtF f j (rows j) → R f (s j) a
 len : ∀ j, (s j).length = z
 ok : Q a
structure NestN {α : Type} (W : World) (z : Nat) (R : Rd → List SV → α → Prop) (Q : α → Prop) (v : Value) (l : List α) (K : Nat) (rows : Nat → List BRow) (s : Nat → SV) : Prop where
 cnt : ∀ j, (rows j).length = K
 row : ∀ (j i : Nat) (y : Bool × Pl × List SV), (rows j)[i]? = some (some y) → y.1 = false ∧ y.2.1.block < W.heap.size ∧ ∀ m, AtM m j (rows j) → RowRel m y.2.1 none .lost y.2.2 W.heap[y.2.1.block]?
 val : ∀ (m : Map) (j : Nat), AtM m j (rows j) → conc m (s j) = some v
 slc : ∀ (f : Rd) (j : Nat), AtF f j (rows j) → Slc f z (R f) (s j) l
 len : l.length ≤ maxLen
 all : ∀ a ∈ l, Q a
section
variable {ρ : Nat → Nat → List BRow} {κ : Nat → Nat}
end
theorem zmn.slice {α : Type} {W : World} {z : Nat} {R : Rd → List SV → α → Prop} {Q : α → Prop} {v : Value} {l : List α} {K : Nat} {rows : Nat → List BRow} {s : Nat → SV} {R' : Rd → List SV → List α → Prop} (h : NestN W z R Q v l K rows s) (hR : ∀ f j, Slc f z (R f) (s j) l → R' f [s j] l) : zmn W 1 R' (fun l => l.length ≤ maxLen ∧ ∀ a ∈ l, Q a) [v] l K rows (fun j => [s j]) :=
 ⟨h.cnt, h.row, fun m j hj => by simp [concs, h.val m j hj], fun f j hj => hR f j (h.slc f j hj), fun _ => rfl, h.len, h.all⟩
theorem AtM.left {m : Map} {j : Nat} {l l' : List BRow} (h : AtM m j (l ++ l')) : AtM m j l := fun i y hy => h i y (by rw [List.getElem?_append_left (List.getElem?_eq_some_iff.1 hy).1]; exact hy)
theorem AtM.right {m : Map} {j : Nat} {l l' : List BRow} (h : AtM m j (l ++ l')) : AtM m (j + l.length) l' := fun i y hy => by
 have := h (l.length + i) y (by rw [List.getElem?_append_right (Nat.le_add_right _ _), Nat.add_sub_cancel_left]; exact hy)
 rw [Nat.add_assoc]
 exact this
theorem AtF.left {m : Rd} {j : Nat} {l l' : List BRow} (h : AtF m j (l ++ l')) : AtF m j l := fun i y hy => h i y (by rw [List.getElem?_append_left (List.getElem?_eq_some_iff.1 hy).1]; exact hy)
theorem AtF.right {m : Rd} {j : Nat} {l l' : List BRow} (h : AtF m j (l ++ l')) : AtF m (j + l.length) l' := fun i y hy => by
 have := h (l.length + i) y (by rw [List.getElem?_append_right (Nat.le_add_right _ _), Nat.add_sub_cancel_left]; exact hy)
 rw [Nat.add_assoc]
 exact this
theorem zmn.app {α β γ : Type} {W : World} {z1 z2 K1 K2 : Nat} {R1 : Rd → List SV → α → Prop} {R2 : Rd → List SV → β → Prop} {Q1 : α → Prop} {Q2 : β → Prop} {cs1 cs2 : List Value} {a : α} {b : β} {r1 r2 : Nat → List BRow} {s1 s2 : Nat → List SV}
  (h1 : zmn W z1 R1 Q1 cs1 a K1 r1 s1) (h2 : zmn W z2 R2 Q2 cs2 b K2 r2 s2) {R : Rd → List SV → γ → Prop} {Q : γ → Prop} {c : γ} (hR : ∀ f x y, x.length = z1 → R1 f x a → R2 f y b → R f (x ++ y) c) (hQ : Q1 a → Q2 b → Q c) :
  zmn W (z1 + z2) R Q (cs1 ++ cs2) c (K1 + K2) (fun j => r1 j ++ r2 (j + K1)) (fun j => s1 j ++ s2 (j + K1)) := by
 have right : ∀ {m j}, AtM m j (r1 j ++ r2 (j + K1)) → AtM m (j + K1) (r2 (j + K1)) := fun h => by
  have := h.right
  rw [h1.cnt] at this
  exact this
 have rightF : ∀ {m j}, AtF m j (r1 j ++ r2 (j + K1)) → AtF m (j + K1) (r2 (j + K1)) := fun h => by
  have := h.right
  rw [h1.cnt] at this
  exact this
 refine ⟨fun j => by rw [List.length_append, h1.cnt, h2.cnt], fun j i y hy => ?_, fun m j hj => z8b (h1.val m j hj.left) (h2.val m _ (right hj)), fun f j hj => hR f _ _ (h1.len j) (h1.rep f j hj.left) (h2.rep f _ (rightF hj)), fun j => by rw [List.length_append, h1.len, h2.len], hQ h1.ok h2.ok⟩
 by_cases hi : i < K1
 ·rw [List.getElem?_append_left (by rw [h1.cnt]; exact hi)] at hy
  obtain ⟨g1, g2, g3⟩ := h1.row j i y hy
  exact ⟨g1, g2, fun m hm => g3 m hm.left⟩
 ·rw [List.getElem?_append_right (by rw [h1.cnt]; omega), h1.cnt] at hy
  obtain ⟨g1, g2, g3⟩ := h2.row _ _ y hy
  exact ⟨g1, g2, fun m hm => g3 m (right hm)⟩
end Go.Ev
namespace Go.Ev
open Go.RowKit
variable {P : Program}
section
variable {e : Env} {M : Mem} {x y p q : Operand} {t u s d : TypeId} {F : Rd} {H : List Ent} {f : FuncId} {xs : Array Operand} {ts : Array TypeId}
end
section
variable {fx : Fx} {n : Nat} {Q : SV → Mem → Prop} {e : Env} {k : List SItem} {M : Mem} {F : Rd} {H : List Ent}
end
end Go.Ev
