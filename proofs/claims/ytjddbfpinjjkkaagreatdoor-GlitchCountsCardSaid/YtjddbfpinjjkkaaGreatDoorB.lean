/- How whole numbers lie in memory: predicates on worlds and their small laws; no conditions. -/
import Derived.Test.YtjddbfpinjjkkaaGreatDoorRows
import Derived.Test.YtjddbfpinjjkkaaGreatDoorM
import Derived.WalkKit
import Derived.WalkSpells
import Derived.WalkLawsBesides
import Derived.Lib.Hide
import Derived.BigQuiet
import Derived.Deep.QuietTactic
import Derived.Deep.RegionHeld3
import Derived.Deep.RegionWith
import Derived.Laws.CopyOwn
import Derived.Deep.Draws
import Derived.Deep.DeepCutAuto
namespace Go.Proofs.YtjddbfpinjjkkaaGreatDoor
open Go.RowKit
def enc (x : Nat) : Value := .int .u64 (x : Int)
def Blk (w : World) (b : Nat) (L : List Nat) : Prop := ∃ e, w.heap[b]? = some (.cells (L.map enc).toArray e (0, 0))
theorem Blk.lt {w : World} {b : Nat} {L : List Nat} (h : Blk w b L) : b < w.heap.size := by
  obtain ⟨e, h⟩ := h
  exact (Array.getElem?_eq_some_iff.1 h).1
theorem Blk.cell {w : World} {b : Nat} {L : List Nat} (h : Blk w b L) (i : Nat) (hi : i < L.length) : w.cell? ⟨b, i, none⟩ = some (.int .u64 (L.getD i 0 : Nat)) := by
  obtain ⟨e, h⟩ := h
  rw [cell_of_row w b i _ e (0, 0) h, List.getElem?_toArray, List.getElem?_map, List.getElem?_eq_getElem hi, List.getD_eq_getElem?_getD, List.getElem?_eq_getElem hi]
  rfl
theorem Blk.frozen {w : World} {b : Nat} {L : List Nat} (h : Blk w b L) (i : Nat) : w.frozen? ⟨b, i, none⟩ = false := by
  obtain ⟨e, h⟩ := h
  exact frozen_of_row w b i _ e h
theorem Blk.set {w : World} {b : Nat} {L : List Nat} (h : Blk w b L) (i x : Nat) : Blk (w.setCell ⟨b, i, none⟩ (.int .u64 (x : Int))) b (L.set i x) := by
  obtain ⟨e, h⟩ := h
  refine ⟨e, ?_⟩
  rw [heap_setCell_same w b i _ e _ h, List.setIfInBounds_toArray, List.map_set]
  rfl
theorem Blk.kept {w w' : World} {b : Nat} {L : List Nat} {B : Nat} (h : Blk w b L) (hb : Below B w w') (hB : b < B) : Blk w' b L := by
  obtain ⟨e, h⟩ := h
  exact ⟨e, (hb.block b hB).trans h⟩
theorem Blk.alloc {w : World} {b : Nat} {L : List Nat} (h : Blk w b L) (o : Obj) : Blk (w.alloc o) b L := by
  have hlt := h.lt
  obtain ⟨e, h⟩ := h
  exact ⟨e, (Below.heap_alloc w o b hlt).trans h⟩
theorem Blk.drew {w : World} {b : Nat} {L : List Nat} (h : Blk w b L) : Blk w.drew b L := h
structure WordsAt (w : World) (b off : Nat) (l : List Nat) : Prop where
  cell : ∀ i, i < l.length → w.cell? ⟨b, off + i, none⟩ = some (.int .u64 (l.getD i 0 : Nat))
  old : b < w.heap.size
  small : Small l
def IsWords (w : World) (v : Value) (l : List Nat) : Prop :=
  ∃ a cap, v = .slice a l.length cap ∧ l.length ≤ cap ∧ cap ≤ 35184372088832 ∧ (l = [] ∨ ∃ b off, a = some ⟨b, off, none⟩ ∧ WordsAt w b off l)
def IsNat (w : World) (v : Value) (n : Nat) : Prop := ∃ l, IsWords w v l ∧ wv l = n ∧ l.getLast? ≠ some 0
def IsWhole (w : World) (v : Value) (z : Int) : Prop := ∃ s, v = .agg #[.bool (decide (z < 0)), s] ∧ IsNat w s z.natAbs
theorem WordsAt.mono {w w' : World} {b off : Nat} {l : List Nat} {B : Nat} (h : WordsAt w b off l) (hb : Below B w w') (hB : b < B) : WordsAt w' b off l :=
  ⟨fun i hi => (hb.cell (p := ⟨b, off + i, none⟩) hB).trans (h.cell i hi), Nat.lt_of_lt_of_le h.old hb.size, h.small⟩
theorem IsWords.mono {w w' : World} {v : Value} {l : List Nat} (h : IsWords w v l) (hb : Below w.heap.size w w') : IsWords w' v l := by
  obtain ⟨a, cap, h1, h2, h3, h4⟩ := h
  refine ⟨a, cap, h1, h2, h3, h4.imp id ?_⟩
  rintro ⟨b, off, h5, h6⟩
  exact ⟨b, off, h5, h6.mono hb h6.old⟩
theorem IsNat.mono {w w' : World} {v : Value} {n : Nat} (h : IsNat w v n) (hb : Below w.heap.size w w') : IsNat w' v n := by
  obtain ⟨l, h1, h2⟩ := h
  exact ⟨l, h1.mono hb, h2⟩
theorem IsWhole.mono {w w' : World} {v : Value} {n : Int} (h : IsWhole w v n) (hb : Below w.heap.size w w') : IsWhole w' v n := by
  obtain ⟨l, h1, h2⟩ := h
  exact ⟨l, h1, h2.mono hb⟩
theorem IsWords.small {w : World} {v : Value} {l : List Nat} (h : IsWords w v l) : Small l := by
  obtain ⟨a, cap, h1, h2, h3, h4⟩ := h
  rcases h4 with rfl | ⟨b, off, _, h⟩
  · exact Small.nil
  · exact h.small
theorem IsWords.nil (w : World) : IsWords w (.slice none 0 0) [] := ⟨none, 0, rfl, Nat.le_refl _, Nat.zero_le _, .inl rfl⟩
theorem IsNat.zero (w : World) : IsNat w (.slice none 0 0) 0 := ⟨[], IsWords.nil w, rfl, by simp⟩
theorem below_drewN {B : Nat} {a w : World} (h : Below B a w) (n : Nat) : Below B a (w.drewN n) := ⟨h.os, h.tape, h.output, h.size, h.block⟩
def Drew (w w' : World) : Prop := ∃ q, w' = w.drewN q
theorem Drew.refl (w : World) : Drew w w := ⟨0, rfl⟩
theorem Drew.step {w w' : World} (h : Drew w w') (n : Nat) : Drew w (w'.drewN n) := by
  obtain ⟨q, rfl⟩ := h
  exact ⟨q + n, World.drewN_drewN _ _ _⟩
theorem Drew.cell {w w' : World} (h : Drew w w') (a : Addr) : w'.cell? a = w.cell? a := by
  obtain ⟨q, rfl⟩ := h
  rfl
theorem Drew.below {w w' : World} (h : Drew w w') (B : Nat) : Below B w w' := by
  obtain ⟨q, rfl⟩ := h
  exact below_drewN (Below.refl _ _) q
end Go.Proofs.YtjddbfpinjjkkaaGreatDoor
