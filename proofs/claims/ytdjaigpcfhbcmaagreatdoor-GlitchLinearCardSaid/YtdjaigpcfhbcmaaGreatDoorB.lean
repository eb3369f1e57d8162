/- How whole numbers lie in memory: predicates on worlds and their small laws; no conditions. -/
import Derived.Test.YtdjaigpcfhbcmaaGreatDoorRows
import Derived.Test.YtdjaigpcfhbcmaaGreatDoorM
import Derived.WalkKit
import Derived.WalkSpells
import Derived.WalkLawsBesides
import Derived.Lib.Hide
import Derived.BigQuiet
import Derived.Deep.QuietTactic
import Derived.Deep.RegionHeld3
import Derived.Deep.RegionWith
import Derived.Laws.CopyOwn
import Derived.Deep.Draws
import Derived.Deep.DeepCutAuto
namespace Go.Proofs.YtdjaigpcfhbcmaaGreatDoor
open Go.RowKit

/-- A word as a value. -/
def enc (x : Nat) : Value := .int .u64 (x : Int)

/-- Block b is a row of the words L, none of them frozen. -/
def Blk (w : World) (b : Nat) (L : List Nat) : Prop := ∃ e, w.heap[b]? = some (.cells (L.map enc).toArray e (0, 0))

theorem Blk.lt {w : World} {b : Nat} {L : List Nat} (h : Blk w b L) : b < w.heap.size := by
  obtain ⟨e, h⟩ := h
  exact (Array.getElem?_eq_some_iff.1 h).1
theorem Blk.cell {w : World} {b : Nat} {L : List Nat} (h : Blk w b L) (i : Nat) (hi : i < L.length) : w.cell? ⟨b, i, none⟩ = some (.int .u64 (L.getD i 0 : Nat)) := by
  obtain ⟨e, h⟩ := h
  rw [cell_of_row w b i _ e (0, 0) h, List.getElem?_toArray, List.getElem?_map, List.getElem?_eq_getElem hi, List.getD_eq_getElem?_getD, List.getElem?_eq_getElem hi]
  rfl
theorem Blk.frozen {w : World} {b : Nat} {L : List Nat} (h : Blk w b L) (i : Nat) : w.frozen? ⟨b, i, none⟩ = false := by
  obtain ⟨e, h⟩ := h
  exact frozen_of_row w b i _ e h
theorem Blk.set {w : World} {b : Nat} {L : List Nat} (h : Blk w b L) (i x : Nat) : Blk (w.setCell ⟨b, i, none⟩ (.int .u64 (x : Int))) b (L.set i x) := by
  obtain ⟨e, h⟩ := h
  refine ⟨e, ?_⟩
  rw [heap_setCell_same w b i _ e _ h, List.setIfInBounds_toArray, List.map_set]
  rfl
theorem Blk.kept {w w' : World} {b : Nat} {L : List Nat} {B : Nat} (h : Blk w b L) (hb : Below B w w') (hB : b < B) : Blk w' b L := by
  obtain ⟨e, h⟩ := h
  exact ⟨e, (hb.block b hB).trans h⟩
theorem Blk.other {w : World} {b c i : Nat} {L : List Nat} {v : Value} (h : Blk w b L) (hne : b ≠ c) : Blk (w.setCell ⟨c, i, none⟩ v) b L := by
  obtain ⟨e, h⟩ := h
  exact ⟨e, (heap_setCell_other w ⟨c, i, none⟩ b v hne).trans h⟩
theorem Blk.alloc {w : World} {b : Nat} {L : List Nat} (h : Blk w b L) (o : Obj) : Blk (w.alloc o) b L := by
  have hlt := h.lt
  obtain ⟨e, h⟩ := h
  exact ⟨e, (Below.heap_alloc w o b hlt).trans h⟩
theorem Blk.drew {w : World} {b : Nat} {L : List Nat} (h : Blk w b L) : Blk w.drew b L := h

/-- Words in memory, to be read. -/
structure WordsAt (w : World) (b off : Nat) (l : List Nat) : Prop where
  cell : ∀ i, i < l.length → w.cell? ⟨b, off + i, none⟩ = some (.int .u64 (l.getD i 0 : Nat))
  old : b < w.heap.size
  small : Small l

/-- A slice of words; where it is empty its address is anything. -/
def IsWords (w : World) (v : Value) (l : List Nat) : Prop :=
  ∃ a cap, v = .slice a l.length cap ∧ l.length ≤ cap ∧ cap ≤ 35184372088832 ∧ (l = [] ∨ ∃ b off, a = some ⟨b, off, none⟩ ∧ WordsAt w b off l)

/-- The words of a number: the last one is not 0. -/
def IsNat (w : World) (v : Value) (n : Nat) : Prop := ∃ l, IsWords w v l ∧ wv l = n ∧ l.getLast? ≠ some 0

def IsWhole (w : World) (v : Value) (z : Int) : Prop := ∃ s, v = .agg #[.bool (decide (z < 0)), s] ∧ IsNat w s z.natAbs

theorem WordsAt.mono {w w' : World} {b off : Nat} {l : List Nat} {B : Nat} (h : WordsAt w b off l) (hb : Below B w w') (hB : b < B) : WordsAt w' b off l :=
  ⟨fun i hi => (hb.cell (p := ⟨b, off + i, none⟩) hB).trans (h.cell i hi), Nat.lt_of_lt_of_le h.old hb.size, h.small⟩
theorem IsWords.mono {w w' : World} {v : Value} {l : List Nat} (h : IsWords w v l) (hb : Below w.heap.size w w') : IsWords w' v l := by
  obtain ⟨a, cap, h1, h2, h3, h4⟩ := h
  refine ⟨a, cap, h1, h2, h3, h4.imp id ?_⟩
  rintro ⟨b, off, h5, h6⟩
  exact ⟨b, off, h5, h6.mono hb h6.old⟩
theorem IsNat.mono {w w' : World} {v : Value} {n : Nat} (h : IsNat w v n) (hb : Below w.heap.size w w') : IsNat w' v n := by
  obtain ⟨l, h1, h2⟩ := h
  exact ⟨l, h1.mono hb, h2⟩
theorem IsWhole.mono {w w' : World} {v : Value} {n : Int} (h : IsWhole w v n) (hb : Below w.heap.size w w') : IsWhole w' v n := by
  obtain ⟨l, h1, h2⟩ := h
  exact ⟨l, h1, h2.mono hb⟩
theorem IsWords.small {w : World} {v : Value} {l : List Nat} (h : IsWords w v l) : Small l := by
  obtain ⟨a, cap, h1, h2, h3, h4⟩ := h
  rcases h4 with rfl | ⟨b, off, _, h⟩
  · exact Small.nil
  · exact h.small
theorem below_alloc (w : World) (o : Obj) : Below w.heap.size w (w.alloc o) := (Below.refl _ _).alloc (Nat.le_refl _) o
theorem below_drew (w : World) : Below w.heap.size w w.drew := (Below.refl _ _).drew
theorem IsWords.nil (w : World) : IsWords w (.slice none 0 0) [] := ⟨none, 0, rfl, Nat.le_refl _, Nat.zero_le _, .inl rfl⟩
theorem IsNat.zero (w : World) : IsNat w (.slice none 0 0) 0 := ⟨[], IsWords.nil w, rfl, by simp⟩

/-- Some words of a block. -/
theorem Blk.words {w : World} {b : Nat} {L : List Nat} (h : Blk w b L) (hs : Small L) (off n : Nat) (hn : off + n ≤ L.length) : WordsAt w b off ((L.drop off).take n) := by
  refine ⟨fun i hi => ?_, h.lt, (hs.drop _).take _⟩
  rw [List.length_take, List.length_drop] at hi
  rw [h.cell (off + i) (by omega)]
  congr 3
  simp [List.getD_eq_getElem?_getD, List.getElem?_drop, show i < n by omega]

theorem quiet_add {P : Program} {f : FuncId} {args : Array Value} {w : World} {a n : Nat} {v : Value}
    (h : Calls P f args (w.drewN (a + n)) fun e w' => e = .returned v ∧ ∃ m, w' = (w.drewN (a + n)).drewN m) :
    Calls P f args (w.drewN (a + n)) fun e w'' => e = .returned v ∧ ∃ m, w'' = w.drewN (a + m) :=
  h.mono fun _ _ ⟨he, m, hm⟩ => ⟨he, n + m, by rw [hm, World.drewN_drewN, Nat.add_assoc]⟩
theorem quiet_add_left {P : Program} {f : FuncId} {args : Array Value} {w : World} {a n : Nat} {v : Value}
    (h : Calls P f args (w.drewN (a + n)) fun e w' => e = .returned v ∧ w.drewN (a + n) = w') :
    Calls P f args (w.drewN (a + n)) fun e w'' => e = .returned v ∧ ∃ m, w'' = w.drewN (a + m) :=
  h.mono fun _ _ ⟨he, hm⟩ => ⟨he, n, hm.symm⟩
theorem quiet_left {P : Program} {f : FuncId} {args : Array Value} {w : World} {n : Nat} {v : Value}
    (h : Calls P f args (w.drewN n) fun e w' => e = .returned v ∧ w.drewN n = w') : Calls P f args (w.drewN n) fun e w'' => e = .returned v ∧ ∃ m, w'' = w.drewN m :=
  h.mono fun _ _ ⟨he, hm⟩ => ⟨he, n, hm.symm⟩
theorem below_drewN {B : Nat} {a w : World} (h : Below B a w) (n : Nat) : Below B a (w.drewN n) := ⟨h.os, h.tape, h.output, h.size, h.block⟩

theorem only_drewN {a w : World} {row : Option Nat} (h : a.grownBy w row) (n : Nat) : a.grownBy (w.drewN n) row := ⟨h.os, h.tape, h.output, h.size, h.block⟩
theorem only_drew {a w : World} {row : Option Nat} (h : a.grownBy w row) : a.grownBy w.drew row := ⟨h.os, h.tape, h.output, h.size, h.block⟩
theorem only_alloc {a w : World} {row : Option Nat} (h : a.grownBy w row) (o : Obj) : a.grownBy (w.alloc o) row :=
  ⟨h.os, h.tape, h.output, Nat.le_trans h.size (by simp), fun i hi hne => (Below.heap_alloc w o i (Nat.lt_of_lt_of_le hi h.size)).trans (h.block i hi hne)⟩
theorem only_setCell {a w : World} {g : Nat} (h : a.grownBy w (some g)) (i : Nat) (u : Value) : a.grownBy (w.setCell ⟨g, i, none⟩ u) (some g) :=
  ⟨h.os, h.tape, h.output, by simpa [World.setCell] using h.size, fun k hk hne => (Below.heap_setCell w ⟨g, i, none⟩ u k (by
    rintro rfl
    exact hne rfl)).trans (h.block k hk hne)⟩
theorem only_trans {a b c : World} {row : Option Nat} (h : a.grownBy b row) (k : b.grownBy c row) : a.grownBy c row :=
  ⟨k.os.trans h.os, k.tape.trans h.tape, k.output.trans h.output, Nat.le_trans h.size k.size, fun i hi hne => (k.block i (Nat.lt_of_lt_of_le hi h.size) hne).trans (h.block i hi hne)⟩
theorem only_below {a b c : World} {row : Option Nat} (h : a.grownBy b row) (k : Below b.heap.size b c) : a.grownBy c row :=
  only_trans h ⟨k.os, k.tape, k.output, k.size, fun i hi _ => k.block i hi⟩
/-- A cell of another block is as it was. -/
theorem only_cell {w w' : World} {g : Nat} (h : w.grownBy w' (some g)) {b o : Nat} {v : Value} (hc : w.cell? ⟨b, o, none⟩ = some v) (hne : b ≠ g) : w'.cell? ⟨b, o, none⟩ = some v :=
  h.cell hc (by intro e; exact hne (Option.some.inj e))

/-- w' is w after some draws. -/
def Drew (w w' : World) : Prop := ∃ q, w' = w.drewN q
theorem Drew.refl (w : World) : Drew w w := ⟨0, rfl⟩
theorem Drew.step {w w' : World} (h : Drew w w') (n : Nat) : Drew w (w'.drewN n) := by
  obtain ⟨q, rfl⟩ := h
  exact ⟨q + n, World.drewN_drewN _ _ _⟩
theorem Drew.cell {w w' : World} (h : Drew w w') (a : Addr) : w'.cell? a = w.cell? a := by
  obtain ⟨q, rfl⟩ := h
  rfl
theorem Drew.below {w w' : World} (h : Drew w w') (B : Nat) : Below B w w' := by
  obtain ⟨q, rfl⟩ := h
  exact below_drewN (Below.refl _ _) q

/-- A call that reads alone: what it returns; the world is as it was, but for draws. -/
def RetQ (w : World) (v : Value) (e : Ending) (w' : World) : Prop := e = .returned v ∧ Drew w w'

/-- What a call that makes a number returns. -/
def RetNat (w : World) (n : Nat) (e : Ending) (w' : World) : Prop := ∃ v, e = .returned v ∧ IsNat w' v n ∧ Below w.heap.size w w'

end Go.Proofs.YtdjaigpcfhbcmaaGreatDoor
