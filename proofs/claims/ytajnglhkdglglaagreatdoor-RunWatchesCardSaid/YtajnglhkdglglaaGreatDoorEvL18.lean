/- A part of the small machine. -/
import Derived.Test.YtajnglhkdglglaaGreatDoorEvL16
import Derived.Lib.LaidTab
set_option linter.unusedVariables false
/- Arguments of more levels: slices of elements that hold slices of elements that hold slices. -/
namespace Go.Ev
open Go.RowKit
variable {P : Program}

/-- An element, with the rows that it refers to, behind each other. -/
structure ElemN {α : Type} (W : World) (z : Nat) (R : Rd → List SV → α → Prop) (Q : α → Prop) (cs : List Value) (a : α) (K : Nat) (rows : Nat → List Yz) (s : Nat → List SV) : Prop where
 cnt : ∀ j, (rows j).length = K
 row : ∀ (j i : Nat) (y : Bool × Pl × List SV), (rows j)[i]? = some (some y) → y.1 = false ∧ y.2.1.block < W.heap.size ∧ ∀ m, AtM m j (rows j) → RowRel m y.2.1 none .lost y.2.2 W.heap[y.2.1.block]?
 val : ∀ (m : Map) (j : Nat), AtM m j (rows j) → concs m (s j) = some cs
 rep : ∀ (f : Rd) (j : Nat), AtF f j (rows j) → R f (s j) a
 len : ∀ j, (s j).length = z
 ok : Q a
/-- A slice of such. -/
structure NestN {α : Type} (W : World) (z : Nat) (R : Rd → List SV → α → Prop) (Q : α → Prop) (v : Value) (l : List α) (K : Nat) (rows : Nat → List Yz) (s : Nat → SV) : Prop where
 cnt : ∀ j, (rows j).length = K
 row : ∀ (j i : Nat) (y : Bool × Pl × List SV), (rows j)[i]? = some (some y) → y.1 = false ∧ y.2.1.block < W.heap.size ∧ ∀ m, AtM m j (rows j) → RowRel m y.2.1 none .lost y.2.2 W.heap[y.2.1.block]?
 val : ∀ (m : Map) (j : Nat), AtM m j (rows j) → conc m (s j) = some v
 slc : ∀ (f : Rd) (j : Nat), AtF f j (rows j) → Slc f z (R f) (s j) l
 len : l.length ≤ maxLen
 all : ∀ a ∈ l, Q a

def zii (κ : Nat → Nat) : Nat → Nat
 | 0 => 0
 | i + 1 => zii κ i + κ i
def zjj (ρ : Nat → Nat → List Yz) (κ : Nat → Nat) (j : Nat) : Nat → List Yz
 | 0 => []
 | n + 1 => zjj ρ κ j n ++ ρ n (j + zii κ n)
section
variable {ρ : Nat → Nat → List Yz} {κ : Nat → Nat}
theorem zl5 {n : Nat} (h : ∀ i j, i < n → (ρ i j).length = κ i) (j : Nat) : (zjj ρ κ j n).length = zii κ n := by
 induction n with
 | zero => rfl
 | succ n ih => rw [zjj, List.length_append, ih fun i j hi => h i j (by omega), h n _ (by omega), zii]
theorem zou {n : Nat} (h : ∀ i j, i < n → (ρ i j).length = κ i) (j : Nat) {i q : Nat} (hi : i < n) {y : Yz} (hy : (ρ i (j + zii κ i))[q]? = some y) : (zjj ρ κ j n)[zii κ i + q]? = some y := by
 induction n with
 | zero => omega
 | succ n ih =>
  have hl := zl5 (ρ := ρ) (κ := κ) (n := n) (fun i j hi => h i j (by omega)) j
  rw [zjj]
  by_cases hin : i < n
  ·have := ih (fun i j hi => h i j (by omega)) hin
   rw [List.getElem?_append_left (List.getElem?_eq_some_iff.1 this).1]
   exact this
  ·obtain rfl : i = n := by omega
   rw [List.getElem?_append_right (by omega), hl, Nat.add_sub_cancel_left]
   exact hy
theorem zu1 {n : Nat} (h : ∀ i j, i < n → (ρ i j).length = κ i) (j : Nat) {p : Nat} {y : Yz} (hy : (zjj ρ κ j n)[p]? = some y) : ∃ i q, i < n ∧ p = zii κ i + q ∧ (ρ i (j + zii κ i))[q]? = some y := by
 induction n with
 | zero => simp [zjj] at hy
 | succ n ih =>
  have hl := zl5 (ρ := ρ) (κ := κ) (n := n) (fun i j hi => h i j (by omega)) j
  rw [zjj] at hy
  by_cases hp : p < zii κ n
  ·rw [List.getElem?_append_left (by omega)] at hy
   obtain ⟨i, q, h1, h2, h3⟩ := ih (fun i j hi => h i j (by omega)) hy
   exact ⟨i, q, by omega, h2, h3⟩
  ·rw [List.getElem?_append_right (by omega), hl] at hy
   exact ⟨n, p - zii κ n, by omega, by omega, hy⟩
end
theorem zqi {α : Type} {H : Type} {henc : TypeId × Value → H} {W : World} {held : Bool} {z : Nat} {R : Rd → List SV → α → Prop} {Q : α → Prop} {e : TypeId} (hc : P.cellsOf e = z) (hin : Inhabited α)
  {ab ao len mm n : Nat} {D : Nat → DataW H} {Pl' : Nat → List MemPlace} {c : Array Value} {e' : TypeId} {fz : Nat × Nat} (hobj : W.heap[ab]? = some (.cells c e' fz)) (hoff : ao ≤ c.size) (hl : len ≤ mm) (hm : mm ≤ maxLen)
  (hel : ∀ i, i < mm → ∃ cs', W.cells? 0 ((Addr.mk ab ao none).add (i * P.cellsOf e)) (P.cellsOf e) = some cs' ∧ DataW.trod henc P W 0 (fun _ => true) held n e cs' = some (D i, Pl' i))
  {X : DataW H → Prop} (hX : ∀ i, i < mm → X (D i))
  (hread : ∀ n cs x, DataW.trod henc P W 0 (fun _ => true) held n e cs = some x → X x.1 → ∃ (a : α) (K : Nat) (rows : Nat → List Yz) (s : Nat → List SV), ElemN W z R Q cs a K rows s) :
  ∃ l K rows s, NestN W z R Q (.slice (some ⟨ab, ao, none⟩) len mm) (l : List α) K rows s ∧ l.length = len := by
 have hlt : ab < W.heap.size := by
  apply Classical.byContradiction
  intro hn
  rw [Array.getElem?_eq_none (by omega)] at hobj
  simp at hobj
 have b : Inhabited (α × Nat × (Nat → List Yz) × (Nat → List SV)) := ⟨⟨hin.default, 0, fun _ => [], fun _ => []⟩⟩
 obtain ⟨A, hA⟩ := Deep.choose_lt (α := α × Nat × (Nat → List Yz) × (Nat → List SV)) (p := fun i a => ElemN W z R Q ((c.toList.drop (ao + i * z)).take z) a.1 a.2.1 a.2.2.1 a.2.2.2) (n := len) (fun i hi => by
  obtain ⟨cs', hcells, htr⟩ := hel i (by omega)
  obtain ⟨a, K, rows, s, ha⟩ := hread _ _ _ htr (hX i (by omega))
  refine ⟨(a, K, rows, s), ?_⟩
  have : cs' = (c.toList.drop (ao + i * z)).take z := by
   rw [hc] at hcells
   obtain ⟨_, hlen, hat⟩ := World.cells?_some hcells
   apply List.ext_getElem?
   intro j
   by_cases hj : j < z
   ·have := hat j hj
    rw [← this, Deep.add_add]
    have hadd : (Addr.mk ab ao none).add (i * z + j) = ⟨ab, ao + (i * z + j), none⟩ := by
     unfold Addr.add
     split
     ·rename_i h0; rw [h0]; rfl
     ·rfl
    rw [hadd]
    simp only [World.cell?, hobj, Option.isSome_none]
    rw [List.getElem?_take_of_lt hj, List.getElem?_drop, Array.getElem?_toList, Nat.add_assoc]
    rfl
   ·rw [List.getElem?_eq_none (by omega), List.getElem?_eq_none (by rw [List.length_take]; omega)]
  rw [← this]
  exact ha)
 let κ : Nat → Nat := fun i => (A i).2.1
 let ρ : Nat → Nat → List Yz := fun i => (A i).2.2.1
 have hκ : ∀ i j, i < len → (ρ i j).length = κ i := fun i j hi => (hA i hi).cnt j
 -- beyond the end: anything of the right length
 let g : Nat → Nat → List SV := fun j i => if i < len then (A i).2.2.2 (j + 1 + zii κ i) else List.replicate z .nilp
 have hg : ∀ j i, (g j i).length = z := fun j i => by
  show (if i < len then (A i).2.2.2 (j + 1 + zii κ i) else List.replicate z .nilp).length = z
  split
  ·rename_i hi
   exact (hA i hi).len _
  ·exact List.length_replicate
 let rows : Nat → List Yz := fun j => some (false, ⟨ab, ao, c.size⟩, (List.range len).flatMap (g j)) :: zjj ρ κ (j + 1) len
 have atM : ∀ (m : Map) (j i : Nat), i < len → AtM m j (rows j) → AtM m (j + 1 + zii κ i) (ρ i (j + 1 + zii κ i)) := by
  intro m j i hi hm q y hy
  have h1 := zou hκ (j + 1) hi hy
  have := hm (1 + (zii κ i + q)) y (by
   show (_ :: zjj ρ κ (j + 1) len)[1 + (zii κ i + q)]? = _
   rw [show 1 + (zii κ i + q) = (zii κ i + q) + 1 by omega, List.getElem?_cons_succ]
   exact h1)
  rw [show j + 1 + zii κ i + q = j + (1 + (zii κ i + q)) by omega]
  exact this
 have atF : ∀ (m : Rd) (j i : Nat), i < len → AtF m j (rows j) → AtF m (j + 1 + zii κ i) (ρ i (j + 1 + zii κ i)) := by
  intro m j i hi hm q y hy
  have h1 := zou hκ (j + 1) hi hy
  have := hm (1 + (zii κ i + q)) y (by
   show (_ :: zjj ρ κ (j + 1) len)[1 + (zii κ i + q)]? = _
   rw [show 1 + (zii κ i + q) = (zii κ i + q) + 1 by omega, List.getElem?_cons_succ]
   exact h1)
  rw [show j + 1 + zii κ i + q = j + (1 + (zii κ i + q)) by omega]
  exact this
 refine ⟨(List.range len).map fun i => (A i).1, zii κ len + 1, rows, fun j => .slice (Pos.ofNat j) 0 len mm, ⟨?_, ?_, ?_, ?_, ?_, ?_⟩, by simp⟩
 ·intro j
  show (_ :: zjj ρ κ (j + 1) len).length = _
  rw [List.length_cons, zl5 hκ]
 ·intro j i y hy
  cases i with
  | zero =>
   have hy' : some (some (false, (⟨ab, ao, c.size⟩ : Pl), (List.range len).flatMap (g j))) = some (some y) := hy
   simp only [Option.some.injEq] at hy'
   subst hy'
   refine ⟨rfl, hlt, fun m hm => ⟨e', fz, c.toList.take ao, (c.toList.drop ao).take (len * z), (c.toList.drop ao).drop (len * z), ?_, trivial, ?_, ?_, ?_, fun t h => by simp at h⟩⟩
   ·rw [List.take_append_drop, List.take_append_drop]
    exact hobj
   ·simp; omega
   ·simp only [List.length_take, List.length_drop, Array.length_toList]; omega
   ·refine zk3 fun i hi => ?_
    have : g j i = (A i).2.2.2 (j + 1 + zii κ i) := if_pos hi
    rw [this]
    exact (hA i hi).val m _ (atM m j i hi hm)
  | succ i =>
   have hy' : (zjj ρ κ (j + 1) len)[i]? = some (some y) := hy
   obtain ⟨i', q, hi', _, hq⟩ := zu1 hκ (j + 1) hy'
   obtain ⟨h1, h2, h3⟩ := (hA i' hi').row _ _ _ hq
   exact ⟨h1, h2, fun m hm => h3 m (atM m j i' hi' hm)⟩
 ·intro m j hj
  have := hj 0 _ rfl
  show (m (Pos.ofNat j)).map _ = _
  rw [Nat.add_zero] at this
  rw [this]
  simp
 ·intro f j hj
  have h0 := hj 0 _ rfl
  rw [Nat.add_zero] at h0
  refine .inr ⟨Pos.ofNat j, 0, _, .inl ⟨mm, by simpa using hl, by simp⟩, h0, ?_, ?_⟩
  ·rw [zjl (hg j)]; simp
  ·intro i a ha
   rw [List.getElem?_map] at ha
   obtain ⟨i', hi', he⟩ := Option.map_eq_some_iff.1 ha
   obtain ⟨hi1, hi2⟩ := List.getElem?_eq_some_iff.1 hi'
   rw [List.getElem_range] at hi2
   subst hi2
   have hil : i < len := by simpa using hi1
   subst he
   rw [Nat.zero_add, zrh (hg j) len i hil]
   have : g j i = (A i).2.2.2 (j + 1 + zii κ i) := if_pos hil
   rw [this]
   exact (hA i hil).rep f _ (atF f j i hil hj)
 ·simp; omega
 ·intro a ha
  obtain ⟨i, hi, rfl⟩ := List.mem_map.1 ha
  exact (hA i (List.mem_range.1 hi)).ok
theorem zso {α : Type} {H : Type} {henc : TypeId × Value → H} {W : World} {held : Bool} {z : Nat} {R : Rd → List SV → α → Prop} {Q : α → Prop} {e : TypeId} (hc : P.cellsOf e = z) (hin : Inhabited α)
  {ab ao len mm n : Nat} {D : Nat → DataW H} {Pl' : Nat → List MemPlace} {c : Array Value} {e' : TypeId} {fz : Nat × Nat} (hobj : W.heap[ab]? = some (.cells c e' fz)) (hoff : ao ≤ c.size) (hl : len ≤ mm) (hm : mm ≤ maxLen)
  (hel : ∀ i, i < mm → ∃ cs', W.cells? 0 ((Addr.mk ab ao none).add (i * P.cellsOf e)) (P.cellsOf e) = some cs' ∧ DataW.trod henc P W 0 (fun _ => true) held n e cs' = some (D i, Pl' i))
  {X : DataW H → Prop} (hX : ∀ i, i < mm → X (D i))
  (hread : ∀ n cs x, DataW.trod henc P W 0 (fun _ => true) held n e cs = some x → X x.1 → ∃ (a : α) (K : Nat) (rows : Nat → List Yz) (s : Nat → List SV), ElemN W z R Q cs a K rows s) :
  ∃ l K rows s, NestN W z R Q (.slice (some ⟨ab, ao, none⟩) len mm) (l : List α) K rows s :=
 let ⟨l, K, rows, s, h, _⟩ := zqi (X := X) hc hin hobj hoff hl hm hel hX hread
 ⟨l, K, rows, s, h⟩
theorem zus {α : Type} {H : Type} {henc : TypeId × Value → H} {W : World} {held : Bool} {z : Nat} {R : Rd → List SV → α → Prop} {Q : α → Prop} {e : TypeId} (hc : P.cellsOf e = z) (hin : Inhabited α)
  {ab ao len mm n : Nat} {D : Nat → DataW H} {Pl' : Nat → List MemPlace} {c : Array Value} {e' : TypeId} {fz : Nat × Nat} (hobj : W.heap[ab]? = some (.cells c e' fz)) (hoff : ao ≤ c.size) (hl : len ≤ mm) (hm : mm ≤ maxLen)
  (hel : ∀ i, i < mm → ∃ cs', W.cells? 0 ((Addr.mk ab ao none).add (i * P.cellsOf e)) (P.cellsOf e) = some cs' ∧ DataW.trod henc P W 0 (fun _ => true) held n e cs' = some (D i, Pl' i))
  (hread : ∀ n cs x, DataW.trod henc P W 0 (fun _ => true) held n e cs = some x → ∃ (a : α) (K : Nat) (rows : Nat → List Yz) (s : Nat → List SV), ElemN W z R Q cs a K rows s) :
  ∃ l K rows s, NestN W z R Q (.slice (some ⟨ab, ao, none⟩) len mm) (l : List α) K rows s :=
 zso hc hin hobj hoff hl hm hel (X := fun _ => True) (fun _ _ => trivial) (fun n cs x h _ => hread n cs x h)
/-- A slice that lies within an element. -/
theorem X6 {α : Type} {H : Type} {henc : TypeId × Value → H} {W : World} {held : Bool} {z : Nat} {R : Rd → List SV → α → Prop} {Q : α → Prop} {t e : TypeId} (hz0 : 0 < z) (hc : P.cellsOf e = z) (hin : Inhabited α)
  (ht : P.underlying t = some (.slice e)) {v : Value} {fuel : Nat} {x : DataW H × List MemPlace} (h : DataW.trod henc P W 0 (fun _ => true) held fuel t [v] = some x)
  (hread : ∀ n cs x, DataW.trod henc P W 0 (fun _ => true) held n e cs = some x → ∃ (a : α) (K : Nat) (rows : Nat → List Yz) (s : Nat → List SV), ElemN W z R Q cs a K rows s) :
  ∃ l K rows s, NestN W z R Q v (l : List α) K rows s := by
 rcases Deep.open_slice ht h with ⟨hcs, _⟩ | ⟨a, len, cap, mm, n, D, Pl', hcs, _, hl, hm, hmm, _, hel⟩
 ·simp only [List.cons.injEq, and_true] at hcs
  subst hcs
  exact ⟨[], 0, fun _ => [], fun _ => .nils, ⟨fun _ => rfl, fun j i y hy => by simp at hy, fun m j _ => rfl, fun f j _ => .inl ⟨.inl rfl, rfl⟩, Nat.zero_le _, fun a ha => by cases ha⟩⟩
 ·simp only [List.cons.injEq, and_true] at hcs
  subst hcs
  rw [if_pos rfl] at hmm
  subst hmm
  by_cases h0 : mm = 0
  ·subst h0
   obtain rfl : len = 0 := by omega
   exact ⟨[], 0, fun _ => [], fun _ => .rawz a, ⟨fun _ => rfl, fun j i y hy => by simp at hy, fun m j _ => rfl, fun f j _ => .inl ⟨.inr (.inr ⟨a, rfl⟩), rfl⟩, Nat.zero_le _, fun a ha => by cases ha⟩⟩
  ·have o := hel 0 (by omega)
   obtain ⟨cs0, b, _⟩ := o
   rw [hc] at b
   obtain ⟨_, q, g⟩ := World.cells?_some b
   have hc0 := g 0 hz0
   obtain ⟨v0, hv0⟩ : ∃ v0, cs0[0]? = some v0 := ⟨cs0[0], List.getElem?_eq_getElem (by omega)⟩
   rw [hv0, Nat.zero_mul] at hc0
   have d : ((a.add 0).add 0) = a := by
    unfold Addr.add
    simp
   rw [d] at hc0
   obtain ⟨hspot, c, e', fz, hobj, hoff'⟩ := ztg hc0
   obtain ⟨ab, ao, asp⟩ := a
   simp only at hspot hobj hoff'
   subst hspot
   exact zus hc hin hobj (Nat.le_of_lt hoff') hl hm hel hread
/-- Elements that are flat, or that hold one slice, as such. -/
theorem ElemN.flat {α : Type} {W : World} {z : Nat} {enc : α → List SV} (hz : ∀ a, (enc a).length = z) {cs : List Value} {a : α} (h : ∀ m, concs m (enc a) = some cs) : ElemN W z (fun _ => Ta enc) (fun _ => True) cs a 0 (fun _ => []) (fun _ => enc a) :=
 ⟨fun _ => rfl, fun j i y hy => by simp at hy, fun m j _ => h m, fun f j _ => rfl, fun _ => hz a, trivial⟩
theorem ElemN.slice {α : Type} {W : World} {z : Nat} {R : Rd → List SV → α → Prop} {Q : α → Prop} {v : Value} {l : List α} {K : Nat} {rows : Nat → List Yz} {s : Nat → SV} {R' : Rd → List SV → List α → Prop} (h : NestN W z R Q v l K rows s) (hR : ∀ f j, Slc f z (R f) (s j) l → R' f [s j] l) : ElemN W 1 R' (fun l => l.length ≤ maxLen ∧ ∀ a ∈ l, Q a) [v] l K rows (fun j => [s j]) :=
 ⟨h.cnt, h.row, fun m j hj => by simp [concs, h.val m j hj], fun f j hj => hR f j (h.slc f j hj), fun _ => rfl, h.len, h.all⟩
theorem AtM.left {m : Map} {j : Nat} {l l' : List Yz} (h : AtM m j (l ++ l')) : AtM m j l := fun i y hy => h i y (by rw [List.getElem?_append_left (List.getElem?_eq_some_iff.1 hy).1]; exact hy)
theorem AtM.right {m : Map} {j : Nat} {l l' : List Yz} (h : AtM m j (l ++ l')) : AtM m (j + l.length) l' := fun i y hy => by
 have := h (l.length + i) y (by rw [List.getElem?_append_right (Nat.le_add_right _ _), Nat.add_sub_cancel_left]; exact hy)
 rw [Nat.add_assoc]
 exact this
theorem AtF.left {m : Rd} {j : Nat} {l l' : List Yz} (h : AtF m j (l ++ l')) : AtF m j l := fun i y hy => h i y (by rw [List.getElem?_append_left (List.getElem?_eq_some_iff.1 hy).1]; exact hy)
theorem AtF.right {m : Rd} {j : Nat} {l l' : List Yz} (h : AtF m j (l ++ l')) : AtF m (j + l.length) l' := fun i y hy => by
 have := h (l.length + i) y (by rw [List.getElem?_append_right (Nat.le_add_right _ _), Nat.add_sub_cancel_left]; exact hy)
 rw [Nat.add_assoc]
 exact this
/-- Two parts of an element, one behind the other. -/
theorem ElemN.app {α β γ : Type} {W : World} {z1 z2 K1 K2 : Nat} {R1 : Rd → List SV → α → Prop} {R2 : Rd → List SV → β → Prop} {Q1 : α → Prop} {Q2 : β → Prop} {cs1 cs2 : List Value} {a : α} {b : β} {r1 r2 : Nat → List Yz} {s1 s2 : Nat → List SV}
  (h1 : ElemN W z1 R1 Q1 cs1 a K1 r1 s1) (h2 : ElemN W z2 R2 Q2 cs2 b K2 r2 s2) {R : Rd → List SV → γ → Prop} {Q : γ → Prop} {c : γ} (hR : ∀ f x y, x.length = z1 → R1 f x a → R2 f y b → R f (x ++ y) c) (hQ : Q1 a → Q2 b → Q c) :
  ElemN W (z1 + z2) R Q (cs1 ++ cs2) c (K1 + K2) (fun j => r1 j ++ r2 (j + K1)) (fun j => s1 j ++ s2 (j + K1)) := by
 have right : ∀ {m j}, AtM m j (r1 j ++ r2 (j + K1)) → AtM m (j + K1) (r2 (j + K1)) := fun h => by
  have := h.right
  rw [h1.cnt] at this
  exact this
 have rightF : ∀ {m j}, AtF m j (r1 j ++ r2 (j + K1)) → AtF m (j + K1) (r2 (j + K1)) := fun h => by
  have := h.right
  rw [h1.cnt] at this
  exact this
 refine ⟨fun j => by rw [List.length_append, h1.cnt, h2.cnt], fun j i y hy => ?_, fun m j hj => Q4 (h1.val m j hj.left) (h2.val m _ (right hj)), fun f j hj => hR f _ _ (h1.len j) (h1.rep f j hj.left) (h2.rep f _ (rightF hj)), fun j => by rw [List.length_append, h1.len, h2.len], hQ h1.ok h2.ok⟩
 by_cases hi : i < K1
 ·rw [List.getElem?_append_left (by rw [h1.cnt]; exact hi)] at hy
  obtain ⟨g1, g2, g3⟩ := h1.row j i y hy
  exact ⟨g1, g2, fun m hm => g3 m hm.left⟩
 ·rw [List.getElem?_append_right (by rw [h1.cnt]; omega), h1.cnt] at hy
  obtain ⟨g1, g2, g3⟩ := h2.row _ _ y hy
  exact ⟨g1, g2, fun m hm => g3 m (right hm)⟩
end Go.Ev

/- Builders of strings: pointers to what holds them, places that are not safe, bytes that become a string; and calls whose contracts are known from elsewhere. -/
namespace Go.Ev
open Go.RowKit
variable {P : Program}
section
variable {e : Env} {M : Mem} {x y p q : Operand} {t u s d : TypeId} {F : Rd} {H : List Ent} {f : FuncId} {xs : Array Operand} {ts : Array TypeId}
end
section
variable {fx : Fx} {n : Nat} {Q : SV → Mem → Prop} {e : Env} {k : List SItem} {M : Mem} {F : Rd} {H : List Ent}
end
/-- A listed table is all that its variable holds. -/
theorem zzq {B n : Nat} {m : Map} {w : World} {l : List (Nat × List SV)} {g : Nat} {name : String} {k : IntKind} {zs : List Int} (hr : MRel B m (Vp n l) w) (hl : (g, Qo k zs) ∈ l) (hd : (zq6 l).get (Pos.ofNat g) = some (.fix (Qo k zs))) (hg : P.globalNamed name = some g) : Lib.TabIs P w name k zs := by
 have hd' : (Vp n l).t.get (Pos.ofNat g) = some (.fix (Qo k zs)) := hd
 obtain ⟨z, hm, hz⟩ := hr.glob _ _ hd'
 obtain ⟨e, fz, pre, vs, post, ho, _, hp, hs, hc, _⟩ := hr.objs _ _ _ hd' hm
 rw [Pos.num_ofNat] at hm
 have hlen := zdh hc
 simp only at hp hs
 have hpre : pre = [] := List.length_eq_zero_iff.1 hp
 have hpost : post = [] := List.length_eq_zero_iff.1 (by rw [hp, hz, hlen] at hs; omega)
 subst hpre hpost
 rw [zh0] at hc
 have hv := Option.some.inj hc
 show w.var? P name = _
 unfold World.var?
 rw [hg]
 simp only [Pos.num_ofNat, Nat.add_sub_cancel] at ho
 simp only [Option.bind_some, ho, List.nil_append, List.append_nil, hv]
/-- A contract from elsewhere: plain arguments, a plain answer, where listed tables are as they are laid. -/
theorem CallsM.known {f : FuncId} {n : Nat} {l : List (Nat × List SV)} {xs : List SV} {s0 : SV} {vs : List Value} {v : Value} (hxs : ∀ m, concs m xs = some vs) (hs : ∀ m, conc m s0 = some v) (hn : (l.all fun x => Nat.blt x.1 n) = true) (hp : (l.all fun x => plain.plains x.2) = true)
  (hc : ∀ w m, MRel w.heap.size m (Vp n l) w → Calls P f vs.toArray w fun e w' => e = .returned v ∧ Below w.heap.size w w') {M : Mem} (h : FixIn M l) : CallsM P f xs M fun s M' => s = s0 ∧ M' = M := by
 intro hw
 refine ⟨s0, M, ?_, .refl hw, rfl, rfl⟩
 intro _ B m w vs' hr has c cs
 have hvs : vs' = vs.toArray := by
  rw [hxs m] at has
  have := Option.some.inj has
  rw [this]
 subst hvs
 obtain ⟨m1, hr1⟩ := FixIn.rel hn hp hr h
 obtain ⟨e, w', fr, ⟨rfl, hb⟩, hcome, hfn, hl⟩ := hc w m1 hr1 (c :: cs)
 exact ⟨m, w', v, ⟨hr.kept hb, fun _ _ => rfl, fun _ _ _ => rfl, Nat.le_refl _, hb.mono hr.base, fun k hk _ => hb.block k hk, fun _ _ h => h, fun _ _ => rfl, rfl, fun _ _ h => h, fun b p hbn hp _ => absurd hp (by rw [(hr.fresh b hbn).1]; simp)⟩, hs m, Steps.trans hcome (.one (step_leave_returned hl))⟩
end Go.Ev

