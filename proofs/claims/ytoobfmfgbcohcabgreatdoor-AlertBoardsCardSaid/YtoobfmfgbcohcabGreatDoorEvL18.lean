/- A part of the small machine. -/
import Derived.Test.YtoobfmfgbcohcabGreatDoorEvL16
import Derived.Lib.LaidTab
set_option linter.unusedVariables false
/- Arguments of more levels: slices of elements that hold slices of elements that hold slices. -/
namespace Go.Ev
open Go.RowKit
variable {P : Program}

/-- An element, with the rows that it refers to, behind each other. -/
structure ElemN {α : Type} (W : World) (z : Nat) (R : Rd → List SV → α → Prop) (Q : α → Prop) (cs : List Value) (a : α) (K : Nat) (rows : Nat → List BRow) (s : Nat → List SV) : Prop where
 cnt : ∀ j, (rows j).length = K
 row : ∀ (j i : Nat) (y : Bool × Pl × List SV), (rows j)[i]? = some (some y) → y.1 = false ∧ y.2.1.block < W.heap.size ∧ ∀ m, AtM m j (rows j) → RowRel m y.2.1 none .lost y.2.2 W.heap[y.2.1.block]?
 val : ∀ (m : Map) (j : Nat), AtM m j (rows j) → concs m (s j) = some cs
 rep : ∀ (f : Rd) (j : Nat), AtF f j (rows j) → R f (s j) a
 len : ∀ j, (s j).length = z
 ok : Q a
/-- A slice of such. -/
structure NestN {α : Type} (W : World) (z : Nat) (R : Rd → List SV → α → Prop) (Q : α → Prop) (v : Value) (l : List α) (K : Nat) (rows : Nat → List BRow) (s : Nat → SV) : Prop where
 cnt : ∀ j, (rows j).length = K
 row : ∀ (j i : Nat) (y : Bool × Pl × List SV), (rows j)[i]? = some (some y) → y.1 = false ∧ y.2.1.block < W.heap.size ∧ ∀ m, AtM m j (rows j) → RowRel m y.2.1 none .lost y.2.2 W.heap[y.2.1.block]?
 val : ∀ (m : Map) (j : Nat), AtM m j (rows j) → conc m (s j) = some v
 slc : ∀ (f : Rd) (j : Nat), AtF f j (rows j) → Slc f z (R f) (s j) l
 len : l.length ≤ maxLen
 all : ∀ a ∈ l, Q a

def zmv (κ : Nat → Nat) : Nat → Nat
 | 0 => 0
 | i + 1 => zmv κ i + κ i
def zny (ρ : Nat → Nat → List BRow) (κ : Nat → Nat) (j : Nat) : Nat → List BRow
 | 0 => []
 | n + 1 => zny ρ κ j n ++ ρ n (j + zmv κ n)
section
variable {ρ : Nat → Nat → List BRow} {κ : Nat → Nat}
theorem zoy {n : Nat} (h : ∀ i j, i < n → (ρ i j).length = κ i) (j : Nat) : (zny ρ κ j n).length = zmv κ n := by
 induction n with
 | zero => rfl
 | succ n ih => rw [zny, List.length_append, ih fun i j hi => h i j (by omega), h n _ (by omega), zmv]
theorem zs7 {n : Nat} (h : ∀ i j, i < n → (ρ i j).length = κ i) (j : Nat) {i q : Nat} (hi : i < n) {y : BRow} (hy : (ρ i (j + zmv κ i))[q]? = some y) : (zny ρ κ j n)[zmv κ i + q]? = some y := by
 induction n with
 | zero => omega
 | succ n ih =>
  have hl := zoy (ρ := ρ) (κ := κ) (n := n) (fun i j hi => h i j (by omega)) j
  rw [zny]
  by_cases hin : i < n
  ·have := ih (fun i j hi => h i j (by omega)) hin
   rw [List.getElem?_append_left (List.getElem?_eq_some_iff.1 this).1]
   exact this
  ·obtain rfl : i = n := by omega
   rw [List.getElem?_append_right (by omega), hl, Nat.add_sub_cancel_left]
   exact hy
theorem zwk {n : Nat} (h : ∀ i j, i < n → (ρ i j).length = κ i) (j : Nat) {p : Nat} {y : BRow} (hy : (zny ρ κ j n)[p]? = some y) : ∃ i q, i < n ∧ p = zmv κ i + q ∧ (ρ i (j + zmv κ i))[q]? = some y := by
 induction n with
 | zero => simp [zny] at hy
 | succ n ih =>
  have hl := zoy (ρ := ρ) (κ := κ) (n := n) (fun i j hi => h i j (by omega)) j
  rw [zny] at hy
  by_cases hp : p < zmv κ n
  ·rw [List.getElem?_append_left (by omega)] at hy
   obtain ⟨i, q, h1, h2, h3⟩ := ih (fun i j hi => h i j (by omega)) hy
   exact ⟨i, q, by omega, h2, h3⟩
  ·rw [List.getElem?_append_right (by omega), hl] at hy
   exact ⟨n, p - zmv κ n, by omega, by omega, hy⟩
end
theorem zpk {α : Type} {H : Type} {henc : TypeId × Value → H} {W : World} {held : Bool} {z : Nat} {R : Rd → List SV → α → Prop} {Q : α → Prop} {e : TypeId} (hc : P.cellsOf e = z) (hin : Inhabited α)
  {ab ao len mm n : Nat} {D : Nat → DataW H} {Pl' : Nat → List MemPlace} {c : Array Value} {e' : TypeId} {fz : Nat × Nat} (hobj : W.heap[ab]? = some (.cells c e' fz)) (hoff : ao ≤ c.size) (hl : len ≤ mm) (hm : mm ≤ maxLen)
  (hel : ∀ i, i < mm → ∃ cs', W.cells? 0 ((Addr.mk ab ao none).add (i * P.cellsOf e)) (P.cellsOf e) = some cs' ∧ DataW.trod henc P W 0 (fun _ => true) held n e cs' = some (D i, Pl' i))
  {X : DataW H → Prop} (hX : ∀ i, i < mm → X (D i))
  (hread : ∀ n cs x, DataW.trod henc P W 0 (fun _ => true) held n e cs = some x → X x.1 → ∃ (a : α) (K : Nat) (rows : Nat → List BRow) (s : Nat → List SV), ElemN W z R Q cs a K rows s) :
  ∃ l K rows s, NestN W z R Q (.slice (some ⟨ab, ao, none⟩) len mm) (l : List α) K rows s ∧ l.length = len := by
 have hlt : ab < W.heap.size := by
  apply Classical.byContradiction
  intro hn
  rw [Array.getElem?_eq_none (by omega)] at hobj
  simp at hobj
 have b : Inhabited (α × Nat × (Nat → List BRow) × (Nat → List SV)) := ⟨⟨hin.default, 0, fun _ => [], fun _ => []⟩⟩
 obtain ⟨A, hA⟩ := Deep.choose_lt (α := α × Nat × (Nat → List BRow) × (Nat → List SV)) (p := fun i a => ElemN W z R Q ((c.toList.drop (ao + i * z)).take z) a.1 a.2.1 a.2.2.1 a.2.2.2) (n := len) (fun i hi => by
  obtain ⟨cs', hcells, htr⟩ := hel i (by omega)
  obtain ⟨a, K, rows, s, ha⟩ := hread _ _ _ htr (hX i (by omega))
  refine ⟨(a, K, rows, s), ?_⟩
  have : cs' = (c.toList.drop (ao + i * z)).take z := by
   rw [hc] at hcells
   obtain ⟨_, hlen, hat⟩ := World.cells?_some hcells
   apply List.ext_getElem?
   intro j
   by_cases hj : j < z
   ·have := hat j hj
    rw [← this, Deep.add_add]
    have hadd : (Addr.mk ab ao none).add (i * z + j) = ⟨ab, ao + (i * z + j), none⟩ := by
     unfold Addr.add
     split
     ·rename_i h0; rw [h0]; rfl
     ·rfl
    rw [hadd]
    simp only [World.cell?, hobj, Option.isSome_none]
    rw [List.getElem?_take_of_lt hj, List.getElem?_drop, Array.getElem?_toList, Nat.add_assoc]
    rfl
   ·rw [List.getElem?_eq_none (by omega), List.getElem?_eq_none (by rw [List.length_take]; omega)]
  rw [← this]
  exact ha)
 let κ : Nat → Nat := fun i => (A i).2.1
 let ρ : Nat → Nat → List BRow := fun i => (A i).2.2.1
 have hκ : ∀ i j, i < len → (ρ i j).length = κ i := fun i j hi => (hA i hi).cnt j
 -- beyond the end: anything of the right length
 let g : Nat → Nat → List SV := fun j i => if i < len then (A i).2.2.2 (j + 1 + zmv κ i) else List.replicate z .nilp
 have hg : ∀ j i, (g j i).length = z := fun j i => by
  show (if i < len then (A i).2.2.2 (j + 1 + zmv κ i) else List.replicate z .nilp).length = z
  split
  ·rename_i hi
   exact (hA i hi).len _
  ·exact List.length_replicate
 let rows : Nat → List BRow := fun j => some (false, ⟨ab, ao, c.size⟩, (List.range len).flatMap (g j)) :: zny ρ κ (j + 1) len
 have atM : ∀ (m : Map) (j i : Nat), i < len → AtM m j (rows j) → AtM m (j + 1 + zmv κ i) (ρ i (j + 1 + zmv κ i)) := by
  intro m j i hi hm q y hy
  have h1 := zs7 hκ (j + 1) hi hy
  have := hm (1 + (zmv κ i + q)) y (by
   show (_ :: zny ρ κ (j + 1) len)[1 + (zmv κ i + q)]? = _
   rw [show 1 + (zmv κ i + q) = (zmv κ i + q) + 1 by omega, List.getElem?_cons_succ]
   exact h1)
  rw [show j + 1 + zmv κ i + q = j + (1 + (zmv κ i + q)) by omega]
  exact this
 have atF : ∀ (m : Rd) (j i : Nat), i < len → AtF m j (rows j) → AtF m (j + 1 + zmv κ i) (ρ i (j + 1 + zmv κ i)) := by
  intro m j i hi hm q y hy
  have h1 := zs7 hκ (j + 1) hi hy
  have := hm (1 + (zmv κ i + q)) y (by
   show (_ :: zny ρ κ (j + 1) len)[1 + (zmv κ i + q)]? = _
   rw [show 1 + (zmv κ i + q) = (zmv κ i + q) + 1 by omega, List.getElem?_cons_succ]
   exact h1)
  rw [show j + 1 + zmv κ i + q = j + (1 + (zmv κ i + q)) by omega]
  exact this
 refine ⟨(List.range len).map fun i => (A i).1, zmv κ len + 1, rows, fun j => .slice (Pos.ofNat j) 0 len mm, ⟨?_, ?_, ?_, ?_, ?_, ?_⟩, by simp⟩
 ·intro j
  show (_ :: zny ρ κ (j + 1) len).length = _
  rw [List.length_cons, zoy hκ]
 ·intro j i y hy
  cases i with
  | zero =>
   have hy' : some (some (false, (⟨ab, ao, c.size⟩ : Pl), (List.range len).flatMap (g j))) = some (some y) := hy
   simp only [Option.some.injEq] at hy'
   subst hy'
   refine ⟨rfl, hlt, fun m hm => ⟨e', fz, c.toList.take ao, (c.toList.drop ao).take (len * z), (c.toList.drop ao).drop (len * z), ?_, trivial, ?_, ?_, ?_, fun t h => by simp at h⟩⟩
   ·rw [List.take_append_drop, List.take_append_drop]
    exact hobj
   ·simp; omega
   ·simp only [List.length_take, List.length_drop, Array.length_toList]; omega
   ·refine zls fun i hi => ?_
    have : g j i = (A i).2.2.2 (j + 1 + zmv κ i) := if_pos hi
    rw [this]
    exact (hA i hi).val m _ (atM m j i hi hm)
  | succ i =>
   have hy' : (zny ρ κ (j + 1) len)[i]? = some (some y) := hy
   obtain ⟨i', q, hi', _, hq⟩ := zwk hκ (j + 1) hy'
   obtain ⟨h1, h2, h3⟩ := (hA i' hi').row _ _ _ hq
   exact ⟨h1, h2, fun m hm => h3 m (atM m j i' hi' hm)⟩
 ·intro m j hj
  have := hj 0 _ rfl
  show (m (Pos.ofNat j)).map _ = _
  rw [Nat.add_zero] at this
  rw [this]
  simp
 ·intro f j hj
  have h0 := hj 0 _ rfl
  rw [Nat.add_zero] at h0
  refine .inr ⟨Pos.ofNat j, 0, _, .inl ⟨mm, by simpa using hl, by simp⟩, h0, ?_, ?_⟩
  ·rw [znx (hg j)]; simp
  ·intro i a ha
   rw [List.getElem?_map] at ha
   obtain ⟨i', hi', he⟩ := Option.map_eq_some_iff.1 ha
   obtain ⟨hi1, hi2⟩ := List.getElem?_eq_some_iff.1 hi'
   rw [List.getElem_range] at hi2
   subst hi2
   have hil : i < len := by simpa using hi1
   subst he
   rw [Nat.zero_add, zur (hg j) len i hil]
   have : g j i = (A i).2.2.2 (j + 1 + zmv κ i) := if_pos hil
   rw [this]
   exact (hA i hil).rep f _ (atF f j i hil hj)
 ·simp; omega
 ·intro a ha
  obtain ⟨i, hi, rfl⟩ := List.mem_map.1 ha
  exact (hA i (List.mem_range.1 hi)).ok
theorem zkv {P : Program} {H : Type} {e : TypeId} {y : Nat} {d : DataW H} : ∀ {l : List (DataW H)}, d ∈ l → y ∈ d.weights P e → y ∈ DataW.weightsAll P e l
 | [], hd, _ => by cases hd
 | x :: r, hd, hy => by
  rw [DataW.weightsAll, List.mem_append]
  rcases List.mem_cons.1 hd with rfl | hd
  ·exact .inl hy
  ·exact .inr (zkv hd hy)
theorem zn9 {P : Program} {H : Type} {t e : TypeId} (ht : P.underlying t = some (.slice e)) {es sp : List (DataW H)} {B : Nat} (hw : ∀ y ∈ (DataW.slice es sp).weights P t, y ≤ B) : (es.length + sp.length) * P.bytesOf e ≤ B ∧ ∀ d, d ∈ es ∨ d ∈ sp → ∀ y ∈ d.weights P e, y ≤ B := by
 unfold DataW.weights at hw
 rw [ht] at hw
 refine ⟨hw _ List.mem_cons_self, fun d hd y hy => hw y (List.mem_cons_of_mem _ (List.mem_append.2 ?_))⟩
 rcases hd with hd | hd
 ·exact .inl (zkv hd hy)
 ·exact .inr (zkv hd hy)
theorem zo8 {P : Program} {H : Type} {e : TypeId} {D : Nat → DataW H} {len mm B : Nat} (hl : len ≤ mm) (h : ∀ d, d ∈ (List.range len).map D ∨ d ∈ ((List.range (mm - len)).map fun j => D (len + j)) → ∀ y ∈ d.weights P e, y ≤ B) : ∀ i, i < mm → ∀ y ∈ (D i).weights P e, y ≤ B := fun i hi =>
 h _ (by
  by_cases hc : i < len
  ·exact .inl (List.mem_map.2 ⟨i, List.mem_range.2 hc, rfl⟩)
  ·exact .inr (List.mem_map.2 ⟨i - len, List.mem_range.2 (by omega), by rw [show len + (i - len) = i by omega]⟩))
/-- An argument that is a slice. -/
theorem arg_nestX {α : Type} {H : Type} {henc : TypeId × Value → H} {W : World} {base : Nat} {held : Bool} {z : Nat} {R : Rd → List SV → α → Prop} {Q : α → Prop} {t e : TypeId} (hc : P.cellsOf e = z) (hin : Inhabited α)
  (ht : P.underlying t = some (.slice e)) {v : Value} (hok : Cell.okWide P W .any base t v) {fuel : Nat} {x : DataW H × List MemPlace} (h : DataW.trod henc P W 0 (fun _ => true) held fuel t [v] = some x)
  {B : Nat} (hw : ∀ y ∈ x.1.weights P t, y ≤ B)
  (hread : ∀ n cs x, DataW.trod henc P W 0 (fun _ => true) held n e cs = some x → (∀ y ∈ x.1.weights P e, y ≤ B) → ∃ (a : α) (K : Nat) (rows : Nat → List BRow) (s : Nat → List SV), ElemN W z R Q cs a K rows s) :
  ∃ l K rows s, NestN W z R Q v (l : List α) K rows s ∧ l.length * P.bytesOf e ≤ B := by
 rcases Deep.open_slice ht h with ⟨hcs, _⟩ | ⟨a, len, cap, mm, n, D, Pl', hcs, _, hl, hm, hmm, hx, hel⟩
 ·simp only [List.cons.injEq, and_true] at hcs
  subst hcs
  exact ⟨[], 0, fun _ => [], fun _ => .nils, ⟨fun _ => rfl, fun j i y hy => by simp at hy, fun m j _ => rfl, fun f j _ => .inl ⟨.inl rfl, rfl⟩, Nat.zero_le _, fun a ha => by cases ha⟩, by simp⟩
 ·simp only [List.cons.injEq, and_true] at hcs
  subst hcs
  simp only [Cell.okWide, ht, Cell.ok] at hok
  obtain ⟨_, _, _, hsp, row, cells, hsh, hlies⟩ := hok
  rw [if_pos rfl] at hmm
  subst hmm
  rw [hx] at hw
  have hws := zn9 ht hw
  have hX := zo8 hl hws.2
  have hle : len * P.bytesOf e ≤ B := by
   have h1 := hws.1
   rw [List.length_map, List.length_range] at h1
   exact Nat.le_trans (Nat.mul_le_mul_right _ (Nat.le_add_right _ _)) h1
  obtain ⟨ab, ao, asp⟩ := a
  simp only at hsp hsh hlies
  subst hsp
  unfold World.shape? at hsh
  split at hsh
  ·rename_i c e' fz hobj
   simp only [Option.some.injEq, Prod.mk.injEq] at hsh
   obtain ⟨rfl, rfl⟩ := hsh
   have hoff : ao ≤ c.size := Nat.le_trans (znn hlies) (Nat.div_mul_le_self _ _)
   obtain ⟨l, K, rows, s, hn, hlen⟩ := zpk (X := fun d => ∀ y ∈ d.weights P e, y ≤ B) hc hin hobj hoff hl hm hel hX hread
   exact ⟨l, K, rows, s, hn, by rw [hlen]; exact hle⟩
  ·simp at hsh
/-- A slice that lies within an element. -/
theorem inner_nestX {α : Type} {H : Type} {henc : TypeId × Value → H} {W : World} {held : Bool} {z : Nat} {R : Rd → List SV → α → Prop} {Q : α → Prop} {t e : TypeId} (hz0 : 0 < z) (hc : P.cellsOf e = z) (hin : Inhabited α)
  (ht : P.underlying t = some (.slice e)) {v : Value} {fuel : Nat} {x : DataW H × List MemPlace} (h : DataW.trod henc P W 0 (fun _ => true) held fuel t [v] = some x)
  {B : Nat} (hw : ∀ y ∈ x.1.weights P t, y ≤ B)
  (hread : ∀ n cs x, DataW.trod henc P W 0 (fun _ => true) held n e cs = some x → (∀ y ∈ x.1.weights P e, y ≤ B) → ∃ (a : α) (K : Nat) (rows : Nat → List BRow) (s : Nat → List SV), ElemN W z R Q cs a K rows s) :
  ∃ l K rows s, NestN W z R Q v (l : List α) K rows s ∧ l.length * P.bytesOf e ≤ B := by
 rcases Deep.open_slice ht h with ⟨hcs, _⟩ | ⟨a, len, cap, mm, n, D, Pl', hcs, _, hl, hm, hmm, hx, hel⟩
 ·simp only [List.cons.injEq, and_true] at hcs
  subst hcs
  exact ⟨[], 0, fun _ => [], fun _ => .nils, ⟨fun _ => rfl, fun j i y hy => by simp at hy, fun m j _ => rfl, fun f j _ => .inl ⟨.inl rfl, rfl⟩, Nat.zero_le _, fun a ha => by cases ha⟩, by simp⟩
 ·simp only [List.cons.injEq, and_true] at hcs
  subst hcs
  rw [if_pos rfl] at hmm
  subst hmm
  rw [hx] at hw
  have hws := zn9 ht hw
  have hX := zo8 hl hws.2
  have hle : len * P.bytesOf e ≤ B := by
   have h1 := hws.1
   rw [List.length_map, List.length_range] at h1
   exact Nat.le_trans (Nat.mul_le_mul_right _ (Nat.le_add_right _ _)) h1
  by_cases h0 : mm = 0
  ·subst h0
   obtain rfl : len = 0 := by omega
   exact ⟨[], 0, fun _ => [], fun _ => .rawz a, ⟨fun _ => rfl, fun j i y hy => by simp at hy, fun m j _ => rfl, fun f j _ => .inl ⟨.inr (.inr ⟨a, rfl⟩), rfl⟩, Nat.zero_le _, fun a ha => by cases ha⟩, by simp⟩
  ·have o := hel 0 (by omega)
   obtain ⟨cs0, b, _⟩ := o
   rw [hc] at b
   obtain ⟨_, u, q⟩ := World.cells?_some b
   have hc0 := q 0 hz0
   obtain ⟨v0, hv0⟩ : ∃ v0, cs0[0]? = some v0 := ⟨cs0[0], List.getElem?_eq_getElem (by omega)⟩
   rw [hv0, Nat.zero_mul] at hc0
   have g : ((a.add 0).add 0) = a := by
    unfold Addr.add
    simp
   rw [g] at hc0
   obtain ⟨hspot, c, e', fz, hobj, hoff'⟩ := zy3 hc0
   obtain ⟨ab, ao, asp⟩ := a
   simp only at hspot hobj hoff'
   subst hspot
   obtain ⟨l, K, rows, s, hn, hlen⟩ := zpk (X := fun d => ∀ y ∈ d.weights P e, y ≤ B) hc hin hobj (Nat.le_of_lt hoff') hl hm hel hX hread
   exact ⟨l, K, rows, s, hn, by rw [hlen]; exact hle⟩
/-- Elements that are flat, or that hold one slice, as such. -/
theorem ElemN.flat {α : Type} {W : World} {z : Nat} {enc : α → List SV} (hz : ∀ a, (enc a).length = z) {cs : List Value} {a : α} (h : ∀ m, concs m (enc a) = some cs) : ElemN W z (fun _ => FlatR enc) (fun _ => True) cs a 0 (fun _ => []) (fun _ => enc a) :=
 ⟨fun _ => rfl, fun j i y hy => by simp at hy, fun m j _ => h m, fun f j _ => rfl, fun _ => hz a, trivial⟩
theorem ElemN.slice {α : Type} {W : World} {z : Nat} {R : Rd → List SV → α → Prop} {Q : α → Prop} {v : Value} {l : List α} {K : Nat} {rows : Nat → List BRow} {s : Nat → SV} {R' : Rd → List SV → List α → Prop} (h : NestN W z R Q v l K rows s) (hR : ∀ f j, Slc f z (R f) (s j) l → R' f [s j] l) : ElemN W 1 R' (fun l => l.length ≤ maxLen ∧ ∀ a ∈ l, Q a) [v] l K rows (fun j => [s j]) :=
 ⟨h.cnt, h.row, fun m j hj => by simp [concs, h.val m j hj], fun f j hj => hR f j (h.slc f j hj), fun _ => rfl, h.len, h.all⟩
theorem AtM.left {m : Map} {j : Nat} {l l' : List BRow} (h : AtM m j (l ++ l')) : AtM m j l := fun i y hy => h i y (by rw [List.getElem?_append_left (List.getElem?_eq_some_iff.1 hy).1]; exact hy)
theorem AtM.right {m : Map} {j : Nat} {l l' : List BRow} (h : AtM m j (l ++ l')) : AtM m (j + l.length) l' := fun i y hy => by
 have := h (l.length + i) y (by rw [List.getElem?_append_right (Nat.le_add_right _ _), Nat.add_sub_cancel_left]; exact hy)
 rw [Nat.add_assoc]
 exact this
theorem AtF.left {m : Rd} {j : Nat} {l l' : List BRow} (h : AtF m j (l ++ l')) : AtF m j l := fun i y hy => h i y (by rw [List.getElem?_append_left (List.getElem?_eq_some_iff.1 hy).1]; exact hy)
theorem AtF.right {m : Rd} {j : Nat} {l l' : List BRow} (h : AtF m j (l ++ l')) : AtF m (j + l.length) l' := fun i y hy => by
 have := h (l.length + i) y (by rw [List.getElem?_append_right (Nat.le_add_right _ _), Nat.add_sub_cancel_left]; exact hy)
 rw [Nat.add_assoc]
 exact this
/-- Two parts of an element, one behind the other. -/
theorem ElemN.app {α β γ : Type} {W : World} {z1 z2 K1 K2 : Nat} {R1 : Rd → List SV → α → Prop} {R2 : Rd → List SV → β → Prop} {Q1 : α → Prop} {Q2 : β → Prop} {cs1 cs2 : List Value} {a : α} {b : β} {r1 r2 : Nat → List BRow} {s1 s2 : Nat → List SV}
  (h1 : ElemN W z1 R1 Q1 cs1 a K1 r1 s1) (h2 : ElemN W z2 R2 Q2 cs2 b K2 r2 s2) {R : Rd → List SV → γ → Prop} {Q : γ → Prop} {c : γ} (hR : ∀ f x y, x.length = z1 → R1 f x a → R2 f y b → R f (x ++ y) c) (hQ : Q1 a → Q2 b → Q c) :
  ElemN W (z1 + z2) R Q (cs1 ++ cs2) c (K1 + K2) (fun j => r1 j ++ r2 (j + K1)) (fun j => s1 j ++ s2 (j + K1)) := by
 have right : ∀ {m j}, AtM m j (r1 j ++ r2 (j + K1)) → AtM m (j + K1) (r2 (j + K1)) := fun h => by
  have := h.right
  rw [h1.cnt] at this
  exact this
 have rightF : ∀ {m j}, AtF m j (r1 j ++ r2 (j + K1)) → AtF m (j + K1) (r2 (j + K1)) := fun h => by
  have := h.right
  rw [h1.cnt] at this
  exact this
 refine ⟨fun j => by rw [List.length_append, h1.cnt, h2.cnt], fun j i y hy => ?_, fun m j hj => concs_append (h1.val m j hj.left) (h2.val m _ (right hj)), fun f j hj => hR f _ _ (h1.len j) (h1.rep f j hj.left) (h2.rep f _ (rightF hj)), fun j => by rw [List.length_append, h1.len, h2.len], hQ h1.ok h2.ok⟩
 by_cases hi : i < K1
 ·rw [List.getElem?_append_left (by rw [h1.cnt]; exact hi)] at hy
  obtain ⟨g1, g2, g3⟩ := h1.row j i y hy
  exact ⟨g1, g2, fun m hm => g3 m hm.left⟩
 ·rw [List.getElem?_append_right (by rw [h1.cnt]; omega), h1.cnt] at hy
  obtain ⟨g1, g2, g3⟩ := h2.row _ _ y hy
  exact ⟨g1, g2, fun m hm => g3 m (right hm)⟩
end Go.Ev

/- Builders of strings: pointers to what holds them, places that are not safe, bytes that become a string; and calls whose contracts are known from elsewhere. -/
namespace Go.Ev
open Go.RowKit
variable {P : Program}
section
variable {e : Env} {M : Mem} {x y p q : Operand} {t u s d : TypeId} {F : Rd} {H : List Ent} {f : FuncId} {xs : Array Operand} {ts : Array TypeId}
theorem ex_ptrNN (h : ar e x = some .nilp) (h' : ar e y = some .nilp) (hk : eqK P t = some .ptr) : execO P M (treeOf e) (.binOp .eql t x y u) = .val (.bool true) M := by
 rw [ziv h h']
 show (match eqS P t .nilp .nilp with | some r => Out.val (.bool r) M | none => .bad) = _
 unfold eqS
 rw [hk]
theorem ex_ptrNNn (h : ar e x = some .nilp) (h' : ar e y = some .nilp) (hk : eqK P t = some .ptr) : execO P M (treeOf e) (.binOp .neq t x y u) = .val (.bool false) M := by
 rw [ziv h h']
 show (match eqS P t .nilp .nilp with | some r => Out.val (.bool (Bool.rec true false r)) M | none => .bad) = _
 unfold eqS
 rw [hk]
theorem zs1 {op : BinOp} {b : Pos} {o : Nat} : zw0 P op t (.ptr b o) .nilp = none := by cases op <;> rfl
theorem ex_ptrPN {b : Pos} {o : Nat} (h : ar e x = some (.ptr b o)) (h' : ar e y = some .nilp) (hk : eqK P t = some .ptr) : execO P M (treeOf e) (.binOp .eql t x y u) = .val (.bool false) M := by
 rw [ziv h h']
 unfold zmg
 simp only [zs1]
 show (match eqS P t (.ptr b o) .nilp with | some r => Out.val (.bool r) M | none => .bad) = _
 unfold eqS
 rw [hk]
theorem ex_ptrPNn {b : Pos} {o : Nat} (h : ar e x = some (.ptr b o)) (h' : ar e y = some .nilp) (hk : eqK P t = some .ptr) : execO P M (treeOf e) (.binOp .neq t x y u) = .val (.bool true) M := by
 rw [ziv h h']
 unfold zmg
 simp only [zs1]
 show (match eqS P t (.ptr b o) .nilp with | some r => Out.val (.bool (Bool.rec true false r)) M | none => .bad) = _
 unfold eqS
 rw [hk]
theorem ex_ptrNP {b : Pos} {o : Nat} (h : ar e x = some .nilp) (h' : ar e y = some (.ptr b o)) (hk : eqK P t = some .ptr) : execO P M (treeOf e) (.binOp .eql t x y u) = .val (.bool false) M := by
 rw [ziv h h']
 unfold zmg
 simp only
 show (match eqS P t .nilp (.ptr b o) with | some r => Out.val (.bool r) M | none => .bad) = _
 unfold eqS
 rw [hk]
theorem ex_ptrSame {b : Pos} {o : Nat} {v : TypeId} (h : ar e x = some (.ptr b o)) (h' : ar e y = some (.ptr b o)) (hk : ptrElt P t = some v) (hv : (P.info? v).isSome = true) : execO P M (treeOf e) (.binOp .eql t x y u) = .val (.bool true) M := by
 rw [ziv h h']
 unfold zmg
 have e1 : Pos.beq b b = true := (Pos.beq_iff _ _).2 rfl
 obtain ⟨i, hv⟩ := Option.isSome_iff_exists.1 hv
 simp only [zw0, hk, hv, e1, Nat.beq_refl]
theorem ex_ptrSamen {b : Pos} {o : Nat} {v : TypeId} (h : ar e x = some (.ptr b o)) (h' : ar e y = some (.ptr b o)) (hk : ptrElt P t = some v) (hv : (P.info? v).isSome = true) : execO P M (treeOf e) (.binOp .neq t x y u) = .val (.bool false) M := by
 rw [ziv h h']
 unfold zmg
 have e1 : Pos.beq b b = true := (Pos.beq_iff _ _).2 rfl
 obtain ⟨i, hv⟩ := Option.isSome_iff_exists.1 hv
 simp only [zw0, hk, hv, e1, Nat.beq_refl]
theorem zry {a : SV} (h : ar e x = some a) : execO P M (treeOf e) (.convert s d x) = ziq P s d a M := by
 show zt6 P M (treeOf e) s d x = _
 unfold zt6
 rw [zig h]
 rfl
theorem ex_toU {i m : Nat} {b : Pos} {tt : TypeId} {c : List SV} (h : ar e x = some (.ptr b 0)) (hu : uvK P s d = some (.to m)) (hm : Nat.ble 1 m = true) (hH : Has F M H) (hi : H[i]? = some (.obj b (.row tt .whole c))) (hc : Nat.ble 1 c.length = true) :
  execO P M (treeOf e) (.convert s d x) = .val (.ptr b 0) M := by
 rw [zry h]
 have hro : zj7 M b = some c := zlt (hH.get hi).1.get
 unfold ziq
 rw [hu]
 simp only [hro, hm, zio, show Nat.ble (Nat.succ 0) c.length = true from hc]
theorem ex_backU {i : Nat} {b : Pos} {tt : TypeId} {c : List SV} (h : ar e x = some (.ptr b 0)) (hu : uvK P s d = some (.back tt)) (hH : Has F M H) (hi : H[i]? = some (.obj b (.row tt .whole c))) (hc : Nat.ble 1 c.length = true) (hz : P.cellsOf tt = c.length) :
  execO P M (treeOf e) (.convert s d x) = .val (.ptr b 0) M := by
 rw [zry h]
 have hw : zor M b = some (tt, c) := by
  unfold zor
  rw [(hH.get hi).1.get]
 unfold ziq
 rw [hu]
 simp only [hw, zio, Nat.beq_refl, hz, hc]
theorem ex_noEsc {a : SV} (h : ars e xs.toList = some [a]) (hk : makeK P f = none) (hc : callable P f = false) (hx : extK P f = some .noEsc) : execO P M (treeOf e) (.call ⟨.value (.func f), xs, ts⟩) = .val a M := by
 rw [y0p h hk hc hx]
 rfl
/-- A byte that is a rune. -/
def runeS (n : Int) : Option (List UInt8) := match n with
 | .ofNat c => bif Nat.ble c 127 then some [UInt8.ofNat c] else none
 | .negSucc _ => none
theorem ex_rune {kk : IntKind} {n : Int} {r : List UInt8} (h : ar e x = some (.int kk n)) (hu : uvK P s d = none) (hk : cvK P s d = some .rune) (hr : runeS n = some r) : execO P M (treeOf e) (.convert s d x) = .val (.str r) M := by
 rw [zry h]
 unfold ziq
 rw [hu]
 unfold runeS at hr
 split at hr
 ·rename_i c
  cases hb : Nat.ble c 127 with
  | false => rw [hb] at hr; simp at hr
  | true =>
   rw [hb] at hr
   obtain rfl := Option.some.inj hr
   have e1 : ziw (Int.ofNat c) = some c := rfl
   simp only [zkp, hk, e1, hb]
 ·simp at hr
/-- A string's bytes are appended. -/
theorem str_first {enc : Int → List SV} (he : ∀ x, enc x = [.int .u8 x]) (l : List UInt8) {z : Nat} : zif M z (bytesI l).length (.str l) = some ((bytesI l).flatMap enc) := by
 show some (zkl (tkB (bytesI l).length l)) = _
 rw [bytesI_len, zsl, List.take_length, zl9 he]
theorem str_lenZ {el : Elt} (hs : el.size = 1) (l : List UInt8) : zuj el (.str l) = some (bytesI l).length := by
 unfold zuj
 rw [hs, bytesI_len]
 show some (zvw l) = _
 rw [zks]
/-- The place of the first byte of a slice of one's own that is not empty. -/
theorem vec_data {α : Type} {enc : α → List SV} {i z : Nat} {tt : TypeId} {sv : SV} {l : List α} (hH : Has F M H) (hi : H[i]? = some (.vec tt z l.length sv (l.flatMap enc))) (hl : Nat.ble 1 l.length = true) :
  ∃ b, blk sv = [b] ∧ ∀ (e : Env) (M' : Mem) (p : Operand) (t : TypeId), ar e p = some sv → execO P M' (treeOf e) (.call ⟨.builtin .unsafeSliceData, #[p], #[t]⟩) = .val (.ptr b 0) M' := by
 have hl' := Nat.le_of_ble_eq_true hl
 rcases hH.get hi with ⟨rfl, h0, _⟩ | ⟨b, hsv, hc, ho⟩
 ·omega
 ·refine ⟨b, by rcases hsv with rfl | rfl <;> rfl, fun e M' p t hp => ?_⟩
  rw [zk7 (l := [sv]) (by show ars e [p] = _; simp only [ars, hp])]
  rcases hsv with rfl | rfl
  ·show zj8 (.slice b 0 l.length l.length) M' = _
   unfold zj8
   simp only [hl]
  ·show zj8 (.ope b 0 l.length z) M' = _
   unfold zj8
   simp only [hl]
def neB {α : Type} (l : List α) : Option Unit := bif Nat.ble 1 l.length then some () else none
theorem neB_some {α : Type} {l : List α} {u : Unit} (h : neB l = some u) : Nat.ble 1 l.length = true := by
 unfold neB at h
 cases hb : Nat.ble 1 l.length with
 | false => rw [hb] at h; simp at h
 | true => rfl
/-- The string of the bytes of a slice of one's own, which is given up. -/
def bytesU (l : List Int) : List UInt8 := l.map fun n => UInt8.ofNat n.toNat
theorem zt0 : ∀ l : List Int, zk0 l = bytesU l
 | [] => rfl
 | a :: l => by
  show UInt8.ofNat a.toNat :: zk0 l = _
  rw [zt0 l]
  rfl
def strOf (l : List Int) : Option (List UInt8) := bif Nat.ble 1 l.length && Nat.ble l.length 1073741824 then some (bytesU l) else none
theorem zue {enc : Int → List SV} (he : ∀ x, enc x = [.int .u8 x]) : ∀ l : List Int, zr8 (l.flatMap enc) = some l
 | [] => rfl
 | a :: l => by
  rw [List.flatMap_cons, he]
  have ih := zue he l
  show (match zr8 (l.flatMap enc) with | some r => some (a :: r) | none => none) = _
  rw [ih]
theorem ExG.uString {enc : Int → List SV} {i : Nat} {b : Pos} {tt pt it : TypeId} {sv : SV} {l : List Int} {r : List UInt8} (he : ∀ x, enc x = [.int .u8 x]) (h : ar e p = some (.ptr b 0)) (h' : ar e q = some (.int .i64 (l.length : Int))) (hH : Has F M H) (hi : H[i]? = some (.vec tt 1 l.length sv (l.flatMap enc))) (hb : blk sv = [b])
  (hp : ptrElt P pt = some tt) (hc : P.cellsOf tt = 1) (hr : strOf l = some r) :
  ExG P M e (.call ⟨.builtin .unsafeString, #[p, q], #[pt, it]⟩) fun v M' => v = .str r ∧ Has F M' (H.set i (.vec 0 0 0 .nils [])) := by
 intro hw
 unfold strOf at hr
 cases hn : (Nat.ble 1 l.length && Nat.ble l.length 1073741824) with
 | false => rw [hn] at hr; simp at hr
 | true =>
  rw [hn] at hr
  rw [← zt0] at hr
  obtain rfl := Option.some.inj hr
  rw [Bool.and_eq_true] at hn
  obtain ⟨h1, h2⟩ := hn
  have h1' := Nat.le_of_ble_eq_true h1
  have d : ∀ a, (enc a).length = 1 := fun a => by rw [he]; rfl
  rcases hH.get hi with ⟨rfl, h0, _⟩ | ⟨b', hsv, hcl, ho⟩
  ·omega
  ·have hbb : b' = b := by
    rcases hsv with rfl | rfl <;> simpa [blk] using hb
   subst hbb
   have hcl' : (l.flatMap enc).length = l.length := by rw [hcl]; omega
   have hx : execO P M (treeOf e) (.call ⟨.builtin .unsafeString, #[p, q], #[pt, it]⟩) = .val (.str (zk0 l)) (zzk M b' (some (.row tt (.head l.length) (l.flatMap enc)))) := by
    rw [zk7 (l := [.ptr b' 0, .int .i64 (l.length : Int)]) (by show ars e [p, q] = _; simp only [ars, h, h'])]
    show zmw P [pt, it] (.ptr b' 0) (.int .i64 (l.length : Int)) M = _
    have e1 : ziw (l.length : Int) = some l.length := rfl
    have e2 : above M b' = true := Nat.ble_eq_true_of_le ho.low
    have e3 : y04 (.head 0) (Nat.add 0 l.length) = some (.head l.length) := by
     show some (RK.head (Bool.rec 0 (0 + l.length) (Nat.ble 0 (0 + l.length)))) = _
     rw [Nat.zero_add]
     have : Nat.ble 0 l.length = true := Nat.ble_eq_true_of_le (by omega)
     rw [this]
    have e4 : Nat.ble (Nat.add 0 l.length) (len (l.flatMap enc)) = true := by
     rw [zio, hcl']
     exact Nat.ble_eq_true_of_le (by show 0 + l.length ≤ _; omega)
    have e5 : tk l.length (dp 0 (l.flatMap enc)) = l.flatMap enc := by
     rw [zki, zkj, List.drop_zero, ← hcl', List.take_length]
    have e6 := zue he l
    clear hcl hcl' hi hsv h' hb
    obtain ⟨k, hk⟩ : ∃ k, l.length = k + 1 := ⟨l.length - 1, by omega⟩
    have e7 : Nat.beq tt tt = true := Nat.beq_refl _
    rw [hk] at e1 e3 e4 e5 h2 ⊢
    unfold zmw
    simp only [e1, ho.get, e2, hp, hc, show Nat.beq 1 1 = true from rfl, e3, e4, e5, e6, e7, h2]
   refine ⟨_, _, hx, ?_, rfl, ?_⟩
   ·exact ⟨hw.set _ ho.lt, rfl, Nat.le_refl _⟩
   ·exact hH.upd (M' := ⟨M.t.put (some (.row tt (.head l.length) (l.flatMap enc))) b', M.next, M.floor⟩) hi (zpp ho rfl) (fun c o hcn hco => zlj c o (by simpa [Ent.fp, hb] using hcn) hco) (.inl ⟨rfl, rfl, rfl⟩) (fun b hb => by simp [Ent.fp, blk] at hb)
end
section
variable {fx : Fx} {n : Nat} {Q : SV → Mem → Prop} {e : Env} {k : List SItem} {M : Mem} {F : Rd} {H : List Ent}
theorem znp {m : Map} : ∀ {c : List SV} {vs : List Value} {j : Nat} {v : SV}, concs m c = some vs → c[j]? = some v → conc m v ≠ none
 | [], _, j, v, _, h => by simp at h
 | x :: c, vs, 0, v, h, hj => by
  obtain ⟨u, r, h1, _, _⟩ := zi3 h
  simp only [List.getElem?_cons_zero, Option.some.injEq] at hj
  subst hj
  rw [h1]; simp
 | x :: c, vs, j + 1, v, h, hj => by
  obtain ⟨u, r, _, h2, _⟩ := zi3 h
  exact znp h2 (by simpa using hj)
/-- What lies in a cell of what a temporary points to is placed. -/
theorem Run.frozeAtC {b bb : Pos} {tt tt0 : TypeId} {rk rk0 : RK} {c c0 : List SV} {t off j : Nat} {v : SV} (ht : lk t e = some (.ptr bb off)) (hb : M.t.get bb = some (.row tt0 rk0 c0)) (hj : c0[j]? = some v) (hv : ∀ m : Map, m b = none → conc m v = none) (ho : Own M b (.row tt rk c)) (hrun : Run P fx n Q e k ⟨M.t.put (some (.ro c)) b, M.next, M.floor⟩) : Run P fx n Q e k M := by
 intro hw
 have ha : Aft M ⟨M.t.put (some (.ro c)) b, M.next, M.floor⟩ := hw.put ho.lt
 obtain ⟨s, M', hq, ha2, hto⟩ := hrun ha.wf
 refine ⟨s, M', hq, ha.trans ha2, ?_⟩
 intro hmix B m w fr frs cs0 hr hf hcs
 have hpl : m b ≠ none := by
  intro hm
  obtain ⟨c, tm, todo, rfl, hcx, htr, hn, hk⟩ := hf
  obtain ⟨u, _, hu⟩ := htr t _ (by rw [zi7]; exact ht)
  obtain ⟨p, hp, _⟩ := zit hu
  obtain ⟨_, _, _, vs, _, _, _, _, _, hc, _⟩ := hr.objs bb _ p hb hp
  exact znp hc hj (hv m hm)
 have hst := zi0.froze hr ho hpl
 obtain ⟨fr', w', m', x, g1, g2, g3, g4, g5⟩ := hto hmix B m w fr frs cs0 hst.rel hf hcs
 exact ⟨fr', w', m', x, g1, hst.trans g2, g3, g4, g5⟩
theorem Run.freezeC {α : Type} {enc : α → List SV} {i io t off j z : Nat} {bb : Pos} {tt0 : TypeId} {rk0 : RK} {c0 : List SV} {sv : SV} {l : List α} {tt : TypeId} (ht : lk t e = some (.ptr bb off)) (hH : Has F M H) (hio : H[io]? = some (.obj bb (.row tt0 rk0 c0))) (hj : c0[j]? = some sv) (hi : H[i]? = some (.vec tt z l.length sv (l.flatMap enc))) (hlen : ∀ a, (enc a).length = z)
  (next : ∀ F' M', RdLe F F' → Has F' M' (H.set i (.vec 0 0 0 .nils [])) → Slc F' z (FlatR enc) sv l → Run P fx n Q e k M') : Run P fx n Q e k M := by
 rcases hH.get hi with ⟨rfl, h0, hc0⟩ | ⟨b, hsv, hc, ho⟩
 ·have hl : l = [] := List.length_eq_zero_iff.1 h0
  subst hl
  refine next F M (fun _ _ h => h) ?_ (.inl ⟨.inl rfl, rfl⟩)
  exact hH.upd hi (.refl M) (fun _ _ _ h => h) (.inl ⟨rfl, rfl, rfl⟩) (fun b hb => by simp [Ent.fp, blk] at hb)
 ·have hnx := hH.upd (y := .vec 0 0 0 .nils []) (M' := ⟨M.t.put (some (.ro (l.flatMap enc))) b, M.next, M.floor⟩) hi (zpp ho rfl) (fun c o hcn hco => zlj c o (by rcases hsv with rfl | rfl <;> exact hcn) hco) (.inl ⟨rfl, rfl, rfl⟩) (fun b hb => by simp [Ent.fp, blk] at hb)
  have hro : ro ⟨M.t.put (some (.ro (l.flatMap enc))) b, M.next, M.floor⟩ b = some (l.flatMap enc) := zvx ho.lt (.inl (Tree.get_put_same _ _ _))
  have hslc : Slc (ro ⟨M.t.put (some (.ro (l.flatMap enc))) b, M.next, M.floor⟩) z (FlatR enc) sv l := by
   refine .inr ⟨b, 0, _, ?_, hro, by rw [hc]; omega, fun i a ha => by rw [Nat.zero_add]; exact znm hlen l i a ha⟩
   rcases hsv with h | h
   ·exact .inl ⟨_, Nat.le_refl _, h⟩
   ·exact .inr h
  refine Run.frozeAtC ht (hH.get hio).1.get hj (fun m hm => ?_) ho (next _ _ hnx.base (hnx.upF fun _ _ h => h) hslc)
  rcases hsv with rfl | rfl <;> simp [conc, hm]
theorem Run.freezeA {α : Type} {enc : α → List SV} {i t j z : Nat} {c0 : List SV} {sv : SV} {l : List α} {tt : TypeId} (ht : lk t e = some (.agg c0)) (hH : Has F M H) (hj : c0[j]? = some sv) (hi : H[i]? = some (.vec tt z l.length sv (l.flatMap enc))) (hlen : ∀ a, (enc a).length = z)
  (next : ∀ F' M', RdLe F F' → Has F' M' (H.set i (.vec 0 0 0 .nils [])) → Slc F' z (FlatR enc) sv l → Run P fx n Q e k M') : Run P fx n Q e k M := by
 rcases hH.get hi with ⟨rfl, h0, hc0⟩ | ⟨b, hsv, hc, ho⟩
 ·have hl : l = [] := List.length_eq_zero_iff.1 h0
  subst hl
  refine next F M (fun _ _ h => h) ?_ (.inl ⟨.inl rfl, rfl⟩)
  exact hH.upd hi (.refl M) (fun _ _ _ h => h) (.inl ⟨rfl, rfl, rfl⟩) (fun b hb => by simp [Ent.fp, blk] at hb)
 ·have hnx := hH.upd (y := .vec 0 0 0 .nils []) (M' := ⟨M.t.put (some (.ro (l.flatMap enc))) b, M.next, M.floor⟩) hi (zpp ho rfl) (fun c o hcn hco => zlj c o (by rcases hsv with rfl | rfl <;> exact hcn) hco) (.inl ⟨rfl, rfl, rfl⟩) (fun b hb => by simp [Ent.fp, blk] at hb)
  have hro : ro ⟨M.t.put (some (.ro (l.flatMap enc))) b, M.next, M.floor⟩ b = some (l.flatMap enc) := zvx ho.lt (.inl (Tree.get_put_same _ _ _))
  have hslc : Slc (ro ⟨M.t.put (some (.ro (l.flatMap enc))) b, M.next, M.floor⟩) z (FlatR enc) sv l := by
   refine .inr ⟨b, 0, _, ?_, hro, by rw [hc]; omega, fun i a ha => by rw [Nat.zero_add]; exact znm hlen l i a ha⟩
   rcases hsv with h | h
   ·exact .inl ⟨_, Nat.le_refl _, h⟩
   ·exact .inr h
  refine Run.frozeAt ht (fun m hm => ?_) ho (next _ _ hnx.base (hnx.upF fun _ _ h => h) hslc)
  have hz : conc m sv = none := by rcases hsv with rfl | rfl <;> simp [conc, hm]
  cases hcc : conc m (.agg c0) with
  | none => rfl
  | some v =>
   obtain ⟨vs, hvs, _⟩ := zjv hcc
   exact absurd hz (znp hvs hj)
end
/-- A listed table is all that its variable holds. -/
theorem tab_is {B n : Nat} {m : Map} {w : World} {l : List (Nat × List SV)} {g : Nat} {name : String} {k : IntKind} {zs : List Int} (hr : MRel B m (memFix n l) w) (hl : (g, intCells k zs) ∈ l) (hd : (zth l).get (Pos.ofNat g) = some (.fix (intCells k zs))) (hg : P.globalNamed name = some g) : Lib.TabIs P w name k zs := by
 have hd' : (memFix n l).t.get (Pos.ofNat g) = some (.fix (intCells k zs)) := hd
 obtain ⟨z, hm, hz⟩ := hr.glob _ _ hd'
 obtain ⟨e, fz, pre, vs, post, ho, _, hp, hs, hc, _⟩ := hr.objs _ _ _ hd' hm
 rw [Pos.num_ofNat] at hm
 have hlen := zi5 hc
 simp only at hp hs
 have hpre : pre = [] := List.length_eq_zero_iff.1 hp
 have hpost : post = [] := List.length_eq_zero_iff.1 (by rw [hp, hz, hlen] at hs; omega)
 subst hpre hpost
 rw [zlh] at hc
 have hv := Option.some.inj hc
 show w.var? P name = _
 unfold World.var?
 rw [hg]
 simp only [Pos.num_ofNat, Nat.add_sub_cancel] at ho
 simp only [Option.bind_some, ho, List.nil_append, List.append_nil, hv]
/-- A contract from elsewhere: plain arguments, a plain answer, where listed tables are as they are laid. -/
theorem CallsM.known {f : FuncId} {n : Nat} {l : List (Nat × List SV)} {xs : List SV} {s0 : SV} {vs : List Value} {v : Value} (hxs : ∀ m, concs m xs = some vs) (hs : ∀ m, conc m s0 = some v) (hn : (l.all fun x => Nat.blt x.1 n) = true) (hp : (l.all fun x => plain.plains x.2) = true)
  (hc : ∀ w m, MRel w.heap.size m (memFix n l) w → Calls P f vs.toArray w fun e w' => e = .returned v ∧ Below w.heap.size w w') {M : Mem} (h : FixIn M l) : CallsM P f xs M fun s M' => s = s0 ∧ M' = M := by
 intro hw
 refine ⟨s0, M, ?_, .refl hw, rfl, rfl⟩
 intro _ B m w vs' hr has c cs
 have hvs : vs' = vs.toArray := by
  rw [hxs m] at has
  have := Option.some.inj has
  rw [this]
 subst hvs
 obtain ⟨m1, hr1⟩ := FixIn.rel hn hp hr h
 obtain ⟨e, w', fr, ⟨rfl, hb⟩, hcome, hfn, hl⟩ := hc w m1 hr1 (c :: cs)
 exact ⟨m, w', v, ⟨hr.kept hb, fun _ _ => rfl, fun _ _ _ => rfl, Nat.le_refl _, hb.mono hr.base, fun k hk _ => hb.block k hk, fun _ _ h => h, fun _ _ => rfl, rfl, fun _ _ h => h, fun b p hbn hp _ => absurd hp (by rw [(hr.fresh b hbn).1]; simp)⟩, hs m, Steps.trans hcome (.one (step_leave_returned hl))⟩
end Go.Ev

