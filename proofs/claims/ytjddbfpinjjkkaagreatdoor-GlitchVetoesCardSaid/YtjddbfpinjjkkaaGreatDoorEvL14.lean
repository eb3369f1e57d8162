/- A part of the small machine. -/
import Derived.Test.YtjddbfpinjjkkaaGreatDoorEvL12
import Derived.Deep.Slices
set_option linter.unusedVariables false
namespace Go.Ev
open Go.RowKit
variable {P : Program}
structure InnerArg {α : Type} (W : World) (z : Nat) (enc : α → List SV) (v : Value) (l : List α) (r : ARow) (s : Nat → SV) : Prop where
  row : ∀ x, r = some x → x.1.block < W.heap.size ∧ ∀ m, RowRel m x.1 none .lost x.2 W.heap[x.1.block]?
  val : ∀ (m : Map) (j : Nat), (∀ x, r = some x → m (Pos.ofNat j) = some x.1) → conc m (s j) = some v
  slc : ∀ (f : Rd) (j : Nat), (∀ x, r = some x → f (Pos.ofNat j) = some x.2) → Slc f z (FlatR enc) (s j) l
  len : l.length ≤ maxLen
theorem cell_lies {w : World} {a : Addr} {v : Value} (h : w.cell? a = some v) : a.spot = none ∧ ∃ c e fz, w.heap[a.block]? = some (.cells c e fz) ∧ a.off < c.size := by
  unfold World.cell? at h
  split at h
  · rename_i c e fz hobj
    split at h
    · simp at h
    · rename_i hs
      refine ⟨by simpa using hs, c, e, fz, hobj, ?_⟩
      apply Classical.byContradiction
      intro hn
      rw [Array.getElem?_eq_none (by omega)] at h
      simp at h
  · simp at h
theorem inner_arg {α : Type} {H : Type} {henc : TypeId × Value → H} {W : World} {held : Bool} {z : Nat} {enc : α → List SV} (hz : ∀ a, (enc a).length = z) (hz0 : 0 < z) {t e : TypeId} (hc : P.cellsOf e = z) (hin : Inhabited α)
    (ht : P.underlying t = some (.slice e)) {v : Value} {fuel : Nat} {x : DataW H × List MemPlace} (h : DataW.trod henc P W 0 (fun _ => true) held fuel t [v] = some x)
    (hread : ∀ n cs x, DataW.trod henc P W 0 (fun _ => true) held n e cs = some x → ∃ a : α, ∀ m, concs m (enc a) = some cs) :
    ∃ l r s, InnerArg W z enc v (l : List α) r s := by
  rcases Deep.open_slice ht h with ⟨hcs, _⟩ | ⟨a, len, cap, mm, n, D, Pl', hcs, _, hl, hm, hmm, _, hel⟩
  · simp only [List.cons.injEq, and_true] at hcs
    subst hcs
    exact ⟨[], none, fun _ => .nils, ⟨fun x hx => by simp at hx, fun m j _ => rfl, fun f j _ => .inl ⟨.inl rfl, rfl⟩, Nat.zero_le _⟩⟩
  · simp only [List.cons.injEq, and_true] at hcs
    subst hcs
    rw [if_pos rfl] at hmm
    subst hmm
    by_cases h0 : mm = 0
    · subst h0
      obtain rfl : len = 0 := by omega
      exact ⟨[], none, fun _ => .rawz a, ⟨fun x hx => by simp at hx, fun m j _ => rfl, fun f j _ => .inl ⟨.inr (.inr ⟨a, rfl⟩), rfl⟩, Nat.zero_le _⟩⟩
    · obtain ⟨cs0, hcells0, _⟩ := hel 0 (by omega)
      rw [hc] at hcells0
      obtain ⟨_, hlen0, hat0⟩ := World.cells?_some hcells0
      have hc0 := hat0 0 hz0
      obtain ⟨v0, hv0⟩ : ∃ v0, cs0[0]? = some v0 := ⟨cs0[0], List.getElem?_eq_getElem (by omega)⟩
      rw [hv0, Nat.zero_mul] at hc0
      have hadd0 : ((a.add 0).add 0) = a := by
        unfold Addr.add
        simp
      rw [hadd0] at hc0
      obtain ⟨hspot, c, e', fz, hobj, hoff'⟩ := cell_lies hc0
      obtain ⟨ab, ao, asp⟩ := a
      simp only at hspot hobj hoff'
      subst hspot
      have hoff : ao ≤ c.size := by omega
      have hlt : ab < W.heap.size := by
        apply Classical.byContradiction
        intro hn
        rw [Array.getElem?_eq_none (by omega)] at hobj
        simp at hobj
      obtain ⟨A, hA⟩ := Deep.choose_lt (α := α) (p := fun i a => ∀ m, concs m (enc a) = some ((c.toList.drop (ao + i * z)).take z)) (n := len) (fun i hi => by
        obtain ⟨cs', hcells, htr⟩ := hel i (by omega)
        obtain ⟨a, ha⟩ := hread _ _ _ htr
        refine ⟨a, fun m => ?_⟩
        rw [ha m]
        congr 1
        rw [hc] at hcells
        obtain ⟨_, hlen, hat⟩ := World.cells?_some hcells
        apply List.ext_getElem?
        intro j
        by_cases hj : j < z
        · have := hat j hj
          rw [← this, Deep.add_add]
          have hadd : (Addr.mk ab ao none).add (i * z + j) = ⟨ab, ao + (i * z + j), none⟩ := by
            unfold Addr.add
            split
            · rename_i h0; rw [h0]; rfl
            · rfl
          rw [hadd]
          simp only [World.cell?, hobj, Option.isSome_none]
          rw [List.getElem?_take_of_lt hj, List.getElem?_drop, Array.getElem?_toList, Nat.add_assoc]
          rfl
        · rw [List.getElem?_eq_none (by omega), List.getElem?_eq_none (by rw [List.length_take]; omega)])
      refine ⟨(List.range len).map A, some (⟨ab, ao, c.size⟩, ((List.range len).map A).flatMap enc), fun j => .slice (Pos.ofNat j) 0 len mm, ⟨?_, ?_, ?_, ?_⟩⟩
      · rintro x hx
        simp only [Option.some.injEq] at hx
        subst hx
        refine ⟨hlt, fun m => ⟨e', fz, c.toList.take ao, (c.toList.drop ao).take (len * z), (c.toList.drop ao).drop (len * z), ?_, trivial, ?_, ?_, ?_, fun t h => by simp at h⟩⟩
        · rw [List.take_append_drop, List.take_append_drop]
          exact hobj
        · simp; omega
        · simp only [List.length_take, List.length_drop, Array.length_toList]; omega
        · rw [List.flatMap_map]
          exact concs_blocks fun i hi => hA i hi m
      · intro m j hj
        have := hj _ rfl
        show (m (Pos.ofNat j)).map _ = _
        rw [this]
        simp
      · intro f j hj
        have := hj _ rfl
        refine .inr ⟨Pos.ofNat j, 0, _, .inl ⟨mm, by simpa using hl, by simp⟩, this, ?_, ?_⟩
        · rw [flatm_len hz]; omega
        · intro i a ha
          rw [Nat.zero_add]
          exact flat_at hz _ _ _ ha
      · simp; omega
def AtM (m : Map) (j : Nat) (l : List BRow) : Prop := ∀ (i : Nat) (y : Bool × Pl × List SV), l[i]? = some (some y) → m (Pos.ofNat (j + i)) = some y.2.1
def AtF (f : Rd) (j : Nat) (l : List BRow) : Prop := ∀ (i : Nat) (y : Bool × Pl × List SV), l[i]? = some (some y) → f (Pos.ofNat (j + i)) = some y.2.2
structure ElemArg {α : Type} (W : World) (z : Nat) (R : Rd → List SV → α → Prop) (Q : α → Prop) (cs : List Value) (a : α) (r : ARow) (s : Nat → List SV) : Prop where
  row : ∀ x, r = some x → x.1.block < W.heap.size ∧ ∀ m, RowRel m x.1 none .lost x.2 W.heap[x.1.block]?
  val : ∀ (m : Map) (j : Nat), (∀ x, r = some x → m (Pos.ofNat j) = some x.1) → concs m (s j) = some cs
  rep : ∀ (f : Rd) (j : Nat), (∀ x, r = some x → f (Pos.ofNat j) = some x.2) → R f (s j) a
  len : ∀ j, (s j).length = z
  ok : Q a
structure NestArg {α : Type} (W : World) (z : Nat) (R : Rd → List SV → α → Prop) (Q : α → Prop) (v : Value) (l : List α) (rows : Nat → List BRow) (s : Nat → SV) : Prop where
  row : ∀ (j i : Nat) (y : Bool × Pl × List SV), (rows j)[i]? = some (some y) → y.1 = false ∧ y.2.1.block < W.heap.size ∧ ∀ m, AtM m j (rows j) → RowRel m y.2.1 none .lost y.2.2 W.heap[y.2.1.block]?
  val : ∀ (m : Map) (j : Nat), AtM m j (rows j) → conc m (s j) = some v
  slc : ∀ (f : Rd) (j : Nat), AtF f j (rows j) → Slc f z (R f) (s j) l
  len : l.length ≤ maxLen
  all : ∀ a ∈ l, Q a
theorem flatm_len2 {z : Nat} {g : Nat → List SV} (hg : ∀ i, (g i).length = z) : ∀ n : Nat, ((List.range n).flatMap g).length = n * z
  | 0 => by simp
  | n + 1 => by
    rw [List.range_succ, List.flatMap_append, List.length_append, flatm_len2 hg n]
    simp [hg, Nat.succ_mul]
theorem flat_at2 {z : Nat} {g : Nat → List SV} (hg : ∀ i, (g i).length = z) : ∀ (n i : Nat), i < n → (((List.range n).flatMap g).drop (i * z)).take z = g i
  | 0, i, h => by omega
  | n + 1, i, h => by
    have hl := flatm_len2 hg n
    rw [List.range_succ, List.flatMap_append]
    simp only [List.flatMap_cons, List.flatMap_nil, List.append_nil]
    by_cases hi : i < n
    · have h2 : (i + 1) * z ≤ n * z := Nat.mul_le_mul_right z hi
      rw [Nat.succ_mul] at h2
      rw [List.drop_append_of_le_length (by omega), List.take_append_of_le_length (by rw [List.length_drop]; omega)]
      exact flat_at2 hg n i hi
    · obtain rfl : i = n := by omega
      rw [List.drop_append, List.drop_of_length_le (by omega), hl, Nat.sub_self, List.drop_zero, List.nil_append, List.take_of_length_le (by rw [hg]; exact Nat.le_refl _)]
theorem arg_nest {α : Type} {H : Type} {henc : TypeId × Value → H} {W : World} {base : Nat} {held : Bool} {z : Nat} {R : Rd → List SV → α → Prop} {Q : α → Prop} {t e : TypeId} (hc : P.cellsOf e = z) (hin : Inhabited α)
    (ht : P.underlying t = some (.slice e)) {v : Value} (hok : Cell.okWide P W .any base t v) {fuel : Nat} {x : DataW H × List MemPlace} (h : DataW.trod henc P W 0 (fun _ => true) held fuel t [v] = some x)
    (hread : ∀ n cs x, DataW.trod henc P W 0 (fun _ => true) held n e cs = some x → ∃ (a : α) (r : ARow) (s : Nat → List SV), ElemArg W z R Q cs a r s) :
    ∃ l rows s, NestArg W z R Q v (l : List α) rows s := by
  rcases Deep.open_slice ht h with ⟨hcs, _⟩ | ⟨a, len, cap, mm, n, D, Pl', hcs, _, hl, hm, hmm, _, hel⟩
  · simp only [List.cons.injEq, and_true] at hcs
    subst hcs
    exact ⟨[], fun _ => [], fun _ => .nils, ⟨fun j i y hy => by simp at hy, fun m j _ => rfl, fun f j _ => .inl ⟨.inl rfl, rfl⟩, Nat.zero_le _, fun a ha => by cases ha⟩⟩
  · simp only [List.cons.injEq, and_true] at hcs
    subst hcs
    simp only [Cell.okWide, ht, Cell.ok] at hok
    obtain ⟨_, _, _, hsp, row, cells, hsh, hlies⟩ := hok
    rw [if_pos rfl] at hmm
    subst hmm
    obtain ⟨ab, ao, asp⟩ := a
    simp only at hsp hsh hlies
    subst hsp
    unfold World.shape? at hsh
    split at hsh
    · rename_i c e' fz hobj
      simp only [Option.some.injEq, Prod.mk.injEq] at hsh
      obtain ⟨rfl, rfl⟩ := hsh
      have hoff : ao ≤ c.size := Nat.le_trans (liesAt_off hlies) (Nat.div_mul_le_self _ _)
      have hlt : ab < W.heap.size := by
        apply Classical.byContradiction
        intro hn
        rw [Array.getElem?_eq_none (by omega)] at hobj
        simp at hobj
      obtain ⟨A, hA⟩ := Deep.choose_lt (α := α × ARow × (Nat → List SV)) (p := fun i a => ElemArg W z R Q ((c.toList.drop (ao + i * z)).take z) a.1 a.2.1 a.2.2) (n := len) (fun i hi => by
        obtain ⟨cs', hcells, htr⟩ := hel i (by omega)
        obtain ⟨a, r, s, ha⟩ := hread _ _ _ htr
        refine ⟨(a, r, s), ?_⟩
        have : cs' = (c.toList.drop (ao + i * z)).take z := by
          rw [hc] at hcells
          obtain ⟨_, hlen, hat⟩ := World.cells?_some hcells
          apply List.ext_getElem?
          intro j
          by_cases hj : j < z
          · have := hat j hj
            rw [← this, Deep.add_add]
            have hadd : (Addr.mk ab ao none).add (i * z + j) = ⟨ab, ao + (i * z + j), none⟩ := by
              unfold Addr.add
              split
              · rename_i h0; rw [h0]; rfl
              · rfl
            rw [hadd]
            simp only [World.cell?, hobj, Option.isSome_none]
            rw [List.getElem?_take_of_lt hj, List.getElem?_drop, Array.getElem?_toList, Nat.add_assoc]
            rfl
          · rw [List.getElem?_eq_none (by omega), List.getElem?_eq_none (by rw [List.length_take]; omega)]
        rw [← this]
        exact ha)
      let g : Nat → Nat → List SV := fun j i => if i < len then (A i).2.2 (j + 1 + i) else List.replicate z .nilp
      have hg : ∀ j i, (g j i).length = z := fun j i => by
        show (if i < len then (A i).2.2 (j + 1 + i) else List.replicate z .nilp).length = z
        split
        · rename_i hi
          exact (hA i hi).len _
        · exact List.length_replicate
      let rows : Nat → List BRow := fun j => some (false, ⟨ab, ao, c.size⟩, (List.range len).flatMap (g j)) :: (List.range len).map fun i => argB (A i).2.1
      have hin0 : ∀ j i x, i < len → (A i).2.1 = some x → (rows j)[1 + i]? = some (some (false, x.1, x.2)) := by
        intro j i x hi hx
        show (_ :: (List.range len).map fun i => argB (A i).2.1)[1 + i]? = _
        rw [show 1 + i = i + 1 by omega, List.getElem?_cons_succ, List.getElem?_map, List.getElem?_range hi]
        show some (argB (A i).2.1) = _
        rw [hx]
        rfl
      refine ⟨(List.range len).map fun i => (A i).1, rows, fun j => .slice (Pos.ofNat j) 0 len mm, ⟨?_, ?_, ?_, ?_, ?_⟩⟩
      · intro j i y hy
        cases i with
        | zero =>
          have hy' : some (some (false, (⟨ab, ao, c.size⟩ : Pl), (List.range len).flatMap (g j))) = some (some y) := hy
          simp only [Option.some.injEq] at hy'
          subst hy'
          refine ⟨rfl, hlt, fun m hm => ⟨e', fz, c.toList.take ao, (c.toList.drop ao).take (len * z), (c.toList.drop ao).drop (len * z), ?_, trivial, ?_, ?_, ?_, fun t h => by simp at h⟩⟩
          · rw [List.take_append_drop, List.take_append_drop]
            exact hobj
          · simp; omega
          · simp only [List.length_take, List.length_drop, Array.length_toList]; omega
          · refine concs_blocks fun i hi => ?_
            have : g j i = (A i).2.2 (j + 1 + i) := if_pos hi
            rw [this]
            exact (hA i hi).val m _ fun x hx => by
              have := hm (1 + i) _ (hin0 j i x hi hx)
              rw [show j + 1 + i = j + (1 + i) by omega]
              exact this
        | succ i =>
          have hy' : ((List.range len).map fun i => argB (A i).2.1)[i]? = some (some y) := hy
          rw [List.getElem?_map] at hy'
          obtain ⟨i', hi', he⟩ := Option.map_eq_some_iff.1 hy'
          obtain ⟨hi1, hi2⟩ := List.getElem?_eq_some_iff.1 hi'
          rw [List.getElem_range] at hi2
          subst hi2
          have hil : i < len := by simpa using hi1
          obtain ⟨x, hx, rfl⟩ := Option.map_eq_some_iff.1 he
          exact ⟨rfl, ((hA i hil).row x hx).1, fun m _ => ((hA i hil).row x hx).2 m⟩
      · intro m j hj
        have := hj 0 _ rfl
        show (m (Pos.ofNat j)).map _ = _
        rw [Nat.add_zero] at this
        rw [this]
        simp
      · intro f j hj
        have h0 := hj 0 _ rfl
        rw [Nat.add_zero] at h0
        refine .inr ⟨Pos.ofNat j, 0, _, .inl ⟨mm, by simpa using hl, by simp⟩, h0, ?_, ?_⟩
        · rw [flatm_len2 (hg j)]; simp
        · intro i a ha
          rw [List.getElem?_map] at ha
          obtain ⟨i', hi', he⟩ := Option.map_eq_some_iff.1 ha
          obtain ⟨hi1, hi2⟩ := List.getElem?_eq_some_iff.1 hi'
          rw [List.getElem_range] at hi2
          subst hi2
          have hil : i < len := by simpa using hi1
          subst he
          rw [Nat.zero_add, flat_at2 (hg j) len i hil]
          have : g j i = (A i).2.2 (j + 1 + i) := if_pos hil
          rw [this]
          exact (hA i hil).rep f _ fun x hx => by
            have := hj (1 + i) _ (hin0 j i x hil hx)
            rw [show j + 1 + i = j + (1 + i) by omega]
            exact this
      · simp; omega
      · intro a ha
        obtain ⟨i, hi, rfl⟩ := List.mem_map.1 ha
        exact (hA i (List.mem_range.1 hi)).ok
    · simp at hsh
theorem atM_app {pre l : List BRow} : AtM (mapB (pre ++ l)) pre.length l := fun i y hy => mapB_at (by rw [List.getElem?_append_right (Nat.le_add_right _ _), Nat.add_sub_cancel_left]; exact hy)
theorem atF_app {pre l : List BRow} (hf : ∀ (i : Nat) (y : Bool × Pl × List SV), l[i]? = some (some y) → y.1 = false) : AtF (rd (memB (pre ++ l))) pre.length l := fun i y hy => by
  have h1 := hf i y hy
  obtain ⟨a, p, c⟩ := y
  simp only at h1
  subst h1
  exact ro_rd (memB_ro (by rw [List.getElem?_append_right (Nat.le_add_right _ _), Nat.add_sub_cancel_left]; exact hy))
end Go.Ev
namespace Go.Ev
open Go.RowKit
variable {P : Program}
section
variable {e : Env} {M : Mem} {x y p q : Operand} {t u et : TypeId} {kk : IntKind}
end
section
variable {F : Rd} {M : Mem} {H : List Ent} {e : Env} {p q : Operand} {t tt : TypeId} {rk : RK} {i j n off : Nat} {b : Pos} {c cs : List SV} {s : SV}
end
end Go.Ev
