/- slices.SortFunc at api.Hit, by the library's contract: the comparison's walk (two keys), and what the small machine knows of the call. -/
import Derived.Shelf.SlSortCmp.NoneTotal
import Derived.Test.YtjddbfpinjjkkabGreatDoorShelf
import Derived.Test.YtjddbfpinjjkkabGreatDoorEvL23
import Derived.Test.YtjddbfpinjjkkabGreatDoorChecked
import Derived.WalkKit
import Derived.StillTailTactics
import Derived.BigQuiet
namespace Go.Proofs
open Go.Shelf Go.RowKit Go.Lib Go.Sort Go.Ev
set_option linter.unusedVariables false
set_option maxHeartbeats 1000000 in
theorem Tryz.or94 (a b : Int) (blk : Nat) (w : World) (h0 : w.cell? ⟨blk, 0, none⟩ = some (.int .i64 a)) (h1 : w.cell? ⟨blk, 1, none⟩ = some (.int .i64 b)) : Calls Tryz.prog 94 #[.slice (some ⟨blk, 0, none⟩) 2 2] w fun e w' => e = .returned (.int .i64 (orI a b)) ∧ w' = w := by
  unfold orI
  by_cases ha : a = 0
  · subst ha
    rw [if_pos rfl]
    by_cases hb : b = 0
    · subst hb
      go_enter Tryz.func94, Tryz.ntmps94
      go_wp2
      refine wp_loop_rounds 3 ?_
      rw [rounds_succ]
      go_wp2
      rw [rounds_succ]
      go_wp2
      rw [rounds_succ]
      go_wp2
      go_ret
      exact ⟨rfl, rfl⟩
    · go_enter Tryz.func94, Tryz.ntmps94
      go_wp2
      refine wp_loop_rounds 2 ?_
      rw [rounds_succ]
      go_wp2
      rw [rounds_succ]
      go_wp2
      go_ret
      exact ⟨rfl, rfl⟩
  · rw [if_neg ha]
    go_enter Tryz.func94, Tryz.ntmps94
    go_wp2
    refine wp_loop_rounds 1 ?_
    rw [rounds_succ]
    go_wp2
    go_ret
    exact ⟨rfl, rfl⟩
theorem two_new (W : World) (c d : Array Value) (t u : TypeId) : (∀ i, ((W.alloc (Obj.cells c t)).alloc (Obj.cells d u)).cell? ⟨W.heap.size, i, none⟩ = c[i]?) ∧ (∀ i, ((W.alloc (Obj.cells c t)).alloc (Obj.cells d u)).cell? ⟨W.heap.size + 1, i, none⟩ = d[i]?) ∧ (W.alloc (Obj.cells c t)).alloc (Obj.cells d u) = Go.Sort.grow W #[Obj.cells c t, Obj.cells d u] := by
  have hs : (W.alloc (Obj.cells c t)).heap.size = W.heap.size + 1 := Array.size_push _
  refine ⟨fun i => ?_, fun i => World.cell?_alloc_at _ _ _ _ hs.symm, by rw [alloc_eq_grow, alloc_eq_grow, grow_grow]; rfl⟩
  rw [World.cell?_alloc_past _ _ _ (by rw [hs]; exact Nat.lt_succ_self _)]
  exact World.cell?_alloc_at _ _ _ _ rfl
set_option maxRecDepth 1000000 in
set_option maxHeartbeats 1000000 in
theorem Tryz.closure47 (x1 x2 x3 y1 y2 y3 : Int) (W : World) : Calls Tryz.prog 47 #[.agg #[.int .i64 x1, .int .i64 x2, .int .i64 x3], .agg #[.int .i64 y1, .int .i64 y2, .int .i64 y3]] W fun e w' => e = .returned (.int .i64 (orI (Lib.compareInt x1 y1) (Lib.compareInt x2 y2))) ∧ ∃ q os', w' = Go.Sort.grow (W.drewN q) os' := by
  have hcon := fun a b W' => AnyG.cmp_Compare_int Tryz.cmpInt a b W'
  change ∀ a b W', Calls Tryz.prog 95 _ _ _ at hcon
  generalize hr1 : Lib.compareInt x1 y1 = r1
  generalize hr2 : Lib.compareInt x2 y2 = r2
  have hc1 : ∀ W', Calls Tryz.prog 95 #[.int .i64 x1, .int .i64 y1] W' fun e w' => e = .returned (.int .i64 r1) ∧ w' = W' := fun W' => hr1 ▸ hcon x1 y1 W'
  have hc2 : ∀ W', Calls Tryz.prog 95 #[.int .i64 x2, .int .i64 y2] W' fun e w' => e = .returned (.int .i64 r2) ∧ w' = W' := fun W' => hr2 ▸ hcon x2 y2 W'
  clear hcon hr1 hr2
  go_enter Tryz.func47, Tryz.ntmps47
  go_wp2
  obtain ⟨kA, kB, kg⟩ := two_new W #[.int .i64 x1, .int .i64 x2, .int .i64 x3] #[.int .i64 y1, .int .i64 y2, .int .i64 y3] 54 54
  generalize (W.alloc (Obj.cells #[.int .i64 x1, .int .i64 x2, .int .i64 x3] 54)).alloc (Obj.cells #[.int .i64 y1, .int .i64 y2, .int .i64 y3] 54) = w1 at *
  refine wp_region_still_tail 10 (by kernel_rfl) (by kernel_rfl) ?_
  simp only [List.take_succ_cons, List.take_zero, List.drop_succ_cons, List.drop_zero]
  have ed : ({ heap := w1.heap, tape := w1.tape, drawn := w1.drawn + 1, os := w1.os, output := w1.output } : World) = w1.drewN 1 := rfl
  simp only [ed]
  clear ed
  have k0 : (w1.drewN 1).cell? ⟨W.heap.size, 0, none⟩ = some (.int .i64 x1) := kA 0
  have k1 : (w1.drewN 1).cell? ⟨W.heap.size, 1, none⟩ = some (.int .i64 x2) := kA 1
  have k2 : (w1.drewN 1).cell? ⟨W.heap.size + 1, 0, none⟩ = some (.int .i64 y1) := kB 0
  have k3 : (w1.drewN 1).cell? ⟨W.heap.size + 1, 1, none⟩ = some (.int .i64 y2) := kB 1
  have ke : ∃ q os, w1.drewN 1 = Go.Sort.grow (W.drewN q) os := ⟨1, _, by rw [kg]; rfl⟩
  clear kA kB kg
  generalize w1.drewN 1 = w2 at *
  still_step
  still_step
  still_step
  still_step
  still_call (hc1 w2)
  still_step
  still_step
  still_step
  still_step
  still_call (hc2 w2)
  refine wpStill_nil ?_
  clear k0 k1 k2 k3 hc1 hc2
  go_wp2_with (go_at_call 94; refine (Tryz.or94 r1 r2 w2.heap.size _ (World.cell?_alloc_at _ _ _ _ rfl) (World.cell?_alloc_at _ _ _ _ rfl)).mono ?_; rintro e w' ⟨rfl, rfl⟩)
  go_ret
  obtain ⟨q, os, rfl⟩ := ke
  exact ⟨rfl, q, _, by rw [alloc_eq_grow, grow_grow]⟩
end Go.Proofs
namespace Go.Ev
open Go.RowKit Go.Sort Go.Proofs
theorem ltC {α : Type} (c : α → α → Int) : ltOf c = fun a b => decide (c a b < 0) := rfl
theorem sort46 {α : Type} [Inhabited α] (enc : α → List SV) (p q r : α → Int) (h : ∀ a, enc a = [.int .i64 (p a), .int .i64 (q a), .int .i64 (r a)]) : SortTo Tryz.prog 46 47 3 enc (fun a => [.int .i64 (p a), .int .i64 (q a), .int .i64 (r a)]) (sortC fun x y => orI (Lib.compareInt (p x) (p y)) (Lib.compareInt (q x) (q y))) := {
  len := sortC_len _ (swo_keys p q)
  nil := sortC_nil _ (swo_keys p q)
  size := fun a => by rw [h]; rfl
  sizeV := fun _ => rfl
  gives := fun m a => by rw [h]; rfl
  atNil := fun p cap w => AnyF.slices_SortFunc_none { Tryz.sortSeg with } p cap _ w
  atRow := fun blk off cap l w hl hH hb => by
    have eg : ∀ args w, (callFunc 47 args).run Tryz.prog w = .ok (.enter 47 args) w := enters_of Tryz.func47 (by kernel_rfl) rfl
    have hcon := AnyQ.slices_SortFunc_eq Tryz.sortSeg 3 Tryz.isAgg54 Tryz.sizeOf54 (fun a : α => [Value.int .i64 (p a), Value.int .i64 (q a), Value.int .i64 (r a)]) (fun _ => rfl) (fun x v hv => by
      simp only [List.mem_cons, List.not_mem_nil, or_false] at hv
      rcases hv with rfl | rfl | rfl <;> rfl) (fun x y => orI (Lib.compareInt (p x) (p y)) (Lib.compareInt (q x) (q y))) (by rw [ltC]; exact swo_keys p q) 47 #[] blk off cap l.toArray w eg (fun _ _ _ _ x y => Tryz.closure47 (p x) (q x) (r x) (p y) (q y) (r y) _) hH hb (by simpa using hl)
    change Calls Tryz.prog 46 _ _ _ at hcon
    rw [ltC] at hcon
    have e : (sortC (fun x y => orI (Lib.compareInt (p x) (p y)) (Lib.compareInt (q x) (q y))) l).toArray = pdq (fun a b => decide (orI (Lib.compareInt (p a) (p b)) (Lib.compareInt (q a) (q b)) < 0)) l.toArray 0 l.toArray.size (Lib.bitLen l.toArray.size) true true := by
      unfold sortC
      simp
    rw [e]
    have e2 : l.toArray.size = l.length := by simp
    rw [e2] at hcon ⊢
    exact hcon }
end Go.Ev
