/- slices.SortFunc at api.Segment, by the library's contract: the comparison's walk, and what the small machine knows of the call. -/
import Derived.Shelf.SlSortCmp.NoneTotal
import Derived.Test.YtjddbfpinjjkkaaGreatDoorShelf
import Derived.Test.YtjddbfpinjjkkaaGreatDoorEvL22
import Derived.Test.YtjddbfpinjjkkaaGreatDoorChecked
namespace Go.Proofs
open Go.Shelf Go.RowKit Go.Lib Go.Sort
set_option linter.unusedVariables false
set_option maxHeartbeats 1000000 in
theorem Tryz.closure84 (x y z u : Int) (W : World) : Calls Tryz.prog 84 #[.agg #[.int .i64 x, .int .i64 z], .agg #[.int .i64 y, .int .i64 u]] W fun e w' => e = .returned (.int .i64 (Lib.compareInt x y)) ∧ ∃ q os', w' = grow (W.drewN q) os' := by
  have hcon := fun W' => AnyG.cmp_Compare_int Tryz.cmpInt x y W'
  change ∀ W', Calls Tryz.prog 85 _ _ _ at hcon
  generalize Lib.compareInt x y = r at hcon ⊢
  go_enter Tryz.func84, Tryz.ntmps84
  go_wp2_with (go_at_call 85; refine (hcon _).mono ?_; rintro e w' ⟨rfl, rfl⟩)
  go_ret
  exact ⟨rfl, 0, _, by rw [alloc_eq_grow, alloc_eq_grow, grow_grow]; rfl⟩
end Go.Proofs
namespace Go.Ev
open Go.RowKit Go.Sort Go.Proofs
theorem ltKey {α : Type} (key : α → Int) : ltOf (fun x y : α => Lib.compareInt (key x) (key y)) = fun a b => decide (key a < key b) := by
  funext x y
  unfold ltOf Lib.compareInt
  by_cases h1 : key x < key y
  · simp [h1]
  · by_cases h2 : key y < key x <;> simp [h1, h2]
theorem sort83 {α : Type} [Inhabited α] (enc : α → List SV) (fst snd : α → Int) (h : ∀ a, enc a = [.int .i64 (fst a), .int .i64 (snd a)]) : SortTo Tryz.prog 83 84 2 enc (fun a => [.int .i64 (fst a), .int .i64 (snd a)]) (sortBy fst) := {
  len := sortBy_len fst
  nil := sortBy_nil fst
  size := fun a => by rw [h]; rfl
  sizeV := fun _ => rfl
  gives := fun m a => by rw [h]; rfl
  atNil := fun p cap w => AnyF.slices_SortFunc_none { Tryz.sortSeg with } p cap _ w
  atRow := fun blk off cap l w hl hH hb => by
    have eg : ∀ args w, (callFunc 84 args).run Tryz.prog w = .ok (.enter 84 args) w := enters_of Tryz.func84 (by kernel_rfl) rfl
    have hcon := AnyQ.slices_SortFunc_eq Tryz.sortSeg 2 Tryz.isAgg37 Tryz.sizeOf37 (fun a : α => [Value.int .i64 (fst a), Value.int .i64 (snd a)]) (fun _ => rfl) (fun x v hv => by
      simp only [List.mem_cons, List.not_mem_nil, or_false] at hv
      rcases hv with rfl | rfl <;> rfl) (fun x y => Lib.compareInt (fst x) (fst y)) (by rw [ltKey]; exact swo_key fst) 84 #[] blk off cap l.toArray w eg (fun _ _ _ _ x y => Tryz.closure84 (fst x) (fst y) (snd x) (snd y) _) hH hb (by simpa using hl)
    change Calls Tryz.prog 83 _ _ _ at hcon
    rw [ltKey] at hcon
    have e : (sortBy fst l).toArray = pdq (fun a b => decide (fst a < fst b)) l.toArray 0 l.toArray.size (Lib.bitLen l.toArray.size) true true := by
      unfold sortBy
      simp
    rw [e]
    have e2 : l.toArray.size = l.length := by simp
    rw [e2] at hcon ⊢
    exact hcon }
end Go.Ev
