/- The row holds: the call answers true whatever its arguments are, and they read behind it as before. -/
import Derived.Test.YtjddbfpinjjkkabGreatDoorBankSureMath7
import Derived.Test.YtjddbfpinjjkkabGreatDoorBankSureFacts
import Derived.Test.YtjddbfpinjjkkabGreatDoorRows
import Derived.WalkKit
import Derived.ProofKit
import Derived.OpenShut
import Derived.LaidMore
import Derived.Stop.Joined
import Derived.Lib.SmallJoins
import Derived.Test.YtjddbfpinjjkkabGreatDoorEvL21
namespace Go.Proofs.YtjddbfpinjjkkabGreatDoor.bankSure
open Go.ChangeShapes Go.WideShapes Go.ChangeAt Go.RowKit Go.Joins Go.Ev Go.Ev.BankSure

set_option linter.unusedVariables false
theorem own : ownKnob Tryz.prog.godebug = none := by kernel_rfl
theorem mixed : Tryz.prog.follows .mixedOrders = true := by kernel_rfl
theorem kids : Kids Tryz.prog (· < Tryz.prog.types.size) := kids_rows (by kernel_rfl) (by kernel_rfl)
theorem full : ∀ t e, t < Tryz.prog.types.size → Tryz.prog.underlying t = some (.slice e) → 0 < Tryz.prog.cellsOf e := slices_full_of Tryz.prog (by kernel_rfl)
theorem within : ∀ t ∈ Tryz.f4.params.toList, t < Tryz.prog.types.size := by
  have h : (Tryz.f4.params.toList.all fun t => decide (t < Tryz.prog.types.size)) = true := by kernel_rfl
  intro t ht
  exact of_decide_eq_true (List.all_eq_true.1 h t ht)

theorem door_met (os : Os) (args : Array Value) : laidMetH Tryz.prog Rows.bankSureRow.laid ((World.doorLaid Tryz.prog 400 os).forCall (fun _ _ => 0) ⟨#[], args, []⟩).memory :=
  laidMetH_of_parts3 (fuel := 8) (laidMet_of_run' 8 (by kernel_rfl) (by kernel_rfl)) (by kernel_rfl) (by kernel_rfl)

set_option maxRecDepth 100000 in
theorem fix_ok {W : World} (h : laidMetH Tryz.prog Rows.bankSureRow.laid W) : FixOK W Go.Proofs.YtjddbfpinjjkkabGreatDoor.works.fixes := by
  rw [MakeChecks.laidMetH_plain _ _ _ (by kernel_rfl)] at h
  intro x hx
  simp only [Go.Proofs.YtjddbfpinjjkkabGreatDoor.works.fixes, List.mem_cons, List.not_mem_nil, or_false] at hx
  rcases hx with rfl | rfl | rfl | rfl
  · exact laid_tab h (name := "math/bits.deBruijn32tab") (k := .u8) (zs := [0, 1, 28, 2, 29, 14, 24, 3, 30, 22, 20, 15, 25, 17, 4, 8, 31, 27, 13, 23, 21, 19, 16, 7, 26, 12, 18, 6, 11, 5, 10, 9]) (g := 5) (t := 343) (e := 5) (n := 32) (by unfold Rows.bankSureRow; exact .head _) (by kernel_rfl) (by kernel_rfl) (by kernel_rfl) (by kernel_rfl) (by kernel_rfl) (by kernel_rfl) (by simp)
  · exact laid_tab h (name := "math/bits.deBruijn64tab") (k := .u8) (zs := [0, 1, 56, 2, 57, 49, 28, 3, 61, 58, 42, 50, 38, 29, 17, 4, 62, 47, 59, 36, 45, 43, 51, 22, 53, 39, 33, 30, 24, 18, 12, 5, 63, 55, 48, 27, 60, 41, 37, 16, 46, 35, 44, 21, 52, 32, 23, 11, 54, 26, 40, 15, 34, 20, 31, 10, 25, 14, 19, 9, 13, 8, 7, 6]) (g := 6) (t := 344) (e := 5) (n := 64) (by unfold Rows.bankSureRow; exact .tail _ (.head _)) (by kernel_rfl) (by kernel_rfl) (by kernel_rfl) (by kernel_rfl) (by kernel_rfl) (by kernel_rfl) (by simp)
  · exact laid_tab h (name := "internal/strconv.uint64pow10") (k := .u64) (zs := [1, 10, 100, 1000, 10000, 100000, 1000000, 10000000, 100000000, 1000000000, 10000000000, 100000000000, 1000000000000, 10000000000000, 100000000000000, 1000000000000000, 10000000000000000, 100000000000000000, 1000000000000000000, 10000000000000000000]) (g := 4) (t := 339) (e := 219) (n := 20) (by unfold Rows.bankSureRow; exact .tail _ (.tail _ (.head _))) (by kernel_rfl) (by kernel_rfl) (by kernel_rfl) (by kernel_rfl) (by kernel_rfl) (by kernel_rfl) (by simp)
  · exact laid_tab h (name := "ringdown/bank.quarter") (k := .i64) (zs := [0, 12, 25, 37, 49, 60, 71, 81, 90, 98, 106, 112, 117, 122, 125, 126, 127]) (g := 0) (t := 191) (e := 3) (n := 17) (by unfold Rows.bankSureRow; exact .tail _ (.tail _ (.tail _ (.head _)))) (by kernel_rfl) (by kernel_rfl) (by kernel_rfl) (by kernel_rfl) (by kernel_rfl) (by kernel_rfl) (by simp)

theorem cells45 : Tryz.prog.cellsOf 45 = 9 := by kernel_rfl
theorem arr9 {α : Type} {cs : Array α} (h : cs.size = 9) : ∃ c0 c1 c2 c3 c4 c5 c6 c7 c8, cs = #[c0, c1, c2, c3, c4, c5, c6, c7, c8] := by
  obtain ⟨l⟩ := cs
  match l, h with
  | [c0, c1, c2, c3, c4, c5, c6, c7, c8], _ => exact ⟨c0, c1, c2, c3, c4, c5, c6, c7, c8, rfl⟩
theorem types45 : Tryz.prog.cellTypes Tryz.prog.depth 45 = some [3, 43, 3, 3, 3, 25, 3, 3, 3] := by kernel_rfl
theorem list9 {α : Type} : ∀ {l : List α}, l.length = 9 → ∃ a0 a1 a2 a3 a4 a5 a6 a7 a8, l = [a0, a1, a2, a3, a4, a5, a6, a7, a8]
  | [a0, a1, a2, a3, a4, a5, a6, a7, a8], _ => ⟨a0, a1, a2, a3, a4, a5, a6, a7, a8, rfl⟩
theorem cells3 : Tryz.prog.cellsOf 3 = 1 := by kernel_rfl
theorem cells43 : Tryz.prog.cellsOf 43 = 1 := by kernel_rfl
theorem cells25 : Tryz.prog.cellsOf 25 = 1 := by kernel_rfl
theorem read3 {H : Type} {enc : TypeId × Value → H} {W : World} {held : Bool} (n : Nat) (cs : List Value) (x : DataW H × List MemPlace) (h : DataW.trod enc Tryz.prog W 0 (fun _ => true) held n 3 cs = some x) : ∃ a : Int, ∀ m, concs m (enc3 a) = some cs := by
  obtain ⟨a, rfl, _, _⟩ := DataW.trod_int Tryz.underlying3 h
  exact ⟨a, fun m => rfl⟩
theorem list2 {α : Type} : ∀ {l : List α}, l.length = 2 → ∃ a0 a1, l = [a0, a1]
  | [a0, a1], _ => ⟨a0, a1, rfl⟩
theorem cells27 : Tryz.prog.cellsOf 27 = 2 := by kernel_rfl
theorem read27 {H : Type} {enc : TypeId × Value → H} {W : World} {held : Bool} (n : Nat) (cs : List Value) (x : DataW H × List MemPlace) (h : DataW.trod enc Tryz.prog W 0 (fun _ => true) held n 27 cs = some x) : ∃ a : S_api_Chirp, ∀ m, concs m (enc27 a) = some cs := by
  have hlen : cs.length = 2 := (DataW.trod_struct Tryz.underlying27 h).elim fun _ h1 => h1.elim fun _ h2 => h2.2.2.1.trans cells27
  obtain ⟨c0, c1, rfl⟩ := list2 hlen
  obtain ⟨xs, m, _, hx, _, hl, hf⟩ := DataW.trod_struct Tryz.underlying27 h
  obtain ⟨x_0, x_1, rfl⟩ := list2 hl
  have g_0 := hf 0 (⟨ "P", 3, 0, false, "", "", 0⟩) rfl
  simp only [cells3] at g_0
  have g_1 := hf 1 (⟨ "Q", 3, 1, false, "", "", 8⟩) rfl
  simp only [cells3] at g_1
  have q_0 : DataW.trod enc Tryz.prog W 0 (fun _ => true) held m 3 [c0] = some x_0 := g_0
  have q_1 : DataW.trod enc Tryz.prog W 0 (fun _ => true) held m 3 [c1] = some x_1 := g_1
  obtain ⟨a_0, ha_0⟩ := read3 _ _ _ q_0
  obtain ⟨a_1, ha_1⟩ := read3 _ _ _ q_1
  exact ⟨⟨a_0, a_1⟩, fun m => concs_append (ha_0 m) (ha_1 m)⟩
/-- Where the run begins: the listed tables, the arguments' rows. -/
noncomputable def rowsB (r0_1 : ARow) (r0_5 : ARow) : List BRow := [some (true, ⟨0, 0, 17⟩, intCells .i64 [0, 12, 25, 37, 49, 60, 71, 81, 90, 98, 106, 112, 117, 122, 125, 126, 127]), none, none, none, some (true, ⟨4, 0, 20⟩, intCells .u64 [1, 10, 100, 1000, 10000, 100000, 1000000, 10000000, 100000000, 1000000000, 10000000000, 100000000000, 1000000000000, 10000000000000, 100000000000000, 1000000000000000, 10000000000000000, 100000000000000000, 1000000000000000000, 10000000000000000000]), some (true, ⟨5, 0, 32⟩, intCells .u8 [0, 1, 28, 2, 29, 14, 24, 3, 30, 22, 20, 15, 25, 17, 4, 8, 31, 27, 13, 23, 21, 19, 16, 7, 26, 12, 18, 6, 11, 5, 10, 9]), some (true, ⟨6, 0, 64⟩, intCells .u8 [0, 1, 56, 2, 57, 49, 28, 3, 61, 58, 42, 50, 38, 29, 17, 4, 62, 47, 59, 36, 45, 43, 51, 22, 53, 39, 33, 30, 24, 18, 12, 5, 63, 55, 48, 27, 60, 41, 37, 16, 46, 35, 44, 21, 52, 32, 23, 11, 54, 26, 40, 15, 34, 20, 31, 10, 25, 14, 19, 9, 13, 8, 7, 6]), argB r0_1, argB r0_5]
theorem relB {W : World} {r0_1 : ARow} {r0_5 : ARow} (hf : FixOK W Go.Proofs.YtjddbfpinjjkkabGreatDoor.works.fixes) (h0_1 : ∀ x, r0_1 = some x → x.1.block < W.heap.size ∧ ∀ m, RowRel m x.1 none .lost x.2 W.heap[x.1.block]?) (h0_5 : ∀ x, r0_5 = some x → x.1.block < W.heap.size ∧ ∀ m, RowRel m x.1 none .lost x.2 W.heap[x.1.block]?) : MRel W.heap.size (mapB (rowsB r0_1 r0_5)) (memB (rowsB r0_1 r0_5)) W := memB_rel3 fun j x hj => by
  unfold rowsB at hj
  rcases j with _ | _ | _ | _ | _ | _ | _ | _ | _ | j
  · cases (Option.some.inj hj)
    have := fix_row hf (x := (0, intCells .i64 [0, 12, 25, 37, 49, 60, 71, 81, 90, 98, 106, 112, 117, 122, 125, 126, 127])) (.tail _ (.tail _ (.tail _ (.head _))))
    exact ⟨this.1, this.2 _, fun _ => ⟨rfl, rfl, rfl⟩⟩
  · simp at hj
  · simp at hj
  · simp at hj
  · cases (Option.some.inj hj)
    have := fix_row hf (x := (4, intCells .u64 [1, 10, 100, 1000, 10000, 100000, 1000000, 10000000, 100000000, 1000000000, 10000000000, 100000000000, 1000000000000, 10000000000000, 100000000000000, 1000000000000000, 10000000000000000, 100000000000000000, 1000000000000000000, 10000000000000000000])) (.tail _ (.tail _ (.head _)))
    exact ⟨this.1, this.2 _, fun _ => ⟨rfl, rfl, rfl⟩⟩
  · cases (Option.some.inj hj)
    have := fix_row hf (x := (5, intCells .u8 [0, 1, 28, 2, 29, 14, 24, 3, 30, 22, 20, 15, 25, 17, 4, 8, 31, 27, 13, 23, 21, 19, 16, 7, 26, 12, 18, 6, 11, 5, 10, 9])) (.head _)
    exact ⟨this.1, this.2 _, fun _ => ⟨rfl, rfl, rfl⟩⟩
  · cases (Option.some.inj hj)
    have := fix_row hf (x := (6, intCells .u8 [0, 1, 56, 2, 57, 49, 28, 3, 61, 58, 42, 50, 38, 29, 17, 4, 62, 47, 59, 36, 45, 43, 51, 22, 53, 39, 33, 30, 24, 18, 12, 5, 63, 55, 48, 27, 60, 41, 37, 16, 46, 35, 44, 21, 52, 32, 23, 11, 54, 26, 40, 15, 34, 20, 31, 10, 25, 14, 19, 9, 13, 8, 7, 6])) (.tail _ (.head _))
    exact ⟨this.1, this.2 _, fun _ => ⟨rfl, rfl, rfl⟩⟩
  · have hj' : argB r0_1 = some x := Option.some.inj hj
    obtain ⟨y, hy, rfl⟩ := Option.map_eq_some_iff.1 hj'
    exact ⟨(h0_1 y hy).1, (h0_1 y hy).2 _, fun h => by simp at h⟩
  · have hj' : argB r0_5 = some x := Option.some.inj hj
    obtain ⟨y, hy, rfl⟩ := Option.map_eq_some_iff.1 hj'
    exact ⟨(h0_5 y hy).1, (h0_5 y hy).2 _, fun h => by simp at h⟩
  · simp at hj
theorem fixB (r0_1 : ARow) (r0_5 : ARow) : FixIn (memB (rowsB r0_1 r0_5)) Go.Proofs.YtjddbfpinjjkkabGreatDoor.works.fixes := fun x hx => by
  simp only [Go.Proofs.YtjddbfpinjjkkabGreatDoor.works.fixes, List.mem_cons, List.not_mem_nil, or_false] at hx
  rcases hx with rfl | rfl | rfl | rfl
  · exact memB_fix (j := 5) (p := ⟨5, 0, 32⟩) rfl
  · exact memB_fix (j := 6) (p := ⟨6, 0, 64⟩) rfl
  · exact memB_fix (j := 4) (p := ⟨4, 0, 20⟩) rfl
  · exact memB_fix (j := 0) (p := ⟨0, 0, 17⟩) rfl

set_option maxRecDepth 100000 in
theorem lifted (os : Os) (started : os.Started) (H : Type) (enc : TypeId × Value → H) :
    ReturnsInHanded {} Tryz.checked os 4 .any (fun w args => (Rows.bankSureSpec.pre enc Tryz.prog Tryz.f4 [] false w args ∧ laidMetH Tryz.prog Rows.bankSureRow.laid w) ∧ sizedMet enc Tryz.prog Tryz.f4 (OpenSpec.ofChange Rows.bankSureSpec) false w args)
      (Rows.bankSureSpec.post enc Tryz.prog Tryz.f4 false true false false) := by
  refine returnsInHanded_of_change_and (C := Tryz.checked) (X := fun w _ => laidMetH Tryz.prog Rows.bankSureRow.laid w) (fun _ _ _ hh h => h.of_heap hh) own started (by kernel_rfl) Tryz.func4
    (ChangeSpec.witness_shaped (enc := enc) (C := Tryz.checked) (os := os) (X := fun w _ => laidMetH Tryz.prog Rows.bankSureRow.laid w) false (World.doorLaid Tryz.prog 400 os) #[.agg #[.int .i64 0, .slice none 0 0, .int .i64 0, .int .i64 0, .int .i64 0, .slice none 0 0, .int .i64 0, .int .i64 0, .int .i64 0]] 8 rfl (World.shaped_of_RefB (by kernel_rfl) (by kernel_rfl)) (by kernel_rfl) (by kernel_rfl) (by kernel_rfl) (door_met os _)) ?_
  intro W base args ds gs before hval0 hW _ hsz hL _
  have hval : ∀ (j : Nat) t v, Tryz.f4.params[j]? = some t → args[j]? = some v → Value.okWide Tryz.prog W .any base t v := hval0
  have hW' := hW
  obtain ⟨p, q, hA0, hV, rfl, hfz, hnd⟩ := hW
  have hA : DataW.TrodAll enc Tryz.prog W 0 (fun _ => true) true Tryz.f4.params.toList args.toList ds p := hA0
  have hAk := hA
  rw [Tryz.params4] at hA hval
  obtain ⟨rfl, rfl⟩ := trodVars_none hV
  clear hA0 hval0
  simp only [List.append_nil] at hW'
  obtain ⟨v0, d0, rfl, rfl, h0⟩ := trodAll_one hA
  have hv0 := hval 0 45 v0 rfl rfl
  simp only [Value.okWide, Tryz.underlying45] at hv0
  obtain ⟨cs0, rfl, hsz0, ts0, hts0, _, hall0⟩ := hv0
  rw [types45] at hts0
  cases hts0
  obtain ⟨c0_0, c0_1, c0_2, c0_3, c0_4, c0_5, c0_6, c0_7, c0_8, rfl⟩ := arr9 (hsz0.trans cells45)
  obtain ⟨n0, h0⟩ := h0
  have g0 : DataW.trod enc Tryz.prog W 0 (fun _ => true) true n0 45 [c0_0, c0_1, c0_2, c0_3, c0_4, c0_5, c0_6, c0_7, c0_8] = some (d0, p) := h0
  obtain ⟨xs_0, m_0, _, hx_0, _, hl_0, hf_0⟩ := DataW.trod_struct Tryz.underlying45 g0
  obtain ⟨x_0_0, x_0_1, x_0_2, x_0_3, x_0_4, x_0_5, x_0_6, x_0_7, x_0_8, rfl⟩ := list9 hl_0
  have g_0_0 := hf_0 0 (⟨ "Length", 3, 0, false, "", "", 0⟩) rfl
  simp only [cells3] at g_0_0
  have g_0_1 := hf_0 1 (⟨ "L", 43, 1, false, "", "", 8⟩) rfl
  simp only [cells43] at g_0_1
  have g_0_2 := hf_0 2 (⟨ "Which", 3, 2, false, "", "", 32⟩) rfl
  simp only [cells3] at g_0_2
  have g_0_3 := hf_0 3 (⟨ "More", 3, 3, false, "", "", 40⟩) rfl
  simp only [cells3] at g_0_3
  have g_0_4 := hf_0 4 (⟨ "Time", 3, 4, false, "", "", 48⟩) rfl
  simp only [cells3] at g_0_4
  have g_0_5 := hf_0 5 (⟨ "Noise", 25, 5, false, "", "", 56⟩) rfl
  simp only [cells25] at g_0_5
  have g_0_6 := hf_0 6 (⟨ "Bound", 3, 6, false, "", "", 80⟩) rfl
  simp only [cells3] at g_0_6
  have g_0_7 := hf_0 7 (⟨ "Variance", 3, 7, false, "", "", 88⟩) rfl
  simp only [cells3] at g_0_7
  have g_0_8 := hf_0 8 (⟨ "Floor", 3, 8, false, "", "", 96⟩) rfl
  simp only [cells3] at g_0_8
  have q_0_0 : DataW.trod enc Tryz.prog W 0 (fun _ => true) true m_0 3 [c0_0] = some x_0_0 := g_0_0
  have q_0_1 : DataW.trod enc Tryz.prog W 0 (fun _ => true) true m_0 43 [c0_1] = some x_0_1 := g_0_1
  have q_0_2 : DataW.trod enc Tryz.prog W 0 (fun _ => true) true m_0 3 [c0_2] = some x_0_2 := g_0_2
  have q_0_3 : DataW.trod enc Tryz.prog W 0 (fun _ => true) true m_0 3 [c0_3] = some x_0_3 := g_0_3
  have q_0_4 : DataW.trod enc Tryz.prog W 0 (fun _ => true) true m_0 3 [c0_4] = some x_0_4 := g_0_4
  have q_0_5 : DataW.trod enc Tryz.prog W 0 (fun _ => true) true m_0 25 [c0_5] = some x_0_5 := g_0_5
  have q_0_6 : DataW.trod enc Tryz.prog W 0 (fun _ => true) true m_0 3 [c0_6] = some x_0_6 := g_0_6
  have q_0_7 : DataW.trod enc Tryz.prog W 0 (fun _ => true) true m_0 3 [c0_7] = some x_0_7 := g_0_7
  have q_0_8 : DataW.trod enc Tryz.prog W 0 (fun _ => true) true m_0 3 [c0_8] = some x_0_8 := g_0_8
  obtain ⟨b0_0, hb0_0⟩ := read3 _ _ _ q_0_0
  have hc0_1 : Cell.okWide Tryz.prog W .any base 43 c0_1 := by
    obtain ⟨u', hu', hx'⟩ := hall0 1 c0_1 rfl
    cases hu'
    exact hx'
  obtain ⟨l0_1, r0_1, k0_1, ha0_1⟩ := arg_slice (enc := enc27) (z := 2) (fun _ => rfl) cells27 ⟨(S_api_Chirp.mk (0 : Int) (0 : Int))⟩ Tryz.underlying43 hc0_1 q_0_1 read27
  have hm0_1 := ha0_1.len
  unfold maxLen at hm0_1
  obtain ⟨b0_2, hb0_2⟩ := read3 _ _ _ q_0_2
  obtain ⟨b0_3, hb0_3⟩ := read3 _ _ _ q_0_3
  obtain ⟨b0_4, hb0_4⟩ := read3 _ _ _ q_0_4
  have hc0_5 : Cell.okWide Tryz.prog W .any base 25 c0_5 := by
    obtain ⟨u', hu', hx'⟩ := hall0 5 c0_5 rfl
    cases hu'
    exact hx'
  obtain ⟨l0_5, r0_5, k0_5, ha0_5⟩ := arg_slice (enc := enc3) (z := 1) (fun _ => rfl) cells3 ⟨(0 : Int)⟩ Tryz.underlying25 hc0_5 q_0_5 read3
  have hm0_5 := ha0_5.len
  unfold maxLen at hm0_5
  obtain ⟨b0_6, hb0_6⟩ := read3 _ _ _ q_0_6
  obtain ⟨b0_7, hb0_7⟩ := read3 _ _ _ q_0_7
  obtain ⟨b0_8, hb0_8⟩ := read3 _ _ _ q_0_8
  have hrel : MRel W.heap.size (mapB (rowsB r0_1 r0_5)) (memB (rowsB r0_1 r0_5)) W := relB (fix_ok hL) ha0_1.row ha0_5.row
  have m0_1 : ∀ x, r0_1 = some x → mapB (rowsB r0_1 r0_5) (Pos.ofNat 7) = some x.1 := fun x hx => mapB_at (x := (false, x.1, x.2)) (by rw [hx]; rfl)
  have f0_1 : ∀ x, r0_1 = some x → rd (memB (rowsB r0_1 r0_5)) (Pos.ofNat 7) = some x.2 := fun x hx => ro_rd (memB_ro (p := x.1) (by rw [hx]; rfl))
  have m0_5 : ∀ x, r0_5 = some x → mapB (rowsB r0_1 r0_5) (Pos.ofNat 8) = some x.1 := fun x hx => mapB_at (x := (false, x.1, x.2)) (by rw [hx]; rfl)
  have f0_5 : ∀ x, r0_5 = some x → rd (memB (rowsB r0_1 r0_5)) (Pos.ofNat 8) = some x.2 := fun x hx => ro_rd (memB_ro (p := x.1) (by rw [hx]; rfl))
  have hlaw := law_eq (l0_1.length + l0_5.length + 50001) ⟨b0_0, l0_1, b0_2, b0_3, b0_4, l0_5, b0_6, b0_7, b0_8⟩ (by omega) (by simp only; omega) (by simp only; omega) rfl
  have hrun := law07_BankSure_run (l0_1.length + l0_5.length + 50001) ⟨b0_0, l0_1, b0_2, b0_3, b0_4, l0_5, b0_6, b0_7, b0_8⟩ _ _ true (memB (rowsB r0_1 r0_5)) (ha0_1.slc _ 7 f0_1) (ha0_5.slc _ 8 f0_5) (fixB r0_1 r0_5) hlaw
  have has : concs (mapB (rowsB r0_1 r0_5)) [.agg [(.int .i64 b0_0), argS r0_1 7 l0_1.length k0_1, (.int .i64 b0_2), (.int .i64 b0_3), (.int .i64 b0_4), argS r0_5 8 l0_5.length k0_5, (.int .i64 b0_6), (.int .i64 b0_7), (.int .i64 b0_8)]] = some [.agg #[c0_0, c0_1, c0_2, c0_3, c0_4, c0_5, c0_6, c0_7, c0_8]] := by
    refine concs_cons (conc_aggL (concs_append (hb0_0 _) (concs_append (concs_cons (ha0_1.val _ 7 m0_1) (concs_nil _)) (concs_append (hb0_2 _) (concs_append (hb0_3 _) (concs_append (hb0_4 _) (concs_append (concs_cons (ha0_5.val _ 8 m0_5) (concs_nil _)) (concs_append (hb0_6 _) (concs_append (hb0_7 _) (hb0_8 _)))))))))) (concs_nil _)
  have hcalls : Calls Tryz.prog 4 #[.agg #[c0_0, c0_1, c0_2, c0_3, c0_4, c0_5, c0_6, c0_7, c0_8]] W fun e W' => e = .returned (.bool true) ∧ Below W.heap.size W W' := by
    refine (Run.calls (Q := law07_BankSure_post true) mixed Tryz.func4 rfl rfl (frozen_rel hrel) (vs := #[.agg #[c0_0, c0_1, c0_2, c0_3, c0_4, c0_5, c0_6, c0_7, c0_8]]) has hrun).mono fun e W' ⟨m', M', s, x, he, hx, hs, hst⟩ => ?_
    have hs' : s = .bool true := hs
    subst hs'
    have hx' : x = .bool true := by simp [conc] at hx; exact hx.symm
    subst hx'
    exact ⟨he, hst.below⟩
  refine hcalls.mono fun e W' ⟨he, hb⟩ => ?_
  subst he
  exact ⟨_, rfl, _, _, _, [], _, [], hW', trodAll_cons_mk (shut_bool Tryz.underlying4 _) trodAll_mk0, trodAll_below kids full hb within hAk, rfl, hb.frame _, fun h => by cases h⟩

theorem hfn : Tryz.prog.funcNamed Rows.bankSureRow.func = some 4 := by kernel_rfl
theorem hinst : Tryz.f4.isInstance Tryz.prog Rows.bankSureRow.origin Rows.bankSureRow.targs := of_decide_eq_true (by kernel_rfl)
theorem hwrap : Tryz.f4.isWrapper Tryz.prog Rows.bankSureRow.wrapper Rows.bankSureRow.mainSum := by
  unfold Func.isWrapper
  first
    | (rw [if_pos (by decide +kernel)]; kernel_rfl)
    | (rw [if_neg (by decide +kernel)]; exact ⟨rfl, rfl⟩)
set_option maxRecDepth 100000 in
theorem facts : joinedFacts Tryz.prog 4 Tryz.f4 Rows.bankSureSpec Rows.bankSureRow = true := (and2 (and2 (and2 (and2 (and2 (and2 (and2 (and2 (and2 (and2 (and2 (and2 (and2 (and2 (and2 (and2 (and2 (and2 (and2 (and2 (and2 (and2 (and2 (and2 (and2 (and2 (and2 (and2 (and2 (and2 (and2 j0 j1) j2) j3) j4) j5) j6) j7) j8) j9) j10) j11) j12) j13) j14) j15) j16) j17) j18) j19) j20) j21) j22) j23) j24) j25) j26) j27) j28) j29) j30) j31)

theorem over : Rows.BankSureSaid :=
  OpenClaim.holds_of_wide (p := Tryz.pinned) (s := Rows.bankSureSpec) (c := Rows.bankSureRow) 4 Tryz.f4 rfl rfl rfl rfl rfl rfl rfl ⟨rfl, rfl, rfl, rfl, rfl⟩ rfl rfl rfl rfl rfl hfn Tryz.func4 facts hinst hwrap
    (fun os started H enc _ => lifted os started H enc)
end Go.Proofs.YtjddbfpinjjkkabGreatDoor.bankSure
