/- The row holds: the call answers true whatever its arguments are, and they read behind it as before. -/
import Derived.Test.YtbpnoedmnkalpaaGreatDoorRecordWithinMath3
import Derived.Test.YtbpnoedmnkalpaaGreatDoorRecordWithinFacts
import Derived.Test.YtbpnoedmnkalpaaGreatDoorRows
import Derived.WalkKit
import Derived.ProofKit
import Derived.OpenShut
import Derived.LaidMore
import Derived.Stop.Joined
import Derived.Lib.SmallJoins
namespace Go.Proofs.YtbpnoedmnkalpaaGreatDoor.recordWithin
open Go.ChangeShapes Go.WideShapes Go.ChangeAt Go.RowKit Go.Joins Go.Ev Go.Ev.RecordWithin

set_option linter.unusedVariables false
theorem own : ownKnob Tryz.prog.godebug = none := by kernel_rfl
theorem mixed : Tryz.prog.follows .mixedOrders = true := by kernel_rfl
theorem kids : Kids Tryz.prog (· < Tryz.prog.types.size) := kids_rows (by kernel_rfl) (by kernel_rfl)
theorem full : ∀ t e, t < Tryz.prog.types.size → Tryz.prog.underlying t = some (.slice e) → 0 < Tryz.prog.cellsOf e := slices_full_of Tryz.prog (by kernel_rfl)
theorem within : ∀ t ∈ Tryz.f9.params.toList, t < Tryz.prog.types.size := by
  have h : (Tryz.f9.params.toList.all fun t => decide (t < Tryz.prog.types.size)) = true := by kernel_rfl
  intro t ht
  exact of_decide_eq_true (List.all_eq_true.1 h t ht)

theorem door_met (os : Os) (args : Array Value) : laidMetH Tryz.prog Rows.recordWithinRow.laid ((World.doorLaid Tryz.prog 400 os).forCall (fun _ _ => 0) ⟨#[], args, []⟩).memory :=
  laidMetH_of_parts3 (fuel := 8) (laidMet_of_run' 8 (by kernel_rfl) (by kernel_rfl)) (by kernel_rfl) (by kernel_rfl)

set_option maxRecDepth 100000 in
theorem fix_ok {W : World} (h : laidMetH Tryz.prog Rows.recordWithinRow.laid W) : FixOK W Go.Proofs.YtbpnoedmnkalpaaGreatDoor.works.fixes := by
  rw [MakeChecks.laidMetH_plain _ _ _ (by kernel_rfl)] at h
  intro x hx
  simp only [Go.Proofs.YtbpnoedmnkalpaaGreatDoor.works.fixes, List.mem_cons, List.not_mem_nil, or_false] at hx
  rcases hx with rfl | rfl | rfl
  · exact laid_tab h (name := "math/bits.deBruijn32tab") (k := .u8) (zs := [0, 1, 28, 2, 29, 14, 24, 3, 30, 22, 20, 15, 25, 17, 4, 8, 31, 27, 13, 23, 21, 19, 16, 7, 26, 12, 18, 6, 11, 5, 10, 9]) (g := 6) (t := 367) (e := 5) (n := 32) (by unfold Rows.recordWithinRow; exact .head _) (by kernel_rfl) (by kernel_rfl) (by kernel_rfl) (by kernel_rfl) (by kernel_rfl) (by kernel_rfl) (by simp)
  · exact laid_tab h (name := "math/bits.deBruijn64tab") (k := .u8) (zs := [0, 1, 56, 2, 57, 49, 28, 3, 61, 58, 42, 50, 38, 29, 17, 4, 62, 47, 59, 36, 45, 43, 51, 22, 53, 39, 33, 30, 24, 18, 12, 5, 63, 55, 48, 27, 60, 41, 37, 16, 46, 35, 44, 21, 52, 32, 23, 11, 54, 26, 40, 15, 34, 20, 31, 10, 25, 14, 19, 9, 13, 8, 7, 6]) (g := 7) (t := 368) (e := 5) (n := 64) (by unfold Rows.recordWithinRow; exact .tail _ (.head _)) (by kernel_rfl) (by kernel_rfl) (by kernel_rfl) (by kernel_rfl) (by kernel_rfl) (by kernel_rfl) (by simp)
  · exact laid_tab h (name := "internal/strconv.uint64pow10") (k := .u64) (zs := [1, 10, 100, 1000, 10000, 100000, 1000000, 10000000, 100000000, 1000000000, 10000000000, 100000000000, 1000000000000, 10000000000000, 100000000000000, 1000000000000000, 10000000000000000, 100000000000000000, 1000000000000000000, 10000000000000000000]) (g := 5) (t := 356) (e := 248) (n := 20) (by unfold Rows.recordWithinRow; exact .tail _ (.tail _ (.head _))) (by kernel_rfl) (by kernel_rfl) (by kernel_rfl) (by kernel_rfl) (by kernel_rfl) (by kernel_rfl) (by simp)

theorem cells90 : Tryz.prog.cellsOf 90 = 2 := by kernel_rfl
theorem arr2 {α : Type} {cs : Array α} (h : cs.size = 2) : ∃ c0 c1, cs = #[c0, c1] := by
  obtain ⟨l⟩ := cs
  match l, h with
  | [c0, c1], _ => exact ⟨c0, c1, rfl⟩
theorem types90 : Tryz.prog.cellTypes Tryz.prog.depth 90 = some [88, 3] := by kernel_rfl
theorem list2 {α : Type} : ∀ {l : List α}, l.length = 2 → ∃ a0 a1, l = [a0, a1]
  | [a0, a1], _ => ⟨a0, a1, rfl⟩
theorem cells88 : Tryz.prog.cellsOf 88 = 1 := by kernel_rfl
theorem cells3 : Tryz.prog.cellsOf 3 = 1 := by kernel_rfl
theorem read3 {H : Type} {enc : TypeId × Value → H} {W : World} {held : Bool} (n : Nat) (cs : List Value) (x : DataW H × List MemPlace) (h : DataW.trod enc Tryz.prog W 0 (fun _ => true) held n 3 cs = some x) : ∃ a : Int, ∀ m, concs m (enc3 a) = some cs := by
  obtain ⟨a, rfl, _, _⟩ := DataW.trod_int Tryz.underlying3 h
  exact ⟨a, fun m => rfl⟩
theorem cells96 : Tryz.prog.cellsOf 96 = 2 := by kernel_rfl
theorem read96 {H : Type} {enc : TypeId × Value → H} {W : World} {held : Bool} (n : Nat) (cs : List Value) (x : DataW H × List MemPlace) (h : DataW.trod enc Tryz.prog W 0 (fun _ => true) held n 96 cs = some x) : ∃ a : S_api_Tap, ∀ m, concs m (enc96 a) = some cs := by
  have hlen : cs.length = 2 := (DataW.trod_struct Tryz.underlying96 h).elim fun _ h1 => h1.elim fun _ h2 => h2.2.2.1.trans cells96
  obtain ⟨c0, c1, rfl⟩ := list2 hlen
  obtain ⟨xs, m, _, hx, _, hl, hf⟩ := DataW.trod_struct Tryz.underlying96 h
  obtain ⟨x_0, x_1, rfl⟩ := list2 hl
  have g_0 := hf 0 (⟨ "Low", 3, 0, false, "", "", 0⟩) rfl
  simp only [cells3] at g_0
  have g_1 := hf 1 (⟨ "High", 3, 1, false, "", "", 8⟩) rfl
  simp only [cells3] at g_1
  have q_0 : DataW.trod enc Tryz.prog W 0 (fun _ => true) held m 3 [c0] = some x_0 := g_0
  have q_1 : DataW.trod enc Tryz.prog W 0 (fun _ => true) held m 3 [c1] = some x_1 := g_1
  obtain ⟨a_0, ha_0⟩ := read3 _ _ _ q_0
  obtain ⟨a_1, ha_1⟩ := read3 _ _ _ q_1
  exact ⟨⟨a_0, a_1⟩, fun m => concs_append (ha_0 m) (ha_1 m)⟩
/-- Where the run begins: the listed tables, the arguments' rows. -/
noncomputable def rowsB (r0_0 : ARow) (r1 : ARow) (r2 : ARow) : List BRow := [none, none, none, none, none, some (true, ⟨5, 0, 20⟩, intCells .u64 [1, 10, 100, 1000, 10000, 100000, 1000000, 10000000, 100000000, 1000000000, 10000000000, 100000000000, 1000000000000, 10000000000000, 100000000000000, 1000000000000000, 10000000000000000, 100000000000000000, 1000000000000000000, 10000000000000000000]), some (true, ⟨6, 0, 32⟩, intCells .u8 [0, 1, 28, 2, 29, 14, 24, 3, 30, 22, 20, 15, 25, 17, 4, 8, 31, 27, 13, 23, 21, 19, 16, 7, 26, 12, 18, 6, 11, 5, 10, 9]), some (true, ⟨7, 0, 64⟩, intCells .u8 [0, 1, 56, 2, 57, 49, 28, 3, 61, 58, 42, 50, 38, 29, 17, 4, 62, 47, 59, 36, 45, 43, 51, 22, 53, 39, 33, 30, 24, 18, 12, 5, 63, 55, 48, 27, 60, 41, 37, 16, 46, 35, 44, 21, 52, 32, 23, 11, 54, 26, 40, 15, 34, 20, 31, 10, 25, 14, 19, 9, 13, 8, 7, 6]), argB r0_0, argB r1, argB r2]
theorem relB {W : World} {r0_0 : ARow} {r1 : ARow} {r2 : ARow} (hf : FixOK W Go.Proofs.YtbpnoedmnkalpaaGreatDoor.works.fixes) (h0_0 : ∀ x, r0_0 = some x → x.1.block < W.heap.size ∧ ∀ m, RowRel m x.1 none .lost x.2 W.heap[x.1.block]?) (h1 : ∀ x, r1 = some x → x.1.block < W.heap.size ∧ ∀ m, RowRel m x.1 none .lost x.2 W.heap[x.1.block]?) (h2 : ∀ x, r2 = some x → x.1.block < W.heap.size ∧ ∀ m, RowRel m x.1 none .lost x.2 W.heap[x.1.block]?) : MRel W.heap.size (mapB (rowsB r0_0 r1 r2)) (memB (rowsB r0_0 r1 r2)) W := memB_rel3 fun j x hj => by
  unfold rowsB at hj
  rcases j with _ | _ | _ | _ | _ | _ | _ | _ | _ | _ | _ | j
  · simp at hj
  · simp at hj
  · simp at hj
  · simp at hj
  · simp at hj
  · cases (Option.some.inj hj)
    have := fix_row hf (x := (5, intCells .u64 [1, 10, 100, 1000, 10000, 100000, 1000000, 10000000, 100000000, 1000000000, 10000000000, 100000000000, 1000000000000, 10000000000000, 100000000000000, 1000000000000000, 10000000000000000, 100000000000000000, 1000000000000000000, 10000000000000000000])) (.tail _ (.tail _ (.head _)))
    exact ⟨this.1, this.2 _, fun _ => ⟨rfl, rfl⟩⟩
  · cases (Option.some.inj hj)
    have := fix_row hf (x := (6, intCells .u8 [0, 1, 28, 2, 29, 14, 24, 3, 30, 22, 20, 15, 25, 17, 4, 8, 31, 27, 13, 23, 21, 19, 16, 7, 26, 12, 18, 6, 11, 5, 10, 9])) (.head _)
    exact ⟨this.1, this.2 _, fun _ => ⟨rfl, rfl⟩⟩
  · cases (Option.some.inj hj)
    have := fix_row hf (x := (7, intCells .u8 [0, 1, 56, 2, 57, 49, 28, 3, 61, 58, 42, 50, 38, 29, 17, 4, 62, 47, 59, 36, 45, 43, 51, 22, 53, 39, 33, 30, 24, 18, 12, 5, 63, 55, 48, 27, 60, 41, 37, 16, 46, 35, 44, 21, 52, 32, 23, 11, 54, 26, 40, 15, 34, 20, 31, 10, 25, 14, 19, 9, 13, 8, 7, 6])) (.tail _ (.head _))
    exact ⟨this.1, this.2 _, fun _ => ⟨rfl, rfl⟩⟩
  · have hj' : argB r0_0 = some x := Option.some.inj hj
    obtain ⟨y, hy, rfl⟩ := Option.map_eq_some_iff.1 hj'
    exact ⟨(h0_0 y hy).1, (h0_0 y hy).2 _, fun h => by simp at h⟩
  · have hj' : argB r1 = some x := Option.some.inj hj
    obtain ⟨y, hy, rfl⟩ := Option.map_eq_some_iff.1 hj'
    exact ⟨(h1 y hy).1, (h1 y hy).2 _, fun h => by simp at h⟩
  · have hj' : argB r2 = some x := Option.some.inj hj
    obtain ⟨y, hy, rfl⟩ := Option.map_eq_some_iff.1 hj'
    exact ⟨(h2 y hy).1, (h2 y hy).2 _, fun h => by simp at h⟩
  · simp at hj
theorem fixB (r0_0 : ARow) (r1 : ARow) (r2 : ARow) : FixIn (memB (rowsB r0_0 r1 r2)) Go.Proofs.YtbpnoedmnkalpaaGreatDoor.works.fixes := fun x hx => by
  simp only [Go.Proofs.YtbpnoedmnkalpaaGreatDoor.works.fixes, List.mem_cons, List.not_mem_nil, or_false] at hx
  rcases hx with rfl | rfl | rfl
  · exact memB_fix (j := 6) (p := ⟨6, 0, 32⟩) rfl
  · exact memB_fix (j := 7) (p := ⟨7, 0, 64⟩) rfl
  · exact memB_fix (j := 5) (p := ⟨5, 0, 20⟩) rfl

set_option maxRecDepth 100000 in
theorem lifted (os : Os) (started : os.Started) (H : Type) (enc : TypeId × Value → H) :
    ReturnsInHanded {} Tryz.checked os 9 .any (fun w args => (Rows.recordWithinSpec.pre enc Tryz.prog Tryz.f9 [] false w args ∧ laidMetH Tryz.prog Rows.recordWithinRow.laid w) ∧ sizedMet enc Tryz.prog Tryz.f9 (OpenSpec.ofChange Rows.recordWithinSpec) false w args)
      (Rows.recordWithinSpec.post enc Tryz.prog Tryz.f9 false true false false) := by
  refine returnsInHanded_of_change_and (C := Tryz.checked) (X := fun w _ => laidMetH Tryz.prog Rows.recordWithinRow.laid w) (fun _ _ _ hh h => h.of_heap hh) own started (by kernel_rfl) Tryz.func9
    (ChangeSpec.witness_shaped (enc := enc) (C := Tryz.checked) (os := os) (X := fun w _ => laidMetH Tryz.prog Rows.recordWithinRow.laid w) false (World.doorLaid Tryz.prog 400 os) #[.agg #[.slice none 0 0, .int .i64 0], .slice none 0 0, .slice none 0 0] 8 rfl (World.shaped_of_RefB (by kernel_rfl) (by kernel_rfl)) (by kernel_rfl) (by kernel_rfl) (by kernel_rfl) (door_met os _)) ?_
  intro W base args ds gs before hval0 hW _ hsz hL _
  have hval : ∀ (j : Nat) t v, Tryz.f9.params[j]? = some t → args[j]? = some v → Value.okWide Tryz.prog W .any base t v := hval0
  have hW' := hW
  obtain ⟨p, q, hA0, hV, rfl, hfz, hnd⟩ := hW
  have hA : DataW.TrodAll enc Tryz.prog W 0 (fun _ => true) true Tryz.f9.params.toList args.toList ds p := hA0
  have hAk := hA
  rw [Tryz.params9] at hA hval
  obtain ⟨rfl, rfl⟩ := trodVars_none hV
  clear hA0 hval0
  simp only [List.append_nil] at hW'
  obtain ⟨v0, v1, v2, d0, d1, d2, p0, p1, p2, rfl, rfl, rfl, h0, h1, h2⟩ := trodAll_three hA
  have hv0 := hval 0 90 v0 rfl rfl
  simp only [Value.okWide, Tryz.underlying90] at hv0
  obtain ⟨cs0, rfl, hsz0, ts0, hts0, _, hall0⟩ := hv0
  rw [types90] at hts0
  cases hts0
  obtain ⟨c0_0, c0_1, rfl⟩ := arr2 (hsz0.trans cells90)
  obtain ⟨n0, h0⟩ := h0
  have g0 : DataW.trod enc Tryz.prog W 0 (fun _ => true) true n0 90 [c0_0, c0_1] = some (d0, p0) := h0
  obtain ⟨xs_0, m_0, _, hx_0, _, hl_0, hf_0⟩ := DataW.trod_struct Tryz.underlying90 g0
  obtain ⟨x_0_0, x_0_1, rfl⟩ := list2 hl_0
  have g_0_0 := hf_0 0 (⟨ "Taps", 88, 0, false, "", "", 0⟩) rfl
  simp only [cells88] at g_0_0
  have g_0_1 := hf_0 1 (⟨ "Shift", 3, 1, false, "", "", 24⟩) rfl
  simp only [cells3] at g_0_1
  have q_0_0 : DataW.trod enc Tryz.prog W 0 (fun _ => true) true m_0 88 [c0_0] = some x_0_0 := g_0_0
  have q_0_1 : DataW.trod enc Tryz.prog W 0 (fun _ => true) true m_0 3 [c0_1] = some x_0_1 := g_0_1
  have hc0_0 : Cell.okWide Tryz.prog W .any base 88 c0_0 := by
    obtain ⟨u', hu', hx'⟩ := hall0 0 c0_0 rfl
    cases hu'
    exact hx'
  obtain ⟨l0_0, r0_0, k0_0, ha0_0⟩ := arg_slice (enc := enc96) (z := 2) (fun _ => rfl) cells96 ⟨(S_api_Tap.mk (0 : Int) (0 : Int))⟩ Tryz.underlying88 hc0_0 q_0_0 read96
  have hm0_0 := ha0_0.len
  unfold maxLen at hm0_0
  obtain ⟨b0_1, hb0_1⟩ := read3 _ _ _ q_0_1
  have hv1 := hval 1 26 v1 rfl rfl
  have hc1 : Cell.okWide Tryz.prog W .any base 26 v1 := by
    simpa only [Value.okWide, Tryz.underlying26] using hv1
  obtain ⟨n1, h1⟩ := h1
  have hcl1 : v1.cells.toList = [v1] := by
    obtain ⟨a, len, cap, rfl⟩ := okWide_slice Tryz.underlying26 hv1
    rfl
  rw [hcl1] at h1
  obtain ⟨l1, r1, k1, ha1⟩ := arg_slice (enc := enc3) (z := 1) (fun _ => rfl) cells3 ⟨(0 : Int)⟩ Tryz.underlying26 hc1 h1 read3
  have hm1 := ha1.len
  unfold maxLen at hm1
  have hv2 := hval 2 26 v2 rfl rfl
  have hc2 : Cell.okWide Tryz.prog W .any base 26 v2 := by
    simpa only [Value.okWide, Tryz.underlying26] using hv2
  obtain ⟨n2, h2⟩ := h2
  have hcl2 : v2.cells.toList = [v2] := by
    obtain ⟨a, len, cap, rfl⟩ := okWide_slice Tryz.underlying26 hv2
    rfl
  rw [hcl2] at h2
  obtain ⟨l2, r2, k2, ha2⟩ := arg_slice (enc := enc3) (z := 1) (fun _ => rfl) cells3 ⟨(0 : Int)⟩ Tryz.underlying26 hc2 h2 read3
  have hm2 := ha2.len
  unfold maxLen at hm2
  have hrel : MRel W.heap.size (mapB (rowsB r0_0 r1 r2)) (memB (rowsB r0_0 r1 r2)) W := relB (fix_ok hL) ha0_0.row ha1.row ha2.row
  have m0_0 : ∀ x, r0_0 = some x → mapB (rowsB r0_0 r1 r2) (Pos.ofNat 8) = some x.1 := fun x hx => mapB_at (x := (false, x.1, x.2)) (by rw [hx]; rfl)
  have f0_0 : ∀ x, r0_0 = some x → rd (memB (rowsB r0_0 r1 r2)) (Pos.ofNat 8) = some x.2 := fun x hx => ro_rd (memB_ro (p := x.1) (by rw [hx]; rfl))
  have m1 : ∀ x, r1 = some x → mapB (rowsB r0_0 r1 r2) (Pos.ofNat 9) = some x.1 := fun x hx => mapB_at (x := (false, x.1, x.2)) (by rw [hx]; rfl)
  have f1 : ∀ x, r1 = some x → rd (memB (rowsB r0_0 r1 r2)) (Pos.ofNat 9) = some x.2 := fun x hx => ro_rd (memB_ro (p := x.1) (by rw [hx]; rfl))
  have m2 : ∀ x, r2 = some x → mapB (rowsB r0_0 r1 r2) (Pos.ofNat 10) = some x.1 := fun x hx => mapB_at (x := (false, x.1, x.2)) (by rw [hx]; rfl)
  have f2 : ∀ x, r2 = some x → rd (memB (rowsB r0_0 r1 r2)) (Pos.ofNat 10) = some x.2 := fun x hx => ro_rd (memB_ro (p := x.1) (by rw [hx]; rfl))
  have hlaw := law_eq (l0_0.length + l1.length + l2.length + 6000) ⟨l0_0, b0_1⟩ l1 l2 (by omega) (by omega) rfl
  have hrun := law05_RecordWithin_run (l0_0.length + l1.length + l2.length + 6000) ⟨l0_0, b0_1⟩ l1 l2 _ _ _ true (memB (rowsB r0_0 r1 r2)) (ha0_0.slc _ 8 f0_0) (ha1.slc _ 9 f1) (ha2.slc _ 10 f2) (fixB r0_0 r1 r2) hlaw
  have has : concs (mapB (rowsB r0_0 r1 r2)) [.agg [argS r0_0 8 l0_0.length k0_0, (.int .i64 b0_1)], argS r1 9 l1.length k1, argS r2 10 l2.length k2] = some [.agg #[c0_0, c0_1], v1, v2] := by
    refine concs_cons (conc_aggL (concs_append (concs_cons (ha0_0.val _ 8 m0_0) (concs_nil _)) (hb0_1 _))) (concs_cons (ha1.val _ 9 m1) (concs_cons (ha2.val _ 10 m2) (concs_nil _)))
  have hcalls : Calls Tryz.prog 9 #[.agg #[c0_0, c0_1], v1, v2] W fun e W' => e = .returned (.bool true) ∧ Below W.heap.size W W' := by
    refine (Run.calls (Q := law05_RecordWithin_post true) mixed Tryz.func9 rfl rfl (frozen_rel hrel) (vs := #[.agg #[c0_0, c0_1], v1, v2]) has hrun).mono fun e W' ⟨m', M', s, x, he, hx, hs, hst⟩ => ?_
    have hs' : s = .bool true := hs
    subst hs'
    have hx' : x = .bool true := by simp [conc] at hx; exact hx.symm
    subst hx'
    exact ⟨he, hst.below⟩
  refine hcalls.mono fun e W' ⟨he, hb⟩ => ?_
  subst he
  exact ⟨_, rfl, _, _, _, [], _, [], hW', trodAll_cons_mk (shut_bool Tryz.underlying4 _) trodAll_mk0, trodAll_below kids full hb within hAk, rfl, hb.frame _, fun h => by cases h⟩

theorem hfn : Tryz.prog.funcNamed Rows.recordWithinRow.func = some 9 := by kernel_rfl
theorem hinst : Tryz.f9.isInstance Tryz.prog Rows.recordWithinRow.origin Rows.recordWithinRow.targs := of_decide_eq_true (by kernel_rfl)
theorem hwrap : Tryz.f9.isWrapper Tryz.prog Rows.recordWithinRow.wrapper Rows.recordWithinRow.mainSum := by
  unfold Func.isWrapper
  first
    | (rw [if_pos (by decide +kernel)]; kernel_rfl)
    | (rw [if_neg (by decide +kernel)]; exact ⟨rfl, rfl⟩)
set_option maxRecDepth 100000 in
theorem facts : joinedFacts Tryz.prog 9 Tryz.f9 Rows.recordWithinSpec Rows.recordWithinRow = true := (and2 (and2 (and2 (and2 (and2 (and2 (and2 (and2 (and2 (and2 (and2 (and2 (and2 (and2 (and2 (and2 (and2 (and2 (and2 (and2 (and2 (and2 (and2 (and2 (and2 (and2 (and2 (and2 (and2 (and2 (and2 j0 j1) j2) j3) j4) j5) j6) j7) j8) j9) j10) j11) j12) j13) j14) j15) j16) j17) j18) j19) j20) j21) j22) j23) j24) j25) j26) j27) j28) j29) j30) j31)

theorem over : Rows.RecordWithinSaid :=
  OpenClaim.holds_of_wide (p := Tryz.pinned) (s := Rows.recordWithinSpec) (c := Rows.recordWithinRow) 9 Tryz.f9 rfl rfl rfl rfl rfl rfl rfl ⟨rfl, rfl, rfl, rfl, rfl⟩ rfl rfl rfl rfl rfl hfn Tryz.func9 facts hinst hwrap
    (fun os started H enc _ => lifted os started H enc)
end Go.Proofs.YtbpnoedmnkalpaaGreatDoor.recordWithin
