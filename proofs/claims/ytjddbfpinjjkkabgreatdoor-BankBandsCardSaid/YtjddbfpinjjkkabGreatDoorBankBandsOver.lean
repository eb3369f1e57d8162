/- The row holds: the call answers true whatever its arguments are, and they read behind it as before. -/
import Derived.Test.YtjddbfpinjjkkabGreatDoorBankBandsMath6
import Derived.Test.YtjddbfpinjjkkabGreatDoorBankBandsFacts
import Derived.Test.YtjddbfpinjjkkabGreatDoorRows
import Derived.WalkKit
import Derived.ProofKit
import Derived.OpenShut
import Derived.LaidMore
import Derived.Stop.Joined
import Derived.Lib.SmallJoins
import Derived.Test.YtjddbfpinjjkkabGreatDoorEvL21
namespace Go.Proofs.YtjddbfpinjjkkabGreatDoor.bankBands
open Go.ChangeShapes Go.WideShapes Go.ChangeAt Go.RowKit Go.Joins Go.Ev Go.Ev.BankBands

set_option linter.unusedVariables false
theorem own : ownKnob Tryz.prog.godebug = none := by kernel_rfl
theorem mixed : Tryz.prog.follows .mixedOrders = true := by kernel_rfl
theorem kids : Kids Tryz.prog (· < Tryz.prog.types.size) := kids_rows (by kernel_rfl) (by kernel_rfl)
theorem full : ∀ t e, t < Tryz.prog.types.size → Tryz.prog.underlying t = some (.slice e) → 0 < Tryz.prog.cellsOf e := slices_full_of Tryz.prog (by kernel_rfl)
theorem within : ∀ t ∈ Tryz.f3.params.toList, t < Tryz.prog.types.size := by
  have h : (Tryz.f3.params.toList.all fun t => decide (t < Tryz.prog.types.size)) = true := by kernel_rfl
  intro t ht
  exact of_decide_eq_true (List.all_eq_true.1 h t ht)

theorem door_met (os : Os) (args : Array Value) : laidMetH Tryz.prog Rows.bankBandsRow.laid ((World.doorLaid Tryz.prog 400 os).forCall (fun _ _ => 0) ⟨#[], args, []⟩).memory :=
  laidMetH_of_parts3 (fuel := 8) (laidMet_of_run' 8 (by kernel_rfl) (by kernel_rfl)) (by kernel_rfl) (by kernel_rfl)

set_option maxRecDepth 100000 in
theorem fix_ok {W : World} (h : laidMetH Tryz.prog Rows.bankBandsRow.laid W) : FixOK W Go.Proofs.YtjddbfpinjjkkabGreatDoor.works.fixes := by
  rw [MakeChecks.laidMetH_plain _ _ _ (by kernel_rfl)] at h
  intro x hx
  simp only [Go.Proofs.YtjddbfpinjjkkabGreatDoor.works.fixes, List.mem_cons, List.not_mem_nil, or_false] at hx
  rcases hx with rfl | rfl | rfl | rfl
  · exact laid_tab h (name := "math/bits.deBruijn32tab") (k := .u8) (zs := [0, 1, 28, 2, 29, 14, 24, 3, 30, 22, 20, 15, 25, 17, 4, 8, 31, 27, 13, 23, 21, 19, 16, 7, 26, 12, 18, 6, 11, 5, 10, 9]) (g := 5) (t := 343) (e := 5) (n := 32) (by unfold Rows.bankBandsRow; exact .head _) (by kernel_rfl) (by kernel_rfl) (by kernel_rfl) (by kernel_rfl) (by kernel_rfl) (by kernel_rfl) (by simp)
  · exact laid_tab h (name := "math/bits.deBruijn64tab") (k := .u8) (zs := [0, 1, 56, 2, 57, 49, 28, 3, 61, 58, 42, 50, 38, 29, 17, 4, 62, 47, 59, 36, 45, 43, 51, 22, 53, 39, 33, 30, 24, 18, 12, 5, 63, 55, 48, 27, 60, 41, 37, 16, 46, 35, 44, 21, 52, 32, 23, 11, 54, 26, 40, 15, 34, 20, 31, 10, 25, 14, 19, 9, 13, 8, 7, 6]) (g := 6) (t := 344) (e := 5) (n := 64) (by unfold Rows.bankBandsRow; exact .tail _ (.head _)) (by kernel_rfl) (by kernel_rfl) (by kernel_rfl) (by kernel_rfl) (by kernel_rfl) (by kernel_rfl) (by simp)
  · exact laid_tab h (name := "internal/strconv.uint64pow10") (k := .u64) (zs := [1, 10, 100, 1000, 10000, 100000, 1000000, 10000000, 100000000, 1000000000, 10000000000, 100000000000, 1000000000000, 10000000000000, 100000000000000, 1000000000000000, 10000000000000000, 100000000000000000, 1000000000000000000, 10000000000000000000]) (g := 4) (t := 339) (e := 219) (n := 20) (by unfold Rows.bankBandsRow; exact .tail _ (.tail _ (.head _))) (by kernel_rfl) (by kernel_rfl) (by kernel_rfl) (by kernel_rfl) (by kernel_rfl) (by kernel_rfl) (by simp)
  · exact laid_tab h (name := "ringdown/bank.quarter") (k := .i64) (zs := [0, 12, 25, 37, 49, 60, 71, 81, 90, 98, 106, 112, 117, 122, 125, 126, 127]) (g := 0) (t := 191) (e := 3) (n := 17) (by unfold Rows.bankBandsRow; exact .tail _ (.tail _ (.tail _ (.head _)))) (by kernel_rfl) (by kernel_rfl) (by kernel_rfl) (by kernel_rfl) (by kernel_rfl) (by kernel_rfl) (by simp)

theorem cells24 : Tryz.prog.cellsOf 24 = 2 := by kernel_rfl
theorem arr2 {α : Type} {cs : Array α} (h : cs.size = 2) : ∃ c0 c1, cs = #[c0, c1] := by
  obtain ⟨l⟩ := cs
  match l, h with
  | [c0, c1], _ => exact ⟨c0, c1, rfl⟩
theorem types24 : Tryz.prog.cellTypes Tryz.prog.depth 24 = some [22, 3] := by kernel_rfl
theorem list2 {α : Type} : ∀ {l : List α}, l.length = 2 → ∃ a0 a1, l = [a0, a1]
  | [a0, a1], _ => ⟨a0, a1, rfl⟩
theorem cells22 : Tryz.prog.cellsOf 22 = 1 := by kernel_rfl
theorem cells3 : Tryz.prog.cellsOf 3 = 1 := by kernel_rfl
theorem read3 {H : Type} {enc : TypeId × Value → H} {W : World} {held : Bool} (n : Nat) (cs : List Value) (x : DataW H × List MemPlace) (h : DataW.trod enc Tryz.prog W 0 (fun _ => true) held n 3 cs = some x) : ∃ a : Int, ∀ m, concs m (enc3 a) = some cs := by
  obtain ⟨a, rfl, _, _⟩ := DataW.trod_int Tryz.underlying3 h
  exact ⟨a, fun m => rfl⟩
theorem cells37 : Tryz.prog.cellsOf 37 = 2 := by kernel_rfl
theorem read37 {H : Type} {enc : TypeId × Value → H} {W : World} {held : Bool} (n : Nat) (cs : List Value) (x : DataW H × List MemPlace) (h : DataW.trod enc Tryz.prog W 0 (fun _ => true) held n 37 cs = some x) : ∃ a : S_api_Tap, ∀ m, concs m (enc37 a) = some cs := by
  have hlen : cs.length = 2 := (DataW.trod_struct Tryz.underlying37 h).elim fun _ h1 => h1.elim fun _ h2 => h2.2.2.1.trans cells37
  obtain ⟨c0, c1, rfl⟩ := list2 hlen
  obtain ⟨xs, m, _, hx, _, hl, hf⟩ := DataW.trod_struct Tryz.underlying37 h
  obtain ⟨x_0, x_1, rfl⟩ := list2 hl
  have g_0 := hf 0 (⟨ "Low", 3, 0, false, "", "", 0⟩) rfl
  simp only [cells3] at g_0
  have g_1 := hf 1 (⟨ "High", 3, 1, false, "", "", 8⟩) rfl
  simp only [cells3] at g_1
  have q_0 : DataW.trod enc Tryz.prog W 0 (fun _ => true) held m 3 [c0] = some x_0 := g_0
  have q_1 : DataW.trod enc Tryz.prog W 0 (fun _ => true) held m 3 [c1] = some x_1 := g_1
  obtain ⟨a_0, ha_0⟩ := read3 _ _ _ q_0
  obtain ⟨a_1, ha_1⟩ := read3 _ _ _ q_1
  exact ⟨⟨a_0, a_1⟩, fun m => concs_append (ha_0 m) (ha_1 m)⟩
theorem cells27 : Tryz.prog.cellsOf 27 = 2 := by kernel_rfl
theorem types27 : Tryz.prog.cellTypes Tryz.prog.depth 27 = some [3, 3] := by kernel_rfl
def enc27 (a : S_api_Chirp) : List SV := [(.int .i64 a.P), (.int .i64 a.Q)]
theorem read27 {H : Type} {enc : TypeId × Value → H} {W : World} {held : Bool} (n : Nat) (cs : List Value) (x : DataW H × List MemPlace) (h : DataW.trod enc Tryz.prog W 0 (fun _ => true) held n 27 cs = some x) : ∃ a : S_api_Chirp, ∀ m, concs m (enc27 a) = some cs := by
  have hlen : cs.length = 2 := (DataW.trod_struct Tryz.underlying27 h).elim fun _ h1 => h1.elim fun _ h2 => h2.2.2.1.trans cells27
  obtain ⟨c0, c1, rfl⟩ := list2 hlen
  obtain ⟨xs, m, _, hx, _, hl, hf⟩ := DataW.trod_struct Tryz.underlying27 h
  obtain ⟨x_0, x_1, rfl⟩ := list2 hl
  have g_0 := hf 0 (⟨ "P", 3, 0, false, "", "", 0⟩) rfl
  simp only [cells3] at g_0
  have g_1 := hf 1 (⟨ "Q", 3, 1, false, "", "", 8⟩) rfl
  simp only [cells3] at g_1
  have q_0 : DataW.trod enc Tryz.prog W 0 (fun _ => true) held m 3 [c0] = some x_0 := g_0
  have q_1 : DataW.trod enc Tryz.prog W 0 (fun _ => true) held m 3 [c1] = some x_1 := g_1
  obtain ⟨a_0, ha_0⟩ := read3 _ _ _ q_0
  obtain ⟨a_1, ha_1⟩ := read3 _ _ _ q_1
  exact ⟨⟨a_0, a_1⟩, fun m => concs_append (ha_0 m) (ha_1 m)⟩
/-- Where the run begins: the listed tables, the arguments' rows. -/
noncomputable def rowsB (r0_0 : ARow) (r1 : ARow) : List BRow := [some (true, ⟨0, 0, 17⟩, intCells .i64 [0, 12, 25, 37, 49, 60, 71, 81, 90, 98, 106, 112, 117, 122, 125, 126, 127]), none, none, none, some (true, ⟨4, 0, 20⟩, intCells .u64 [1, 10, 100, 1000, 10000, 100000, 1000000, 10000000, 100000000, 1000000000, 10000000000, 100000000000, 1000000000000, 10000000000000, 100000000000000, 1000000000000000, 10000000000000000, 100000000000000000, 1000000000000000000, 10000000000000000000]), some (true, ⟨5, 0, 32⟩, intCells .u8 [0, 1, 28, 2, 29, 14, 24, 3, 30, 22, 20, 15, 25, 17, 4, 8, 31, 27, 13, 23, 21, 19, 16, 7, 26, 12, 18, 6, 11, 5, 10, 9]), some (true, ⟨6, 0, 64⟩, intCells .u8 [0, 1, 56, 2, 57, 49, 28, 3, 61, 58, 42, 50, 38, 29, 17, 4, 62, 47, 59, 36, 45, 43, 51, 22, 53, 39, 33, 30, 24, 18, 12, 5, 63, 55, 48, 27, 60, 41, 37, 16, 46, 35, 44, 21, 52, 32, 23, 11, 54, 26, 40, 15, 34, 20, 31, 10, 25, 14, 19, 9, 13, 8, 7, 6]), argB r0_0, argB r1]
theorem relB {W : World} {r0_0 : ARow} {r1 : ARow} (hf : FixOK W Go.Proofs.YtjddbfpinjjkkabGreatDoor.works.fixes) (h0_0 : ∀ x, r0_0 = some x → x.1.block < W.heap.size ∧ ∀ m, RowRel m x.1 none .lost x.2 W.heap[x.1.block]?) (h1 : ∀ x, r1 = some x → x.1.block < W.heap.size ∧ ∀ m, RowRel m x.1 none .lost x.2 W.heap[x.1.block]?) : MRel W.heap.size (mapB (rowsB r0_0 r1)) (memB (rowsB r0_0 r1)) W := memB_rel3 fun j x hj => by
  unfold rowsB at hj
  rcases j with _ | _ | _ | _ | _ | _ | _ | _ | _ | j
  · cases (Option.some.inj hj)
    have := fix_row hf (x := (0, intCells .i64 [0, 12, 25, 37, 49, 60, 71, 81, 90, 98, 106, 112, 117, 122, 125, 126, 127])) (.tail _ (.tail _ (.tail _ (.head _))))
    exact ⟨this.1, this.2 _, fun _ => ⟨rfl, rfl, rfl⟩⟩
  · simp at hj
  · simp at hj
  · simp at hj
  · cases (Option.some.inj hj)
    have := fix_row hf (x := (4, intCells .u64 [1, 10, 100, 1000, 10000, 100000, 1000000, 10000000, 100000000, 1000000000, 10000000000, 100000000000, 1000000000000, 10000000000000, 100000000000000, 1000000000000000, 10000000000000000, 100000000000000000, 1000000000000000000, 10000000000000000000])) (.tail _ (.tail _ (.head _)))
    exact ⟨this.1, this.2 _, fun _ => ⟨rfl, rfl, rfl⟩⟩
  · cases (Option.some.inj hj)
    have := fix_row hf (x := (5, intCells .u8 [0, 1, 28, 2, 29, 14, 24, 3, 30, 22, 20, 15, 25, 17, 4, 8, 31, 27, 13, 23, 21, 19, 16, 7, 26, 12, 18, 6, 11, 5, 10, 9])) (.head _)
    exact ⟨this.1, this.2 _, fun _ => ⟨rfl, rfl, rfl⟩⟩
  · cases (Option.some.inj hj)
    have := fix_row hf (x := (6, intCells .u8 [0, 1, 56, 2, 57, 49, 28, 3, 61, 58, 42, 50, 38, 29, 17, 4, 62, 47, 59, 36, 45, 43, 51, 22, 53, 39, 33, 30, 24, 18, 12, 5, 63, 55, 48, 27, 60, 41, 37, 16, 46, 35, 44, 21, 52, 32, 23, 11, 54, 26, 40, 15, 34, 20, 31, 10, 25, 14, 19, 9, 13, 8, 7, 6])) (.tail _ (.head _))
    exact ⟨this.1, this.2 _, fun _ => ⟨rfl, rfl, rfl⟩⟩
  · have hj' : argB r0_0 = some x := Option.some.inj hj
    obtain ⟨y, hy, rfl⟩ := Option.map_eq_some_iff.1 hj'
    exact ⟨(h0_0 y hy).1, (h0_0 y hy).2 _, fun h => by simp at h⟩
  · have hj' : argB r1 = some x := Option.some.inj hj
    obtain ⟨y, hy, rfl⟩ := Option.map_eq_some_iff.1 hj'
    exact ⟨(h1 y hy).1, (h1 y hy).2 _, fun h => by simp at h⟩
  · simp at hj
theorem fixB (r0_0 : ARow) (r1 : ARow) : FixIn (memB (rowsB r0_0 r1)) Go.Proofs.YtjddbfpinjjkkabGreatDoor.works.fixes := fun x hx => by
  simp only [Go.Proofs.YtjddbfpinjjkkabGreatDoor.works.fixes, List.mem_cons, List.not_mem_nil, or_false] at hx
  rcases hx with rfl | rfl | rfl | rfl
  · exact memB_fix (j := 5) (p := ⟨5, 0, 32⟩) rfl
  · exact memB_fix (j := 6) (p := ⟨6, 0, 64⟩) rfl
  · exact memB_fix (j := 4) (p := ⟨4, 0, 20⟩) rfl
  · exact memB_fix (j := 0) (p := ⟨0, 0, 17⟩) rfl

set_option maxRecDepth 100000 in
theorem lifted (os : Os) (started : os.Started) (H : Type) (enc : TypeId × Value → H) :
    ReturnsInHanded {} Tryz.checked os 3 .any (fun w args => (Rows.bankBandsSpec.pre enc Tryz.prog Tryz.f3 [] false w args ∧ laidMetH Tryz.prog Rows.bankBandsRow.laid w) ∧ sizedMet enc Tryz.prog Tryz.f3 (OpenSpec.ofChange Rows.bankBandsSpec) false w args)
      (Rows.bankBandsSpec.post enc Tryz.prog Tryz.f3 false true false false) := by
  refine returnsInHanded_of_change_and (C := Tryz.checked) (X := fun w _ => laidMetH Tryz.prog Rows.bankBandsRow.laid w) (fun _ _ _ hh h => h.of_heap hh) own started (by kernel_rfl) Tryz.func3
    (ChangeSpec.witness_shaped (enc := enc) (C := Tryz.checked) (os := os) (X := fun w _ => laidMetH Tryz.prog Rows.bankBandsRow.laid w) false (World.doorLaid Tryz.prog 400 os) #[.agg #[.slice none 0 0, .int .i64 0], .slice none 0 0, .agg #[.int .i64 0, .int .i64 0]] 8 rfl (World.shaped_of_RefB (by kernel_rfl) (by kernel_rfl)) (by kernel_rfl) (by kernel_rfl) (by kernel_rfl) (door_met os _)) ?_
  intro W base args ds gs before hval0 hW _ hsz hL _
  have hval : ∀ (j : Nat) t v, Tryz.f3.params[j]? = some t → args[j]? = some v → Value.okWide Tryz.prog W .any base t v := hval0
  have hW' := hW
  obtain ⟨p, q, hA0, hV, rfl, hfz, hnd⟩ := hW
  have hA : DataW.TrodAll enc Tryz.prog W 0 (fun _ => true) true Tryz.f3.params.toList args.toList ds p := hA0
  have hAk := hA
  rw [Tryz.params3] at hA hval
  obtain ⟨rfl, rfl⟩ := trodVars_none hV
  clear hA0 hval0
  simp only [List.append_nil] at hW'
  obtain ⟨v0, v1, v2, d0, d1, d2, p0, p1, p2, rfl, rfl, rfl, h0, h1, h2⟩ := trodAll_three hA
  have hv0 := hval 0 24 v0 rfl rfl
  simp only [Value.okWide, Tryz.underlying24] at hv0
  obtain ⟨cs0, rfl, hsz0, ts0, hts0, _, hall0⟩ := hv0
  rw [types24] at hts0
  cases hts0
  obtain ⟨c0_0, c0_1, rfl⟩ := arr2 (hsz0.trans cells24)
  obtain ⟨n0, h0⟩ := h0
  have g0 : DataW.trod enc Tryz.prog W 0 (fun _ => true) true n0 24 [c0_0, c0_1] = some (d0, p0) := h0
  obtain ⟨xs_0, m_0, _, hx_0, _, hl_0, hf_0⟩ := DataW.trod_struct Tryz.underlying24 g0
  obtain ⟨x_0_0, x_0_1, rfl⟩ := list2 hl_0
  have g_0_0 := hf_0 0 (⟨ "Taps", 22, 0, false, "", "", 0⟩) rfl
  simp only [cells22] at g_0_0
  have g_0_1 := hf_0 1 (⟨ "Shift", 3, 1, false, "", "", 24⟩) rfl
  simp only [cells3] at g_0_1
  have q_0_0 : DataW.trod enc Tryz.prog W 0 (fun _ => true) true m_0 22 [c0_0] = some x_0_0 := g_0_0
  have q_0_1 : DataW.trod enc Tryz.prog W 0 (fun _ => true) true m_0 3 [c0_1] = some x_0_1 := g_0_1
  have hc0_0 : Cell.okWide Tryz.prog W .any base 22 c0_0 := by
    obtain ⟨u', hu', hx'⟩ := hall0 0 c0_0 rfl
    cases hu'
    exact hx'
  obtain ⟨l0_0, r0_0, k0_0, ha0_0⟩ := arg_slice (enc := enc37) (z := 2) (fun _ => rfl) cells37 ⟨(S_api_Tap.mk (0 : Int) (0 : Int))⟩ Tryz.underlying22 hc0_0 q_0_0 read37
  have hm0_0 := ha0_0.len
  unfold maxLen at hm0_0
  obtain ⟨b0_1, hb0_1⟩ := read3 _ _ _ q_0_1
  have hv1 := hval 1 25 v1 rfl rfl
  have hc1 : Cell.okWide Tryz.prog W .any base 25 v1 := by
    simpa only [Value.okWide, Tryz.underlying25] using hv1
  obtain ⟨n1, h1⟩ := h1
  have hcl1 : v1.cells.toList = [v1] := by
    obtain ⟨a, len, cap, rfl⟩ := okWide_slice Tryz.underlying25 hv1
    rfl
  rw [hcl1] at h1
  obtain ⟨l1, r1, k1, ha1⟩ := arg_slice (enc := enc3) (z := 1) (fun _ => rfl) cells3 ⟨(0 : Int)⟩ Tryz.underlying25 hc1 h1 read3
  have hm1 := ha1.len
  unfold maxLen at hm1
  have hv2 := hval 2 27 v2 rfl rfl
  simp only [Value.okWide, Tryz.underlying27] at hv2
  obtain ⟨cs2, rfl, hsz2, ts2, hts2, _, hall2⟩ := hv2
  rw [types27] at hts2
  cases hts2
  obtain ⟨c2_0, c2_1, rfl⟩ := arr2 (hsz2.trans cells27)
  obtain ⟨n2, h2⟩ := h2
  have g2 : DataW.trod enc Tryz.prog W 0 (fun _ => true) true n2 27 [c2_0, c2_1] = some (d2, p2) := h2
  obtain ⟨b2, hb2⟩ := read27 _ _ _ g2
  have hrel : MRel W.heap.size (mapB (rowsB r0_0 r1)) (memB (rowsB r0_0 r1)) W := relB (fix_ok hL) ha0_0.row ha1.row
  have m0_0 : ∀ x, r0_0 = some x → mapB (rowsB r0_0 r1) (Pos.ofNat 7) = some x.1 := fun x hx => mapB_at (x := (false, x.1, x.2)) (by rw [hx]; rfl)
  have f0_0 : ∀ x, r0_0 = some x → rd (memB (rowsB r0_0 r1)) (Pos.ofNat 7) = some x.2 := fun x hx => ro_rd (memB_ro (p := x.1) (by rw [hx]; rfl))
  have m1 : ∀ x, r1 = some x → mapB (rowsB r0_0 r1) (Pos.ofNat 8) = some x.1 := fun x hx => mapB_at (x := (false, x.1, x.2)) (by rw [hx]; rfl)
  have f1 : ∀ x, r1 = some x → rd (memB (rowsB r0_0 r1)) (Pos.ofNat 8) = some x.2 := fun x hx => ro_rd (memB_ro (p := x.1) (by rw [hx]; rfl))
  have hlaw := law_eq (l0_0.length + l1.length + 5001) ⟨l0_0, b0_1⟩ l1 b2 (by omega) rfl
  have hrun := law07_BankBands_run (l0_0.length + l1.length + 5001) ⟨l0_0, b0_1⟩ l1 b2 _ _ true (memB (rowsB r0_0 r1)) (ha0_0.slc _ 7 f0_0) (ha1.slc _ 8 f1) (fixB r0_0 r1) hlaw
  have has : concs (mapB (rowsB r0_0 r1)) [.agg [argS r0_0 7 l0_0.length k0_0, (.int .i64 b0_1)], argS r1 8 l1.length k1, .agg [(.int .i64 b2.P), (.int .i64 b2.Q)]] = some [.agg #[c0_0, c0_1], v1, .agg #[c2_0, c2_1]] := by
    refine concs_cons (conc_aggL (concs_append (concs_cons (ha0_0.val _ 7 m0_0) (concs_nil _)) (hb0_1 _))) (concs_cons (ha1.val _ 8 m1) (concs_cons (conc_aggL (hb2 _)) (concs_nil _)))
  have hcalls : Calls Tryz.prog 3 #[.agg #[c0_0, c0_1], v1, .agg #[c2_0, c2_1]] W fun e W' => e = .returned (.bool true) ∧ Below W.heap.size W W' := by
    refine (Run.calls (Q := law07_BankBands_post true) mixed Tryz.func3 rfl rfl (frozen_rel hrel) (vs := #[.agg #[c0_0, c0_1], v1, .agg #[c2_0, c2_1]]) has hrun).mono fun e W' ⟨m', M', s, x, he, hx, hs, hst⟩ => ?_
    have hs' : s = .bool true := hs
    subst hs'
    have hx' : x = .bool true := by simp [conc] at hx; exact hx.symm
    subst hx'
    exact ⟨he, hst.below⟩
  refine hcalls.mono fun e W' ⟨he, hb⟩ => ?_
  subst he
  exact ⟨_, rfl, _, _, _, [], _, [], hW', trodAll_cons_mk (shut_bool Tryz.underlying4 _) trodAll_mk0, trodAll_below kids full hb within hAk, rfl, hb.frame _, fun h => by cases h⟩

theorem hfn : Tryz.prog.funcNamed Rows.bankBandsRow.func = some 3 := by kernel_rfl
theorem hinst : Tryz.f3.isInstance Tryz.prog Rows.bankBandsRow.origin Rows.bankBandsRow.targs := of_decide_eq_true (by kernel_rfl)
theorem hwrap : Tryz.f3.isWrapper Tryz.prog Rows.bankBandsRow.wrapper Rows.bankBandsRow.mainSum := by
  unfold Func.isWrapper
  first
    | (rw [if_pos (by decide +kernel)]; kernel_rfl)
    | (rw [if_neg (by decide +kernel)]; exact ⟨rfl, rfl⟩)
set_option maxRecDepth 100000 in
theorem facts : joinedFacts Tryz.prog 3 Tryz.f3 Rows.bankBandsSpec Rows.bankBandsRow = true := (and2 (and2 (and2 (and2 (and2 (and2 (and2 (and2 (and2 (and2 (and2 (and2 (and2 (and2 (and2 (and2 (and2 (and2 (and2 (and2 (and2 (and2 (and2 (and2 (and2 (and2 (and2 (and2 (and2 (and2 (and2 j0 j1) j2) j3) j4) j5) j6) j7) j8) j9) j10) j11) j12) j13) j14) j15) j16) j17) j18) j19) j20) j21) j22) j23) j24) j25) j26) j27) j28) j29) j30) j31)

theorem over : Rows.BankBandsSaid :=
  OpenClaim.holds_of_wide (p := Tryz.pinned) (s := Rows.bankBandsSpec) (c := Rows.bankBandsRow) 3 Tryz.f3 rfl rfl rfl rfl rfl rfl rfl ⟨rfl, rfl, rfl, rfl, rfl⟩ rfl rfl rfl rfl rfl hfn Tryz.func3 facts hinst hwrap
    (fun os started H enc _ => lifted os started H enc)
end Go.Proofs.YtjddbfpinjjkkabGreatDoor.bankBands
