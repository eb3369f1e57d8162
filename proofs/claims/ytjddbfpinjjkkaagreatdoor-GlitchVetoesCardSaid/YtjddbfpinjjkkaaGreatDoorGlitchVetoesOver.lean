/- The row holds: the call answers true whatever its arguments are, and they read behind it as before. -/
import Derived.Test.YtjddbfpinjjkkaaGreatDoorGlitchVetoesMath11
import Derived.Test.YtjddbfpinjjkkaaGreatDoorGlitchVetoesFacts
import Derived.Test.YtjddbfpinjjkkaaGreatDoorRows
import Derived.WalkKit
import Derived.ProofKit
import Derived.OpenShut
import Derived.LaidMore
import Derived.Stop.Joined
import Derived.Lib.SmallJoins
import Derived.Test.YtjddbfpinjjkkaaGreatDoorEvL21
namespace Go.Proofs.YtjddbfpinjjkkaaGreatDoor.glitchVetoes
open Go.ChangeShapes Go.WideShapes Go.ChangeAt Go.RowKit Go.Joins Go.Ev Go.Ev.GlitchVetoes

set_option linter.unusedVariables false
theorem own : ownKnob Tryz.prog.godebug = none := by kernel_rfl
theorem mixed : Tryz.prog.follows .mixedOrders = true := by kernel_rfl
theorem kids : Kids Tryz.prog (· < Tryz.prog.types.size) := kids_rows (by kernel_rfl) (by kernel_rfl)
theorem full : ∀ t e, t < Tryz.prog.types.size → Tryz.prog.underlying t = some (.slice e) → 0 < Tryz.prog.cellsOf e := slices_full_of Tryz.prog (by kernel_rfl)
theorem within : ∀ t ∈ Tryz.f4.params.toList, t < Tryz.prog.types.size := by
  have h : (Tryz.f4.params.toList.all fun t => decide (t < Tryz.prog.types.size)) = true := by kernel_rfl
  intro t ht
  exact of_decide_eq_true (List.all_eq_true.1 h t ht)

theorem door_met (os : Os) (args : Array Value) : laidMetH Tryz.prog Rows.glitchVetoesRow.laid ((World.doorLaid Tryz.prog 400 os).forCall (fun _ _ => 0) ⟨#[], args, []⟩).memory :=
  laidMetH_of_parts3 (fuel := 8) (laidMet_of_run' 8 (by kernel_rfl) (by kernel_rfl)) (by kernel_rfl) (by kernel_rfl)

set_option maxRecDepth 100000 in
theorem fix_ok {W : World} (h : laidMetH Tryz.prog Rows.glitchVetoesRow.laid W) : FixOK W Go.Proofs.YtjddbfpinjjkkaaGreatDoor.works.fixes := by
  rw [MakeChecks.laidMetH_plain _ _ _ (by kernel_rfl)] at h
  intro x hx
  simp only [Go.Proofs.YtjddbfpinjjkkaaGreatDoor.works.fixes, List.mem_cons, List.not_mem_nil, or_false] at hx
  rcases hx with rfl | rfl | rfl
  · exact laid_tab h (name := "math/bits.deBruijn32tab") (k := .u8) (zs := [0, 1, 28, 2, 29, 14, 24, 3, 30, 22, 20, 15, 25, 17, 4, 8, 31, 27, 13, 23, 21, 19, 16, 7, 26, 12, 18, 6, 11, 5, 10, 9]) (g := 5) (t := 325) (e := 5) (n := 32) (by unfold Rows.glitchVetoesRow; exact .head _) (by kernel_rfl) (by kernel_rfl) (by kernel_rfl) (by kernel_rfl) (by kernel_rfl) (by kernel_rfl) (by simp)
  · exact laid_tab h (name := "math/bits.deBruijn64tab") (k := .u8) (zs := [0, 1, 56, 2, 57, 49, 28, 3, 61, 58, 42, 50, 38, 29, 17, 4, 62, 47, 59, 36, 45, 43, 51, 22, 53, 39, 33, 30, 24, 18, 12, 5, 63, 55, 48, 27, 60, 41, 37, 16, 46, 35, 44, 21, 52, 32, 23, 11, 54, 26, 40, 15, 34, 20, 31, 10, 25, 14, 19, 9, 13, 8, 7, 6]) (g := 2) (t := 297) (e := 5) (n := 64) (by unfold Rows.glitchVetoesRow; exact .tail _ (.head _)) (by kernel_rfl) (by kernel_rfl) (by kernel_rfl) (by kernel_rfl) (by kernel_rfl) (by kernel_rfl) (by simp)
  · exact laid_tab h (name := "internal/strconv.uint64pow10") (k := .u64) (zs := [1, 10, 100, 1000, 10000, 100000, 1000000, 10000000, 100000000, 1000000000, 10000000000, 100000000000, 1000000000000, 10000000000000, 100000000000000, 1000000000000000, 10000000000000000, 100000000000000000, 1000000000000000000, 10000000000000000000]) (g := 4) (t := 322) (e := 203) (n := 20) (by unfold Rows.glitchVetoesRow; exact .tail _ (.tail _ (.head _))) (by kernel_rfl) (by kernel_rfl) (by kernel_rfl) (by kernel_rfl) (by kernel_rfl) (by kernel_rfl) (by simp)

def enc9 (a : (List UInt8)) : List SV := [(.str a)]
theorem cells9 : Tryz.prog.cellsOf 9 = 1 := by kernel_rfl
theorem read9 {H : Type} {enc : TypeId × Value → H} {W : World} {held : Bool} (n : Nat) (cs : List Value) (x : DataW H × List MemPlace) (h : DataW.trod enc Tryz.prog W 0 (fun _ => true) held n 9 cs = some x) : ∃ a : (List UInt8), ∀ m, concs m (enc9 a) = some cs := by
  obtain ⟨a, rfl, _, _⟩ := DataW.trod_string Tryz.underlying9 h
  refine ⟨a.data.toList, fun m => ?_⟩
  show concs m [.str a.data.toList] = _
  simp only [concs, conc, string_self]
  rfl
theorem cells3 : Tryz.prog.cellsOf 3 = 1 := by kernel_rfl
theorem read3 {H : Type} {enc : TypeId × Value → H} {W : World} {held : Bool} (n : Nat) (cs : List Value) (x : DataW H × List MemPlace) (h : DataW.trod enc Tryz.prog W 0 (fun _ => true) held n 3 cs = some x) : ∃ a : Int, ∀ m, concs m (enc3 a) = some cs := by
  obtain ⟨a, rfl, _, _⟩ := DataW.trod_int Tryz.underlying3 h
  exact ⟨a, fun m => rfl⟩
theorem list2 {α : Type} : ∀ {l : List α}, l.length = 2 → ∃ a0 a1, l = [a0, a1]
  | [a0, a1], _ => ⟨a0, a1, rfl⟩
theorem cells37 : Tryz.prog.cellsOf 37 = 2 := by kernel_rfl
theorem read37 {H : Type} {enc : TypeId × Value → H} {W : World} {held : Bool} (n : Nat) (cs : List Value) (x : DataW H × List MemPlace) (h : DataW.trod enc Tryz.prog W 0 (fun _ => true) held n 37 cs = some x) : ∃ a : S_api_Segment, ∀ m, concs m (enc37 a) = some cs := by
  have hlen : cs.length = 2 := (DataW.trod_struct Tryz.underlying37 h).elim fun _ h1 => h1.elim fun _ h2 => h2.2.2.1.trans cells37
  obtain ⟨c0, c1, rfl⟩ := list2 hlen
  obtain ⟨xs, m, _, hx, _, hl, hf⟩ := DataW.trod_struct Tryz.underlying37 h
  obtain ⟨x_0, x_1, rfl⟩ := list2 hl
  have g_0 := hf 0 (⟨ "From", 3, 0, false, "", "", 0⟩) rfl
  simp only [cells3] at g_0
  have g_1 := hf 1 (⟨ "To", 3, 1, false, "", "", 8⟩) rfl
  simp only [cells3] at g_1
  have q_0 : DataW.trod enc Tryz.prog W 0 (fun _ => true) held m 3 [c0] = some x_0 := g_0
  have q_1 : DataW.trod enc Tryz.prog W 0 (fun _ => true) held m 3 [c1] = some x_1 := g_1
  obtain ⟨a_0, ha_0⟩ := read3 _ _ _ q_0
  obtain ⟨a_1, ha_1⟩ := read3 _ _ _ q_1
  exact ⟨⟨a_0, a_1⟩, fun m => concs_append (ha_0 m) (ha_1 m)⟩
theorem cells35 : Tryz.prog.cellsOf 35 = 2 := by kernel_rfl
theorem cells31 : Tryz.prog.cellsOf 31 = 1 := by kernel_rfl
theorem el35 {H : Type} {enc : TypeId × Value → H} {W : World} {held : Bool} (n : Nat) (cs : List Value) (x : DataW H × List MemPlace) (h : DataW.trod enc Tryz.prog W 0 (fun _ => true) held n 35 cs = some x) : ∃ (a : S_api_Veto) (r : ARow) (s : Nat → List SV), ElemArg W 2 rep35 (fun a => a.Segments.length ≤ maxLen) cs a r s := by
  have hlen : cs.length = 2 := (DataW.trod_struct Tryz.underlying35 h).elim fun _ h1 => h1.elim fun _ h2 => h2.2.2.1.trans cells35
  obtain ⟨c0, c1, rfl⟩ := list2 hlen
  obtain ⟨xs, m, _, hx, _, hl, hf⟩ := DataW.trod_struct Tryz.underlying35 h
  obtain ⟨x_0, x_1, rfl⟩ := list2 hl
  have g_0 := hf 0 (⟨ "Name", 9, 0, false, "", "", 0⟩) rfl
  simp only [cells9] at g_0
  have g_1 := hf 1 (⟨ "Segments", 31, 1, false, "", "", 16⟩) rfl
  simp only [cells31] at g_1
  have q_0 : DataW.trod enc Tryz.prog W 0 (fun _ => true) held m 9 [c0] = some x_0 := g_0
  have q_1 : DataW.trod enc Tryz.prog W 0 (fun _ => true) held m 31 [c1] = some x_1 := g_1
  obtain ⟨a_0, ha_0⟩ := read9 _ _ _ q_0
  obtain ⟨l, r, s, ha⟩ := inner_arg (enc := enc37) (z := 2) (fun _ => rfl) (by omega) cells37 ⟨(S_api_Segment.mk (0 : Int) (0 : Int))⟩ Tryz.underlying31 q_1 read37
  exact ⟨⟨a_0, l⟩, r, fun j => [(.str a_0), s j], ⟨ha.row, fun m j hm => (concs_append (ha_0 m) (concs_cons (ha.val m j hm) (concs_nil m))), fun f j hf => ⟨_, rfl, ha.slc f j hf⟩, fun _ => rfl, ha.len⟩⟩
theorem cells40 : Tryz.prog.cellsOf 40 = 2 := by kernel_rfl
theorem arr2 {α : Type} {cs : Array α} (h : cs.size = 2) : ∃ c0 c1, cs = #[c0, c1] := by
  obtain ⟨l⟩ := cs
  match l, h with
  | [c0, c1], _ => exact ⟨c0, c1, rfl⟩
theorem types40 : Tryz.prog.cellTypes Tryz.prog.depth 40 = some [28, 3] := by kernel_rfl
theorem cells28 : Tryz.prog.cellsOf 28 = 1 := by kernel_rfl
/-- Where the run begins: the listed tables, the arguments' rows. -/
noncomputable def rowsB (r1_0 : ARow) (R0 : Nat → List BRow) : List BRow := [none, none, some (true, ⟨2, 0, 64⟩, intCells .u8 [0, 1, 56, 2, 57, 49, 28, 3, 61, 58, 42, 50, 38, 29, 17, 4, 62, 47, 59, 36, 45, 43, 51, 22, 53, 39, 33, 30, 24, 18, 12, 5, 63, 55, 48, 27, 60, 41, 37, 16, 46, 35, 44, 21, 52, 32, 23, 11, 54, 26, 40, 15, 34, 20, 31, 10, 25, 14, 19, 9, 13, 8, 7, 6]), none, some (true, ⟨4, 0, 20⟩, intCells .u64 [1, 10, 100, 1000, 10000, 100000, 1000000, 10000000, 100000000, 1000000000, 10000000000, 100000000000, 1000000000000, 10000000000000, 100000000000000, 1000000000000000, 10000000000000000, 100000000000000000, 1000000000000000000, 10000000000000000000]), some (true, ⟨5, 0, 32⟩, intCells .u8 [0, 1, 28, 2, 29, 14, 24, 3, 30, 22, 20, 15, 25, 17, 4, 8, 31, 27, 13, 23, 21, 19, 16, 7, 26, 12, 18, 6, 11, 5, 10, 9]), argB r1_0] ++ R0 7
theorem relB {W : World} {r1_0 : ARow} {R0 : Nat → List BRow} (hf : FixOK W Go.Proofs.YtjddbfpinjjkkaaGreatDoor.works.fixes) (h1_0 : ∀ x, r1_0 = some x → x.1.block < W.heap.size ∧ ∀ m, RowRel m x.1 none .lost x.2 W.heap[x.1.block]?) (hN : ∀ (i : Nat) (y : Bool × Pl × List SV), (R0 7)[i]? = some (some y) → y.1 = false ∧ y.2.1.block < W.heap.size ∧ ∀ m, AtM m 7 (R0 7) → RowRel m y.2.1 none .lost y.2.2 W.heap[y.2.1.block]?) : MRel W.heap.size (mapB (rowsB r1_0 R0)) (memB (rowsB r1_0 R0)) W := memB_rel3 fun j x hj => by
  unfold rowsB at hj
  rcases j with _ | _ | _ | _ | _ | _ | _ | j
  · simp at hj
  · simp at hj
  · cases (Option.some.inj hj)
    have := fix_row hf (x := (2, intCells .u8 [0, 1, 56, 2, 57, 49, 28, 3, 61, 58, 42, 50, 38, 29, 17, 4, 62, 47, 59, 36, 45, 43, 51, 22, 53, 39, 33, 30, 24, 18, 12, 5, 63, 55, 48, 27, 60, 41, 37, 16, 46, 35, 44, 21, 52, 32, 23, 11, 54, 26, 40, 15, 34, 20, 31, 10, 25, 14, 19, 9, 13, 8, 7, 6])) (.tail _ (.head _))
    exact ⟨this.1, this.2 _, fun _ => ⟨rfl, rfl, rfl⟩⟩
  · simp at hj
  · cases (Option.some.inj hj)
    have := fix_row hf (x := (4, intCells .u64 [1, 10, 100, 1000, 10000, 100000, 1000000, 10000000, 100000000, 1000000000, 10000000000, 100000000000, 1000000000000, 10000000000000, 100000000000000, 1000000000000000, 10000000000000000, 100000000000000000, 1000000000000000000, 10000000000000000000])) (.tail _ (.tail _ (.head _)))
    exact ⟨this.1, this.2 _, fun _ => ⟨rfl, rfl, rfl⟩⟩
  · cases (Option.some.inj hj)
    have := fix_row hf (x := (5, intCells .u8 [0, 1, 28, 2, 29, 14, 24, 3, 30, 22, 20, 15, 25, 17, 4, 8, 31, 27, 13, 23, 21, 19, 16, 7, 26, 12, 18, 6, 11, 5, 10, 9])) (.head _)
    exact ⟨this.1, this.2 _, fun _ => ⟨rfl, rfl, rfl⟩⟩
  · have hj' : argB r1_0 = some x := Option.some.inj hj
    obtain ⟨y, hy, rfl⟩ := Option.map_eq_some_iff.1 hj'
    exact ⟨(h1_0 y hy).1, (h1_0 y hy).2 _, fun h => by simp at h⟩
  · have hj' : (R0 7)[j]? = some (some x) := hj
    obtain ⟨h1, h2, h3⟩ := hN j x hj'
    exact ⟨h2, h3 _ (atM_app (pre := [none, none, some (true, ⟨2, 0, 64⟩, intCells .u8 [0, 1, 56, 2, 57, 49, 28, 3, 61, 58, 42, 50, 38, 29, 17, 4, 62, 47, 59, 36, 45, 43, 51, 22, 53, 39, 33, 30, 24, 18, 12, 5, 63, 55, 48, 27, 60, 41, 37, 16, 46, 35, 44, 21, 52, 32, 23, 11, 54, 26, 40, 15, 34, 20, 31, 10, 25, 14, 19, 9, 13, 8, 7, 6]), none, some (true, ⟨4, 0, 20⟩, intCells .u64 [1, 10, 100, 1000, 10000, 100000, 1000000, 10000000, 100000000, 1000000000, 10000000000, 100000000000, 1000000000000, 10000000000000, 100000000000000, 1000000000000000, 10000000000000000, 100000000000000000, 1000000000000000000, 10000000000000000000]), some (true, ⟨5, 0, 32⟩, intCells .u8 [0, 1, 28, 2, 29, 14, 24, 3, 30, 22, 20, 15, 25, 17, 4, 8, 31, 27, 13, 23, 21, 19, 16, 7, 26, 12, 18, 6, 11, 5, 10, 9]), argB r1_0])), fun h => by rw [h1] at h; simp at h⟩
theorem fixB (r1_0 : ARow) (R0 : Nat → List BRow) : FixIn (memB (rowsB r1_0 R0)) Go.Proofs.YtjddbfpinjjkkaaGreatDoor.works.fixes := fun x hx => by
  simp only [Go.Proofs.YtjddbfpinjjkkaaGreatDoor.works.fixes, List.mem_cons, List.not_mem_nil, or_false] at hx
  rcases hx with rfl | rfl | rfl
  · exact memB_fix (j := 5) (p := ⟨5, 0, 32⟩) rfl
  · exact memB_fix (j := 2) (p := ⟨2, 0, 64⟩) rfl
  · exact memB_fix (j := 4) (p := ⟨4, 0, 20⟩) rfl

set_option maxRecDepth 100000 in
theorem lifted (os : Os) (started : os.Started) (H : Type) (enc : TypeId × Value → H) :
    ReturnsInHanded {} Tryz.checked os 4 .any (fun w args => (Rows.glitchVetoesSpec.pre enc Tryz.prog Tryz.f4 [] false w args ∧ laidMetH Tryz.prog Rows.glitchVetoesRow.laid w) ∧ sizedMet enc Tryz.prog Tryz.f4 (OpenSpec.ofChange Rows.glitchVetoesSpec) false w args)
      (Rows.glitchVetoesSpec.post enc Tryz.prog Tryz.f4 false true false false) := by
  refine returnsInHanded_of_change_and (C := Tryz.checked) (X := fun w _ => laidMetH Tryz.prog Rows.glitchVetoesRow.laid w) (fun _ _ _ hh h => h.of_heap hh) own started (by kernel_rfl) Tryz.func4
    (ChangeSpec.witness_shaped (enc := enc) (C := Tryz.checked) (os := os) (X := fun w _ => laidMetH Tryz.prog Rows.glitchVetoesRow.laid w) false (World.doorLaid Tryz.prog 400 os) #[.slice none 0 0, .agg #[.slice none 0 0, .int .i64 0]] 8 rfl (World.shaped_of_RefB (by kernel_rfl) (by kernel_rfl)) (by kernel_rfl) (by kernel_rfl) (by kernel_rfl) (door_met os _)) ?_
  intro W base args ds gs before hval0 hW _ hsz hL _
  have hval : ∀ (j : Nat) t v, Tryz.f4.params[j]? = some t → args[j]? = some v → Value.okWide Tryz.prog W .any base t v := hval0
  have hW' := hW
  obtain ⟨p, q, hA0, hV, rfl, hfz, hnd⟩ := hW
  have hA : DataW.TrodAll enc Tryz.prog W 0 (fun _ => true) true Tryz.f4.params.toList args.toList ds p := hA0
  have hAk := hA
  rw [Tryz.params4] at hA hval
  obtain ⟨rfl, rfl⟩ := trodVars_none hV
  clear hA0 hval0
  simp only [List.append_nil] at hW'
  obtain ⟨v0, v1, d0, d1, p0, p1, rfl, rfl, rfl, h0, h1⟩ := trodAll_two hA
  have hv0 := hval 0 22 v0 rfl rfl
  have hc0 : Cell.okWide Tryz.prog W .any base 22 v0 := by
    simpa only [Value.okWide, Tryz.underlying22] using hv0
  obtain ⟨n0, h0⟩ := h0
  have hcl0 : v0.cells.toList = [v0] := by
    obtain ⟨a, len, cap, rfl⟩ := okWide_slice Tryz.underlying22 hv0
    rfl
  rw [hcl0] at h0
  obtain ⟨l0, R0, S0, ha0⟩ := arg_nest (R := rep35) (Q := fun a => a.Segments.length ≤ maxLen) (z := 2) cells35 ⟨(S_api_Veto.mk [] [])⟩ Tryz.underlying22 hc0 h0 el35
  have hm0 := ha0.len
  unfold maxLen at hm0
  have hv1 := hval 1 40 v1 rfl rfl
  simp only [Value.okWide, Tryz.underlying40] at hv1
  obtain ⟨cs1, rfl, hsz1, ts1, hts1, _, hall1⟩ := hv1
  rw [types40] at hts1
  cases hts1
  obtain ⟨c1_0, c1_1, rfl⟩ := arr2 (hsz1.trans cells40)
  obtain ⟨n1, h1⟩ := h1
  have g1 : DataW.trod enc Tryz.prog W 0 (fun _ => true) true n1 40 [c1_0, c1_1] = some (d1, p1) := h1
  obtain ⟨xs_1, m_1, _, hx_1, _, hl_1, hf_1⟩ := DataW.trod_struct Tryz.underlying40 g1
  obtain ⟨x_1_0, x_1_1, rfl⟩ := list2 hl_1
  have g_1_0 := hf_1 0 (⟨ "Times", 28, 0, false, "", "", 0⟩) rfl
  simp only [cells28] at g_1_0
  have g_1_1 := hf_1 1 (⟨ "Span", 3, 1, false, "", "", 24⟩) rfl
  simp only [cells3] at g_1_1
  have q_1_0 : DataW.trod enc Tryz.prog W 0 (fun _ => true) true m_1 28 [c1_0] = some x_1_0 := g_1_0
  have q_1_1 : DataW.trod enc Tryz.prog W 0 (fun _ => true) true m_1 3 [c1_1] = some x_1_1 := g_1_1
  have hc1_0 : Cell.okWide Tryz.prog W .any base 28 c1_0 := by
    obtain ⟨u', hu', hx'⟩ := hall1 0 c1_0 rfl
    cases hu'
    exact hx'
  obtain ⟨l1_0, r1_0, k1_0, ha1_0⟩ := arg_slice (enc := enc3) (z := 1) (fun _ => rfl) cells3 ⟨(0 : Int)⟩ Tryz.underlying28 hc1_0 q_1_0 read3
  have hm1_0 := ha1_0.len
  unfold maxLen at hm1_0
  obtain ⟨b1_1, hb1_1⟩ := read3 _ _ _ q_1_1
  have hrel : MRel W.heap.size (mapB (rowsB r1_0 R0)) (memB (rowsB r1_0 R0)) W := relB (fix_ok hL) ha1_0.row (ha0.row 7)
  have m1_0 : ∀ x, r1_0 = some x → mapB (rowsB r1_0 R0) (Pos.ofNat 6) = some x.1 := fun x hx => mapB_at (x := (false, x.1, x.2)) (by rw [hx]; rfl)
  have f1_0 : ∀ x, r1_0 = some x → rd (memB (rowsB r1_0 R0)) (Pos.ofNat 6) = some x.2 := fun x hx => ro_rd (memB_ro (p := x.1) (by rw [hx]; rfl))
  have mN : AtM (mapB (rowsB r1_0 R0)) 7 (R0 7) := atM_app (pre := [none, none, some (true, ⟨2, 0, 64⟩, intCells .u8 [0, 1, 56, 2, 57, 49, 28, 3, 61, 58, 42, 50, 38, 29, 17, 4, 62, 47, 59, 36, 45, 43, 51, 22, 53, 39, 33, 30, 24, 18, 12, 5, 63, 55, 48, 27, 60, 41, 37, 16, 46, 35, 44, 21, 52, 32, 23, 11, 54, 26, 40, 15, 34, 20, 31, 10, 25, 14, 19, 9, 13, 8, 7, 6]), none, some (true, ⟨4, 0, 20⟩, intCells .u64 [1, 10, 100, 1000, 10000, 100000, 1000000, 10000000, 100000000, 1000000000, 10000000000, 100000000000, 1000000000000, 10000000000000, 100000000000000, 1000000000000000, 10000000000000000, 100000000000000000, 1000000000000000000, 10000000000000000000]), some (true, ⟨5, 0, 32⟩, intCells .u8 [0, 1, 28, 2, 29, 14, 24, 3, 30, 22, 20, 15, 25, 17, 4, 8, 31, 27, 13, 23, 21, 19, 16, 7, 26, 12, 18, 6, 11, 5, 10, 9]), argB r1_0])
  have fN : AtF (rd (memB (rowsB r1_0 R0))) 7 (R0 7) := atF_app (pre := [none, none, some (true, ⟨2, 0, 64⟩, intCells .u8 [0, 1, 56, 2, 57, 49, 28, 3, 61, 58, 42, 50, 38, 29, 17, 4, 62, 47, 59, 36, 45, 43, 51, 22, 53, 39, 33, 30, 24, 18, 12, 5, 63, 55, 48, 27, 60, 41, 37, 16, 46, 35, 44, 21, 52, 32, 23, 11, 54, 26, 40, 15, 34, 20, 31, 10, 25, 14, 19, 9, 13, 8, 7, 6]), none, some (true, ⟨4, 0, 20⟩, intCells .u64 [1, 10, 100, 1000, 10000, 100000, 1000000, 10000000, 100000000, 1000000000, 10000000000, 100000000000, 1000000000000, 10000000000000, 100000000000000, 1000000000000000, 10000000000000000, 100000000000000000, 1000000000000000000, 10000000000000000000]), some (true, ⟨5, 0, 32⟩, intCells .u8 [0, 1, 28, 2, 29, 14, 24, 3, 30, 22, 20, 15, 25, 17, 4, 8, 31, 27, 13, 23, 21, 19, 16, 7, 26, 12, 18, 6, 11, 5, 10, 9]), argB r1_0]) fun i y hy => (ha0.row 7 i y hy).1
  have hlaw := law_eq (l0.length + l1_0.length + 1001) l0 ⟨l1_0, b1_1⟩ (by simp only; omega) (by simp only; omega) rfl
  have hrun := law06_GlitchVetoes_run (l0.length + l1_0.length + 1001) l0 ⟨l1_0, b1_1⟩ _ _ true (memB (rowsB r1_0 R0)) (ha0.slc _ 7 fN) (ha1_0.slc _ 6 f1_0) (fixB r1_0 R0) hlaw
  have has : concs (mapB (rowsB r1_0 R0)) [S0 7, .agg [argS r1_0 6 l1_0.length k1_0, (.int .i64 b1_1)]] = some [v0, .agg #[c1_0, c1_1]] := by
    refine concs_cons (ha0.val _ 7 mN) (concs_cons (conc_aggL (concs_append (concs_cons (ha1_0.val _ 6 m1_0) (concs_nil _)) (hb1_1 _))) (concs_nil _))
  have hcalls : Calls Tryz.prog 4 #[v0, .agg #[c1_0, c1_1]] W fun e W' => e = .returned (.bool true) ∧ Below W.heap.size W W' := by
    refine (Run.calls (Q := law06_GlitchVetoes_post true) mixed Tryz.func4 rfl rfl (frozen_rel hrel) (vs := #[v0, .agg #[c1_0, c1_1]]) has hrun).mono fun e W' ⟨m', M', s, x, he, hx, hs, hst⟩ => ?_
    have hs' : s = .bool true := hs
    subst hs'
    have hx' : x = .bool true := by simp [conc] at hx; exact hx.symm
    subst hx'
    exact ⟨he, hst.below⟩
  refine hcalls.mono fun e W' ⟨he, hb⟩ => ?_
  subst he
  exact ⟨_, rfl, _, _, _, [], _, [], hW', trodAll_cons_mk (shut_bool Tryz.underlying4 _) trodAll_mk0, trodAll_below kids full hb within hAk, rfl, hb.frame _, fun h => by cases h⟩

theorem hfn : Tryz.prog.funcNamed Rows.glitchVetoesRow.func = some 4 := by kernel_rfl
theorem hinst : Tryz.f4.isInstance Tryz.prog Rows.glitchVetoesRow.origin Rows.glitchVetoesRow.targs := of_decide_eq_true (by kernel_rfl)
theorem hwrap : Tryz.f4.isWrapper Tryz.prog Rows.glitchVetoesRow.wrapper Rows.glitchVetoesRow.mainSum := by
  unfold Func.isWrapper
  first
    | (rw [if_pos (by decide +kernel)]; kernel_rfl)
    | (rw [if_neg (by decide +kernel)]; exact ⟨rfl, rfl⟩)
set_option maxRecDepth 100000 in
theorem facts : joinedFacts Tryz.prog 4 Tryz.f4 Rows.glitchVetoesSpec Rows.glitchVetoesRow = true := (and2 (and2 (and2 (and2 (and2 (and2 (and2 (and2 (and2 (and2 (and2 (and2 (and2 (and2 (and2 (and2 (and2 (and2 (and2 (and2 (and2 (and2 (and2 (and2 (and2 (and2 (and2 (and2 (and2 (and2 (and2 j0 j1) j2) j3) j4) j5) j6) j7) j8) j9) j10) j11) j12) j13) j14) j15) j16) j17) j18) j19) j20) j21) j22) j23) j24) j25) j26) j27) j28) j29) j30) j31)

theorem over : Rows.GlitchVetoesSaid :=
  OpenClaim.holds_of_wide (p := Tryz.pinned) (s := Rows.glitchVetoesSpec) (c := Rows.glitchVetoesRow) 4 Tryz.f4 rfl rfl rfl rfl rfl rfl rfl ⟨rfl, rfl, rfl, rfl, rfl⟩ rfl rfl rfl rfl rfl hfn Tryz.func4 facts hinst hwrap
    (fun os started H enc _ => lifted os started H enc)
end Go.Proofs.YtjddbfpinjjkkaaGreatDoor.glitchVetoes
