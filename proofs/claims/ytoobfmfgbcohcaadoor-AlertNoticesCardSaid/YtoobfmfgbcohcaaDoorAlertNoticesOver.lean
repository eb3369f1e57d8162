/- The row holds: the call answers true whatever its arguments are, and they read behind it as before. -/
import Derived.Test.YtoobfmfgbcohcaaDoorAlertNoticesMath8
import Derived.Test.YtoobfmfgbcohcaaDoorAlertNoticesFacts
import Derived.Test.YtoobfmfgbcohcaaDoorRows
import Derived.WalkKit
import Derived.ProofKit
import Derived.OpenShut
import Derived.LaidMore
import Derived.Stop.Joined
import Derived.Lib.SmallJoins
import Derived.Test.YtoobfmfgbcohcaaDoorEvL18
namespace Go.Proofs.YtoobfmfgbcohcaaDoor.alertNotices
open Go.ChangeShapes Go.WideShapes Go.ChangeAt Go.RowKit Go.Joins Go.Ev Go.Ev.AlertNotices

set_option linter.unusedVariables false
theorem own : ownKnob Tryd.prog.godebug = none := by kernel_rfl
theorem mixed : Tryd.prog.follows .mixedOrders = true := by kernel_rfl
theorem kids : Kids Tryd.prog (· < Tryd.prog.types.size) := kids_rows (by kernel_rfl) (by kernel_rfl)
theorem full : ∀ t e, t < Tryd.prog.types.size → Tryd.prog.underlying t = some (.slice e) → 0 < Tryd.prog.cellsOf e := slices_full_of Tryd.prog (by kernel_rfl)
theorem within : ∀ t ∈ Tryd.f4.params.toList, t < Tryd.prog.types.size := by
  have h : (Tryd.f4.params.toList.all fun t => decide (t < Tryd.prog.types.size)) = true := by kernel_rfl
  intro t ht
  exact of_decide_eq_true (List.all_eq_true.1 h t ht)

theorem door_met (os : Os) (args : Array Value) : laidMetH Tryd.prog Rows.alertNoticesRow.laid ((World.doorLaid Tryd.prog 400 os).forCall (fun _ _ => 0) ⟨#[], args, []⟩).memory :=
  laidMetH_of_parts3 (fuel := 8) (laidMet_of_run' 8 (by kernel_rfl) (by kernel_rfl)) (by kernel_rfl) (by kernel_rfl)

set_option maxRecDepth 100000 in
theorem fix_ok {W : World} (h : laidMetH Tryd.prog Rows.alertNoticesRow.laid W) : FixOK W Go.Proofs.YtoobfmfgbcohcaaDoor.works.fixes := by
  rw [MakeChecks.laidMetH_plain _ _ _ (by kernel_rfl)] at h
  intro x hx
  simp only [Go.Proofs.YtoobfmfgbcohcaaDoor.works.fixes, List.mem_cons, List.not_mem_nil, or_false] at hx
  rcases hx with rfl | rfl | rfl
  · exact laid_tab h (name := "math/bits.deBruijn32tab") (k := .u8) (zs := [0, 1, 28, 2, 29, 14, 24, 3, 30, 22, 20, 15, 25, 17, 4, 8, 31, 27, 13, 23, 21, 19, 16, 7, 26, 12, 18, 6, 11, 5, 10, 9]) (g := 1) (t := 154) (e := 5) (n := 32) (by unfold Rows.alertNoticesRow; exact .head _) (by kernel_rfl) (by kernel_rfl) (by kernel_rfl) (by kernel_rfl) (by kernel_rfl) (by kernel_rfl) (by simp)
  · exact laid_tab h (name := "math/bits.deBruijn64tab") (k := .u8) (zs := [0, 1, 56, 2, 57, 49, 28, 3, 61, 58, 42, 50, 38, 29, 17, 4, 62, 47, 59, 36, 45, 43, 51, 22, 53, 39, 33, 30, 24, 18, 12, 5, 63, 55, 48, 27, 60, 41, 37, 16, 46, 35, 44, 21, 52, 32, 23, 11, 54, 26, 40, 15, 34, 20, 31, 10, 25, 14, 19, 9, 13, 8, 7, 6]) (g := 2) (t := 155) (e := 5) (n := 64) (by unfold Rows.alertNoticesRow; exact .tail _ (.head _)) (by kernel_rfl) (by kernel_rfl) (by kernel_rfl) (by kernel_rfl) (by kernel_rfl) (by kernel_rfl) (by simp)
  · exact laid_tab h (name := "internal/strconv.uint64pow10") (k := .u64) (zs := [1, 10, 100, 1000, 10000, 100000, 1000000, 10000000, 100000000, 1000000000, 10000000000, 100000000000, 1000000000000, 10000000000000, 100000000000000, 1000000000000000, 10000000000000000, 100000000000000000, 1000000000000000000, 10000000000000000000]) (g := 0) (t := 148) (e := 141) (n := 20) (by unfold Rows.alertNoticesRow; exact .tail _ (.tail _ (.head _))) (by kernel_rfl) (by kernel_rfl) (by kernel_rfl) (by kernel_rfl) (by kernel_rfl) (by kernel_rfl) (by simp)

theorem cells43 : Tryd.prog.cellsOf 43 = 2 := by kernel_rfl
theorem arr2 {α : Type} {cs : Array α} (h : cs.size = 2) : ∃ c0 c1, cs = #[c0, c1] := by
  obtain ⟨l⟩ := cs
  match l, h with
  | [c0, c1], _ => exact ⟨c0, c1, rfl⟩
theorem types43 : Tryd.prog.cellTypes Tryd.prog.depth 43 = some [41, 3] := by kernel_rfl
theorem list2 {α : Type} : ∀ {l : List α}, l.length = 2 → ∃ a0 a1, l = [a0, a1]
  | [a0, a1], _ => ⟨a0, a1, rfl⟩
theorem cells41 : Tryd.prog.cellsOf 41 = 1 := by kernel_rfl
theorem cells3 : Tryd.prog.cellsOf 3 = 1 := by kernel_rfl
theorem read3 {H : Type} {enc : TypeId × Value → H} {W : World} {held : Bool} (n : Nat) (cs : List Value) (x : DataW H × List MemPlace) (h : DataW.trod enc Tryd.prog W 0 (fun _ => true) held n 3 cs = some x) : ∃ a : Int, ∀ m, concs m (enc3 a) = some cs := by
  obtain ⟨a, rfl, _, _⟩ := DataW.trod_int Tryd.underlying3 h
  exact ⟨a, fun m => rfl⟩
theorem cells24 : Tryd.prog.cellsOf 24 = 2 := by kernel_rfl
theorem read24 {H : Type} {enc : TypeId × Value → H} {W : World} {held : Bool} (n : Nat) (cs : List Value) (x : DataW H × List MemPlace) (h : DataW.trod enc Tryd.prog W 0 (fun _ => true) held n 24 cs = some x) : ∃ a : S_api_Key, ∀ m, concs m (enc24 a) = some cs := by
  have hlen : cs.length = 2 := (DataW.trod_struct Tryd.underlying24 h).elim fun _ h1 => h1.elim fun _ h2 => h2.2.2.1.trans cells24
  obtain ⟨c0, c1, rfl⟩ := list2 hlen
  obtain ⟨xs, m, _, hx, _, hl, hf⟩ := DataW.trod_struct Tryd.underlying24 h
  obtain ⟨x_0, x_1, rfl⟩ := list2 hl
  have g_0 := hf 0 (⟨ "Modulus", 3, 0, false, "", "", 0⟩) rfl
  simp only [cells3] at g_0
  have g_1 := hf 1 (⟨ "Exponent", 3, 1, false, "", "", 8⟩) rfl
  simp only [cells3] at g_1
  have q_0 : DataW.trod enc Tryd.prog W 0 (fun _ => true) held m 3 [c0] = some x_0 := g_0
  have q_1 : DataW.trod enc Tryd.prog W 0 (fun _ => true) held m 3 [c1] = some x_1 := g_1
  obtain ⟨a_0, ha_0⟩ := read3 _ _ _ q_0
  obtain ⟨a_1, ha_1⟩ := read3 _ _ _ q_1
  exact ⟨⟨a_0, a_1⟩, fun m => concs_append (ha_0 m) (ha_1 m)⟩
theorem cells46 : Tryd.prog.cellsOf 46 = 10 := by kernel_rfl
theorem arr10 {α : Type} {cs : Array α} (h : cs.size = 10) : ∃ c0 c1 c2 c3 c4 c5 c6 c7 c8 c9, cs = #[c0, c1, c2, c3, c4, c5, c6, c7, c8, c9] := by
  obtain ⟨l⟩ := cs
  match l, h with
  | [c0, c1, c2, c3, c4, c5, c6, c7, c8, c9], _ => exact ⟨c0, c1, c2, c3, c4, c5, c6, c7, c8, c9, rfl⟩
theorem types46 : Tryd.prog.cellTypes Tryd.prog.depth 46 = some [9, 3, 3, 3, 3, 3, 27, 4, 3, 44] := by kernel_rfl
theorem cells29 : Tryd.prog.cellsOf 29 = 9 := by kernel_rfl
theorem cells44 : Tryd.prog.cellsOf 44 = 1 := by kernel_rfl
theorem list8 {α : Type} : ∀ {l : List α}, l.length = 8 → ∃ a0 a1 a2 a3 a4 a5 a6 a7, l = [a0, a1, a2, a3, a4, a5, a6, a7]
  | [a0, a1, a2, a3, a4, a5, a6, a7], _ => ⟨a0, a1, a2, a3, a4, a5, a6, a7, rfl⟩
theorem cells9 : Tryd.prog.cellsOf 9 = 1 := by kernel_rfl
theorem cells26 : Tryd.prog.cellsOf 26 = 2 := by kernel_rfl
theorem cells27 : Tryd.prog.cellsOf 27 = 1 := by kernel_rfl
theorem cells4 : Tryd.prog.cellsOf 4 = 1 := by kernel_rfl
def enc9 (a : (List UInt8)) : List SV := [(.str a)]
theorem read9 {H : Type} {enc : TypeId × Value → H} {W : World} {held : Bool} (n : Nat) (cs : List Value) (x : DataW H × List MemPlace) (h : DataW.trod enc Tryd.prog W 0 (fun _ => true) held n 9 cs = some x) : ∃ a : (List UInt8), ∀ m, concs m (enc9 a) = some cs := by
  obtain ⟨a, rfl, _, _⟩ := DataW.trod_string Tryd.underlying9 h
  refine ⟨a.data.toList, fun m => ?_⟩
  show concs m [.str a.data.toList] = _
  simp only [concs, conc, string_self]
  rfl
def enc26 (a : S_api_Chance) : List SV := [(.int .i64 a.N), (.int .i64 a.Of)]
theorem read26 {H : Type} {enc : TypeId × Value → H} {W : World} {held : Bool} (n : Nat) (cs : List Value) (x : DataW H × List MemPlace) (h : DataW.trod enc Tryd.prog W 0 (fun _ => true) held n 26 cs = some x) : ∃ a : S_api_Chance, ∀ m, concs m (enc26 a) = some cs := by
  have hlen : cs.length = 2 := (DataW.trod_struct Tryd.underlying26 h).elim fun _ h1 => h1.elim fun _ h2 => h2.2.2.1.trans cells26
  obtain ⟨c0, c1, rfl⟩ := list2 hlen
  obtain ⟨xs, m, _, hx, _, hl, hf⟩ := DataW.trod_struct Tryd.underlying26 h
  obtain ⟨x_0, x_1, rfl⟩ := list2 hl
  have g_0 := hf 0 (⟨ "N", 3, 0, false, "", "", 0⟩) rfl
  simp only [cells3] at g_0
  have g_1 := hf 1 (⟨ "Of", 3, 1, false, "", "", 8⟩) rfl
  simp only [cells3] at g_1
  have q_0 : DataW.trod enc Tryd.prog W 0 (fun _ => true) held m 3 [c0] = some x_0 := g_0
  have q_1 : DataW.trod enc Tryd.prog W 0 (fun _ => true) held m 3 [c1] = some x_1 := g_1
  obtain ⟨a_0, ha_0⟩ := read3 _ _ _ q_0
  obtain ⟨a_1, ha_1⟩ := read3 _ _ _ q_1
  exact ⟨⟨a_0, a_1⟩, fun m => concs_append (ha_0 m) (ha_1 m)⟩
def enc4 (a : Bool) : List SV := [(.bool a)]
theorem read4 {H : Type} {enc : TypeId × Value → H} {W : World} {held : Bool} (n : Nat) (cs : List Value) (x : DataW H × List MemPlace) (h : DataW.trod enc Tryd.prog W 0 (fun _ => true) held n 4 cs = some x) : ∃ a : Bool, ∀ m, concs m (enc4 a) = some cs := by
  obtain ⟨a, rfl, _⟩ := DataW.trod_bool Tryd.underlying4 h
  exact ⟨a, fun m => rfl⟩
theorem cells111 : Tryd.prog.cellsOf 111 = 2 := by kernel_rfl
theorem read111 {H : Type} {enc : TypeId × Value → H} {W : World} {held : Bool} (n : Nat) (cs : List Value) (x : DataW H × List MemPlace) (h : DataW.trod enc Tryd.prog W 0 (fun _ => true) held n 111 cs = some x) : ∃ a : S_api_Signature, ∀ m, concs m (enc111 a) = some cs := by
  have hlen : cs.length = 2 := (DataW.trod_struct Tryd.underlying111 h).elim fun _ h1 => h1.elim fun _ h2 => h2.2.2.1.trans cells111
  obtain ⟨c0, c1, rfl⟩ := list2 hlen
  obtain ⟨xs, m, _, hx, _, hl, hf⟩ := DataW.trod_struct Tryd.underlying111 h
  obtain ⟨x_0, x_1, rfl⟩ := list2 hl
  have g_0 := hf 0 (⟨ "Signer", 3, 0, false, "", "", 0⟩) rfl
  simp only [cells3] at g_0
  have g_1 := hf 1 (⟨ "Number", 3, 1, false, "", "", 8⟩) rfl
  simp only [cells3] at g_1
  have q_0 : DataW.trod enc Tryd.prog W 0 (fun _ => true) held m 3 [c0] = some x_0 := g_0
  have q_1 : DataW.trod enc Tryd.prog W 0 (fun _ => true) held m 3 [c1] = some x_1 := g_1
  obtain ⟨a_0, ha_0⟩ := read3 _ _ _ q_0
  obtain ⟨a_1, ha_1⟩ := read3 _ _ _ q_1
  exact ⟨⟨a_0, a_1⟩, fun m => concs_append (ha_0 m) (ha_1 m)⟩
/-- Where the run begins: the listed tables, the arguments' rows. -/
noncomputable def rowsB (r0_0 : ARow) (r1_0_5 : ARow) (r1_1 : ARow) : List BRow := [some (true, ⟨0, 0, 20⟩, intCells .u64 [1, 10, 100, 1000, 10000, 100000, 1000000, 10000000, 100000000, 1000000000, 10000000000, 100000000000, 1000000000000, 10000000000000, 100000000000000, 1000000000000000, 10000000000000000, 100000000000000000, 1000000000000000000, 10000000000000000000]), some (true, ⟨1, 0, 32⟩, intCells .u8 [0, 1, 28, 2, 29, 14, 24, 3, 30, 22, 20, 15, 25, 17, 4, 8, 31, 27, 13, 23, 21, 19, 16, 7, 26, 12, 18, 6, 11, 5, 10, 9]), some (true, ⟨2, 0, 64⟩, intCells .u8 [0, 1, 56, 2, 57, 49, 28, 3, 61, 58, 42, 50, 38, 29, 17, 4, 62, 47, 59, 36, 45, 43, 51, 22, 53, 39, 33, 30, 24, 18, 12, 5, 63, 55, 48, 27, 60, 41, 37, 16, 46, 35, 44, 21, 52, 32, 23, 11, 54, 26, 40, 15, 34, 20, 31, 10, 25, 14, 19, 9, 13, 8, 7, 6]), argB r0_0, argB r1_0_5, argB r1_1]
theorem relB {W : World} {r0_0 : ARow} {r1_0_5 : ARow} {r1_1 : ARow} (hf : FixOK W Go.Proofs.YtoobfmfgbcohcaaDoor.works.fixes) (h0_0 : ∀ x, r0_0 = some x → x.1.block < W.heap.size ∧ ∀ m, RowRel m x.1 none .lost x.2 W.heap[x.1.block]?) (h1_0_5 : ∀ x, r1_0_5 = some x → x.1.block < W.heap.size ∧ ∀ m, RowRel m x.1 none .lost x.2 W.heap[x.1.block]?) (h1_1 : ∀ x, r1_1 = some x → x.1.block < W.heap.size ∧ ∀ m, RowRel m x.1 none .lost x.2 W.heap[x.1.block]?) : MRel W.heap.size (mapB (rowsB r0_0 r1_0_5 r1_1)) (memB (rowsB r0_0 r1_0_5 r1_1)) W := memB_rel3 fun j x hj => by
  unfold rowsB at hj
  rcases j with _ | _ | _ | _ | _ | _ | j
  · cases (Option.some.inj hj)
    have := fix_row hf (x := (0, intCells .u64 [1, 10, 100, 1000, 10000, 100000, 1000000, 10000000, 100000000, 1000000000, 10000000000, 100000000000, 1000000000000, 10000000000000, 100000000000000, 1000000000000000, 10000000000000000, 100000000000000000, 1000000000000000000, 10000000000000000000])) (.tail _ (.tail _ (.head _)))
    exact ⟨this.1, this.2 _, fun _ => ⟨rfl, rfl, rfl⟩⟩
  · cases (Option.some.inj hj)
    have := fix_row hf (x := (1, intCells .u8 [0, 1, 28, 2, 29, 14, 24, 3, 30, 22, 20, 15, 25, 17, 4, 8, 31, 27, 13, 23, 21, 19, 16, 7, 26, 12, 18, 6, 11, 5, 10, 9])) (.head _)
    exact ⟨this.1, this.2 _, fun _ => ⟨rfl, rfl, rfl⟩⟩
  · cases (Option.some.inj hj)
    have := fix_row hf (x := (2, intCells .u8 [0, 1, 56, 2, 57, 49, 28, 3, 61, 58, 42, 50, 38, 29, 17, 4, 62, 47, 59, 36, 45, 43, 51, 22, 53, 39, 33, 30, 24, 18, 12, 5, 63, 55, 48, 27, 60, 41, 37, 16, 46, 35, 44, 21, 52, 32, 23, 11, 54, 26, 40, 15, 34, 20, 31, 10, 25, 14, 19, 9, 13, 8, 7, 6])) (.tail _ (.head _))
    exact ⟨this.1, this.2 _, fun _ => ⟨rfl, rfl, rfl⟩⟩
  · have hj' : argB r0_0 = some x := Option.some.inj hj
    obtain ⟨y, hy, rfl⟩ := Option.map_eq_some_iff.1 hj'
    exact ⟨(h0_0 y hy).1, (h0_0 y hy).2 _, fun h => by simp at h⟩
  · have hj' : argB r1_0_5 = some x := Option.some.inj hj
    obtain ⟨y, hy, rfl⟩ := Option.map_eq_some_iff.1 hj'
    exact ⟨(h1_0_5 y hy).1, (h1_0_5 y hy).2 _, fun h => by simp at h⟩
  · have hj' : argB r1_1 = some x := Option.some.inj hj
    obtain ⟨y, hy, rfl⟩ := Option.map_eq_some_iff.1 hj'
    exact ⟨(h1_1 y hy).1, (h1_1 y hy).2 _, fun h => by simp at h⟩
  · simp at hj
theorem fixB (r0_0 : ARow) (r1_0_5 : ARow) (r1_1 : ARow) : FixIn (memB (rowsB r0_0 r1_0_5 r1_1)) Go.Proofs.YtoobfmfgbcohcaaDoor.works.fixes := fun x hx => by
  simp only [Go.Proofs.YtoobfmfgbcohcaaDoor.works.fixes, List.mem_cons, List.not_mem_nil, or_false] at hx
  rcases hx with rfl | rfl | rfl
  · exact memB_fix (j := 1) (p := ⟨1, 0, 32⟩) rfl
  · exact memB_fix (j := 2) (p := ⟨2, 0, 64⟩) rfl
  · exact memB_fix (j := 0) (p := ⟨0, 0, 20⟩) rfl

set_option maxRecDepth 100000 in
theorem lifted (os : Os) (started : os.Started) (H : Type) (enc : TypeId × Value → H) :
    ReturnsInHanded {} Tryd.checked os 4 .any (fun w args => (Rows.alertNoticesSpec.pre enc Tryd.prog Tryd.f4 [] false w args ∧ laidMetH Tryd.prog Rows.alertNoticesRow.laid w) ∧ sizedMet enc Tryd.prog Tryd.f4 (OpenSpec.ofChange Rows.alertNoticesSpec) false w args)
      (Rows.alertNoticesSpec.post enc Tryd.prog Tryd.f4 false true false false) := by
  refine returnsInHanded_of_change_and (C := Tryd.checked) (X := fun w _ => laidMetH Tryd.prog Rows.alertNoticesRow.laid w) (fun _ _ _ hh h => h.of_heap hh) own started (by kernel_rfl) Tryd.func4
    (ChangeSpec.witness_shaped (enc := enc) (C := Tryd.checked) (os := os) (X := fun w _ => laidMetH Tryd.prog Rows.alertNoticesRow.laid w) false (World.doorLaid Tryd.prog 400 os) #[.agg #[.slice none 0 0, .int .i64 0], .agg #[.string ⟨#[]⟩, .int .i64 0, .int .i64 0, .int .i64 0, .int .i64 0, .int .i64 0, .slice none 0 0, .bool false, .int .i64 0, .slice none 0 0]] 8 rfl (World.shaped_of_RefB (by kernel_rfl) (by kernel_rfl)) (by kernel_rfl) (by kernel_rfl) (by kernel_rfl) (door_met os _)) ?_
  intro W base args ds gs before hval0 hW _ hsz hL _
  have hval : ∀ (j : Nat) t v, Tryd.f4.params[j]? = some t → args[j]? = some v → Value.okWide Tryd.prog W .any base t v := hval0
  have hW' := hW
  obtain ⟨p, q, hA0, hV, rfl, hfz, hnd⟩ := hW
  have hA : DataW.TrodAll enc Tryd.prog W 0 (fun _ => true) true Tryd.f4.params.toList args.toList ds p := hA0
  have hAk := hA
  rw [Tryd.params4] at hA hval
  obtain ⟨rfl, rfl⟩ := trodVars_none hV
  clear hA0 hval0
  simp only [List.append_nil] at hW'
  obtain ⟨v0, v1, d0, d1, p0, p1, rfl, rfl, rfl, h0, h1⟩ := trodAll_two hA
  have hv0 := hval 0 43 v0 rfl rfl
  simp only [Value.okWide, Tryd.underlying43] at hv0
  obtain ⟨cs0, rfl, hsz0, ts0, hts0, _, hall0⟩ := hv0
  rw [types43] at hts0
  cases hts0
  obtain ⟨c0_0, c0_1, rfl⟩ := arr2 (hsz0.trans cells43)
  obtain ⟨n0, h0⟩ := h0
  have g0 : DataW.trod enc Tryd.prog W 0 (fun _ => true) true n0 43 [c0_0, c0_1] = some (d0, p0) := h0
  obtain ⟨xs_0, m_0, _, hx_0, _, hl_0, hf_0⟩ := DataW.trod_struct Tryd.underlying43 g0
  obtain ⟨x_0_0, x_0_1, rfl⟩ := list2 hl_0
  have g_0_0 := hf_0 0 (⟨ "Keys", 41, 0, false, "", "", 0⟩) rfl
  simp only [cells41] at g_0_0
  have g_0_1 := hf_0 1 (⟨ "Quorum", 3, 1, false, "", "", 24⟩) rfl
  simp only [cells3] at g_0_1
  have q_0_0 : DataW.trod enc Tryd.prog W 0 (fun _ => true) true m_0 41 [c0_0] = some x_0_0 := g_0_0
  have q_0_1 : DataW.trod enc Tryd.prog W 0 (fun _ => true) true m_0 3 [c0_1] = some x_0_1 := g_0_1
  have hc0_0 : Cell.okWide Tryd.prog W .any base 41 c0_0 := by
    obtain ⟨u', hu', hx'⟩ := hall0 0 c0_0 rfl
    cases hu'
    exact hx'
  obtain ⟨l0_0, r0_0, k0_0, ha0_0⟩ := arg_slice (enc := enc24) (z := 2) (fun _ => rfl) cells24 ⟨(S_api_Key.mk (0 : Int) (0 : Int))⟩ Tryd.underlying41 hc0_0 q_0_0 read24
  have hm0_0 := ha0_0.len
  unfold maxLen at hm0_0
  obtain ⟨b0_1, hb0_1⟩ := read3 _ _ _ q_0_1
  have hv1 := hval 1 46 v1 rfl rfl
  simp only [Value.okWide, Tryd.underlying46] at hv1
  obtain ⟨cs1, rfl, hsz1, ts1, hts1, _, hall1⟩ := hv1
  rw [types46] at hts1
  cases hts1
  obtain ⟨c1_0, c1_1, c1_2, c1_3, c1_4, c1_5, c1_6, c1_7, c1_8, c1_9, rfl⟩ := arr10 (hsz1.trans cells46)
  obtain ⟨n1, h1⟩ := h1
  have g1 : DataW.trod enc Tryd.prog W 0 (fun _ => true) true n1 46 [c1_0, c1_1, c1_2, c1_3, c1_4, c1_5, c1_6, c1_7, c1_8, c1_9] = some (d1, p1) := h1
  obtain ⟨xs_1, m_1, _, hx_1, _, hl_1, hf_1⟩ := DataW.trod_struct Tryd.underlying46 g1
  obtain ⟨x_1_0, x_1_1, rfl⟩ := list2 hl_1
  have g_1_0 := hf_1 0 (⟨ "Alert", 29, 0, false, "", "", 0⟩) rfl
  simp only [cells29] at g_1_0
  have g_1_1 := hf_1 1 (⟨ "Signatures", 44, 9, false, "", "", 96⟩) rfl
  simp only [cells44] at g_1_1
  have q_1_0 : DataW.trod enc Tryd.prog W 0 (fun _ => true) true m_1 29 [c1_0, c1_1, c1_2, c1_3, c1_4, c1_5, c1_6, c1_7, c1_8] = some x_1_0 := g_1_0
  have q_1_1 : DataW.trod enc Tryd.prog W 0 (fun _ => true) true m_1 44 [c1_9] = some x_1_1 := g_1_1
  obtain ⟨xs_1_0, m_1_0, _, hx_1_0, _, hl_1_0, hf_1_0⟩ := DataW.trod_struct Tryd.underlying29 q_1_0
  obtain ⟨x_1_0_0, x_1_0_1, x_1_0_2, x_1_0_3, x_1_0_4, x_1_0_5, x_1_0_6, x_1_0_7, rfl⟩ := list8 hl_1_0
  have g_1_0_0 := hf_1_0 0 (⟨ "Event", 9, 0, false, "", "", 0⟩) rfl
  simp only [cells9] at g_1_0_0
  have g_1_0_1 := hf_1_0 1 (⟨ "Version", 3, 1, false, "", "", 16⟩) rfl
  simp only [cells3] at g_1_0_1
  have g_1_0_2 := hf_1_0 2 (⟨ "Time", 3, 2, false, "", "", 24⟩) rfl
  simp only [cells3] at g_1_0_2
  have g_1_0_3 := hf_1_0 3 (⟨ "Chance", 26, 3, false, "", "", 32⟩) rfl
  simp only [cells26] at g_1_0_3
  have g_1_0_4 := hf_1_0 4 (⟨ "Grid", 3, 5, false, "", "", 48⟩) rfl
  simp only [cells3] at g_1_0_4
  have g_1_0_5 := hf_1_0 5 (⟨ "Cells", 27, 6, false, "", "", 56⟩) rfl
  simp only [cells27] at g_1_0_5
  have g_1_0_6 := hf_1_0 6 (⟨ "Withdrawn", 4, 7, false, "", "", 80⟩) rfl
  simp only [cells4] at g_1_0_6
  have g_1_0_7 := hf_1_0 7 (⟨ "Before", 3, 8, false, "", "", 88⟩) rfl
  simp only [cells3] at g_1_0_7
  have q_1_0_0 : DataW.trod enc Tryd.prog W 0 (fun _ => true) true m_1_0 9 [c1_0] = some x_1_0_0 := g_1_0_0
  have q_1_0_1 : DataW.trod enc Tryd.prog W 0 (fun _ => true) true m_1_0 3 [c1_1] = some x_1_0_1 := g_1_0_1
  have q_1_0_2 : DataW.trod enc Tryd.prog W 0 (fun _ => true) true m_1_0 3 [c1_2] = some x_1_0_2 := g_1_0_2
  have q_1_0_3 : DataW.trod enc Tryd.prog W 0 (fun _ => true) true m_1_0 26 [c1_3, c1_4] = some x_1_0_3 := g_1_0_3
  have q_1_0_4 : DataW.trod enc Tryd.prog W 0 (fun _ => true) true m_1_0 3 [c1_5] = some x_1_0_4 := g_1_0_4
  have q_1_0_5 : DataW.trod enc Tryd.prog W 0 (fun _ => true) true m_1_0 27 [c1_6] = some x_1_0_5 := g_1_0_5
  have q_1_0_6 : DataW.trod enc Tryd.prog W 0 (fun _ => true) true m_1_0 4 [c1_7] = some x_1_0_6 := g_1_0_6
  have q_1_0_7 : DataW.trod enc Tryd.prog W 0 (fun _ => true) true m_1_0 3 [c1_8] = some x_1_0_7 := g_1_0_7
  obtain ⟨b1_0_0, hb1_0_0⟩ := read9 _ _ _ q_1_0_0
  obtain ⟨b1_0_1, hb1_0_1⟩ := read3 _ _ _ q_1_0_1
  obtain ⟨b1_0_2, hb1_0_2⟩ := read3 _ _ _ q_1_0_2
  obtain ⟨b1_0_3, hb1_0_3⟩ := read26 _ _ _ q_1_0_3
  obtain ⟨b1_0_4, hb1_0_4⟩ := read3 _ _ _ q_1_0_4
  have hc1_0_5 : Cell.okWide Tryd.prog W .any base 27 c1_6 := by
    obtain ⟨u', hu', hx'⟩ := hall1 6 c1_6 rfl
    cases hu'
    exact hx'
  obtain ⟨l1_0_5, r1_0_5, k1_0_5, ha1_0_5⟩ := arg_slice (enc := enc3) (z := 1) (fun _ => rfl) cells3 ⟨(0 : Int)⟩ Tryd.underlying27 hc1_0_5 q_1_0_5 read3
  have hm1_0_5 := ha1_0_5.len
  unfold maxLen at hm1_0_5
  obtain ⟨b1_0_6, hb1_0_6⟩ := read4 _ _ _ q_1_0_6
  obtain ⟨b1_0_7, hb1_0_7⟩ := read3 _ _ _ q_1_0_7
  have hc1_1 : Cell.okWide Tryd.prog W .any base 44 c1_9 := by
    obtain ⟨u', hu', hx'⟩ := hall1 9 c1_9 rfl
    cases hu'
    exact hx'
  obtain ⟨l1_1, r1_1, k1_1, ha1_1⟩ := arg_slice (enc := enc111) (z := 2) (fun _ => rfl) cells111 ⟨(S_api_Signature.mk (0 : Int) (0 : Int))⟩ Tryd.underlying44 hc1_1 q_1_1 read111
  have hm1_1 := ha1_1.len
  unfold maxLen at hm1_1
  have hrel : MRel W.heap.size (mapB (rowsB r0_0 r1_0_5 r1_1)) (memB (rowsB r0_0 r1_0_5 r1_1)) W := relB (fix_ok hL) ha0_0.row ha1_0_5.row ha1_1.row
  have m0_0 : ∀ x, r0_0 = some x → mapB (rowsB r0_0 r1_0_5 r1_1) (Pos.ofNat 3) = some x.1 := fun x hx => mapB_at (x := (false, x.1, x.2)) (by rw [hx]; rfl)
  have f0_0 : ∀ x, r0_0 = some x → rd (memB (rowsB r0_0 r1_0_5 r1_1)) (Pos.ofNat 3) = some x.2 := fun x hx => ro_rd (memB_ro (p := x.1) (by rw [hx]; rfl))
  have m1_0_5 : ∀ x, r1_0_5 = some x → mapB (rowsB r0_0 r1_0_5 r1_1) (Pos.ofNat 4) = some x.1 := fun x hx => mapB_at (x := (false, x.1, x.2)) (by rw [hx]; rfl)
  have f1_0_5 : ∀ x, r1_0_5 = some x → rd (memB (rowsB r0_0 r1_0_5 r1_1)) (Pos.ofNat 4) = some x.2 := fun x hx => ro_rd (memB_ro (p := x.1) (by rw [hx]; rfl))
  have m1_1 : ∀ x, r1_1 = some x → mapB (rowsB r0_0 r1_0_5 r1_1) (Pos.ofNat 5) = some x.1 := fun x hx => mapB_at (x := (false, x.1, x.2)) (by rw [hx]; rfl)
  have f1_1 : ∀ x, r1_1 = some x → rd (memB (rowsB r0_0 r1_0_5 r1_1)) (Pos.ofNat 5) = some x.2 := fun x hx => ro_rd (memB_ro (p := x.1) (by rw [hx]; rfl))
  have hlaw := law_eq (l0_0.length + l1_0_5.length + l1_1.length + 70100) ⟨l0_0, b0_1⟩ ⟨⟨b1_0_0, b1_0_1, b1_0_2, b1_0_3, b1_0_4, l1_0_5, b1_0_6, b1_0_7⟩, l1_1⟩ (by simp only; omega) (by simp only; omega) (by simp only; omega) (by simp only; omega) (by simp only; omega) (by simp only; omega) rfl
  have hrun := law10_AlertNotices_run (l0_0.length + l1_0_5.length + l1_1.length + 70100) ⟨l0_0, b0_1⟩ ⟨⟨b1_0_0, b1_0_1, b1_0_2, b1_0_3, b1_0_4, l1_0_5, b1_0_6, b1_0_7⟩, l1_1⟩ _ _ _ true (memB (rowsB r0_0 r1_0_5 r1_1)) (ha0_0.slc _ 3 f0_0) (ha1_0_5.slc _ 4 f1_0_5) (ha1_1.slc _ 5 f1_1) (fixB r0_0 r1_0_5 r1_1) hlaw
  have has : concs (mapB (rowsB r0_0 r1_0_5 r1_1)) [.agg [argS r0_0 3 l0_0.length k0_0, (.int .i64 b0_1)], .agg [(.str b1_0_0), (.int .i64 b1_0_1), (.int .i64 b1_0_2), (.int .i64 b1_0_3.N), (.int .i64 b1_0_3.Of), (.int .i64 b1_0_4), argS r1_0_5 4 l1_0_5.length k1_0_5, (.bool b1_0_6), (.int .i64 b1_0_7), argS r1_1 5 l1_1.length k1_1]] = some [.agg #[c0_0, c0_1], .agg #[c1_0, c1_1, c1_2, c1_3, c1_4, c1_5, c1_6, c1_7, c1_8, c1_9]] := by
    refine concs_cons (conc_aggL (concs_append (concs_cons (ha0_0.val _ 3 m0_0) (concs_nil _)) (hb0_1 _))) (concs_cons (conc_aggL (concs_append (concs_append (hb1_0_0 _) (concs_append (hb1_0_1 _) (concs_append (hb1_0_2 _) (concs_append (hb1_0_3 _) (concs_append (hb1_0_4 _) (concs_append (concs_cons (ha1_0_5.val _ 4 m1_0_5) (concs_nil _)) (concs_append (hb1_0_6 _) (hb1_0_7 _)))))))) (concs_cons (ha1_1.val _ 5 m1_1) (concs_nil _)))) (concs_nil _))
  have hcalls : Calls Tryd.prog 4 #[.agg #[c0_0, c0_1], .agg #[c1_0, c1_1, c1_2, c1_3, c1_4, c1_5, c1_6, c1_7, c1_8, c1_9]] W fun e W' => e = .returned (.bool true) ∧ Below W.heap.size W W' := by
    refine (Run.calls (Q := law10_AlertNotices_post true) mixed Tryd.func4 rfl rfl (frozen_rel hrel) (vs := #[.agg #[c0_0, c0_1], .agg #[c1_0, c1_1, c1_2, c1_3, c1_4, c1_5, c1_6, c1_7, c1_8, c1_9]]) has hrun).mono fun e W' ⟨m', M', s, x, he, hx, hs, hst⟩ => ?_
    have hs' : s = .bool true := hs
    subst hs'
    have hx' : x = .bool true := by simp [conc] at hx; exact hx.symm
    subst hx'
    exact ⟨he, hst.below⟩
  refine hcalls.mono fun e W' ⟨he, hb⟩ => ?_
  subst he
  exact ⟨_, rfl, _, _, _, [], _, [], hW', trodAll_cons_mk (shut_bool Tryd.underlying4 _) trodAll_mk0, trodAll_below kids full hb within hAk, rfl, hb.frame _, fun h => by cases h⟩

theorem hfn : Tryd.prog.funcNamed Rows.alertNoticesRow.func = some 4 := by kernel_rfl
theorem hinst : Tryd.f4.isInstance Tryd.prog Rows.alertNoticesRow.origin Rows.alertNoticesRow.targs := of_decide_eq_true (by kernel_rfl)
theorem hwrap : Tryd.f4.isWrapper Tryd.prog Rows.alertNoticesRow.wrapper Rows.alertNoticesRow.mainSum := by
  unfold Func.isWrapper
  first
    | (rw [if_pos (by decide +kernel)]; kernel_rfl)
    | (rw [if_neg (by decide +kernel)]; exact ⟨rfl, rfl⟩)
set_option maxRecDepth 100000 in
theorem facts : joinedFacts Tryd.prog 4 Tryd.f4 Rows.alertNoticesSpec Rows.alertNoticesRow = true := (and2 (and2 (and2 (and2 (and2 (and2 (and2 (and2 (and2 (and2 (and2 (and2 (and2 (and2 (and2 (and2 (and2 (and2 (and2 (and2 (and2 (and2 (and2 (and2 (and2 (and2 (and2 (and2 (and2 (and2 (and2 j0 j1) j2) j3) j4) j5) j6) j7) j8) j9) j10) j11) j12) j13) j14) j15) j16) j17) j18) j19) j20) j21) j22) j23) j24) j25) j26) j27) j28) j29) j30) j31)

theorem over : Rows.AlertNoticesSaid :=
  OpenClaim.holds_of_wide (p := Tryd.pinned) (s := Rows.alertNoticesSpec) (c := Rows.alertNoticesRow) 4 Tryd.f4 rfl rfl rfl rfl rfl rfl rfl ⟨rfl, rfl, rfl, rfl, rfl⟩ rfl rfl rfl rfl rfl hfn Tryd.func4 facts hinst hwrap
    (fun os started H enc _ => lifted os started H enc)
end Go.Proofs.YtoobfmfgbcohcaaDoor.alertNotices
