/- The row holds: the call answers true whatever its arguments are, and they read behind it as before. -/
import Derived.Test.YtbpnoedmnkalpaaGreatDoorRecordSpansMath12
import Derived.Test.YtbpnoedmnkalpaaGreatDoorRecordSpansFacts
import Derived.Test.YtbpnoedmnkalpaaGreatDoorRows
import Derived.WalkKit
import Derived.ProofKit
import Derived.OpenShut
import Derived.LaidMore
import Derived.Stop.Joined
import Derived.Lib.SmallJoins
import Derived.Test.YtbpnoedmnkalpaaGreatDoorEvL17
namespace Go.Proofs.YtbpnoedmnkalpaaGreatDoor.recordSpans
open Go.ChangeShapes Go.WideShapes Go.ChangeAt Go.RowKit Go.Joins Go.Ev Go.Ev.RecordSpans

set_option linter.unusedVariables false
theorem own : ownKnob Tryz.prog.godebug = none := by kernel_rfl
theorem mixed : Tryz.prog.follows .mixedOrders = true := by kernel_rfl
theorem kids : Kids Tryz.prog (· < Tryz.prog.types.size) := kids_rows (by kernel_rfl) (by kernel_rfl)
theorem full : ∀ t e, t < Tryz.prog.types.size → Tryz.prog.underlying t = some (.slice e) → 0 < Tryz.prog.cellsOf e := slices_full_of Tryz.prog (by kernel_rfl)
theorem within : ∀ t ∈ Tryz.f7.params.toList, t < Tryz.prog.types.size := by
  have h : (Tryz.f7.params.toList.all fun t => decide (t < Tryz.prog.types.size)) = true := by kernel_rfl
  intro t ht
  exact of_decide_eq_true (List.all_eq_true.1 h t ht)

theorem door_met (os : Os) (args : Array Value) : laidMetH Tryz.prog Rows.recordSpansRow.laid ((World.doorLaid Tryz.prog 400 os).forCall (fun _ _ => 0) ⟨#[], args, []⟩).memory :=
  laidMetH_of_parts3 (fuel := 8) (laidMet_of_run' 8 (by kernel_rfl) (by kernel_rfl)) (by kernel_rfl) (by kernel_rfl)

set_option maxRecDepth 100000 in
theorem fix_ok {W : World} (h : laidMetH Tryz.prog Rows.recordSpansRow.laid W) : FixOK W Go.Proofs.YtbpnoedmnkalpaaGreatDoor.works.fixes := by
  rw [MakeChecks.laidMetH_plain _ _ _ (by kernel_rfl)] at h
  intro x hx
  simp only [Go.Proofs.YtbpnoedmnkalpaaGreatDoor.works.fixes, List.mem_cons, List.not_mem_nil, or_false] at hx
  rcases hx with rfl | rfl | rfl
  · exact laid_tab h (name := "math/bits.deBruijn32tab") (k := .u8) (zs := [0, 1, 28, 2, 29, 14, 24, 3, 30, 22, 20, 15, 25, 17, 4, 8, 31, 27, 13, 23, 21, 19, 16, 7, 26, 12, 18, 6, 11, 5, 10, 9]) (g := 6) (t := 367) (e := 5) (n := 32) (by unfold Rows.recordSpansRow; exact .head _) (by kernel_rfl) (by kernel_rfl) (by kernel_rfl) (by kernel_rfl) (by kernel_rfl) (by kernel_rfl) (by simp)
  · exact laid_tab h (name := "math/bits.deBruijn64tab") (k := .u8) (zs := [0, 1, 56, 2, 57, 49, 28, 3, 61, 58, 42, 50, 38, 29, 17, 4, 62, 47, 59, 36, 45, 43, 51, 22, 53, 39, 33, 30, 24, 18, 12, 5, 63, 55, 48, 27, 60, 41, 37, 16, 46, 35, 44, 21, 52, 32, 23, 11, 54, 26, 40, 15, 34, 20, 31, 10, 25, 14, 19, 9, 13, 8, 7, 6]) (g := 7) (t := 368) (e := 5) (n := 64) (by unfold Rows.recordSpansRow; exact .tail _ (.head _)) (by kernel_rfl) (by kernel_rfl) (by kernel_rfl) (by kernel_rfl) (by kernel_rfl) (by kernel_rfl) (by simp)
  · exact laid_tab h (name := "internal/strconv.uint64pow10") (k := .u64) (zs := [1, 10, 100, 1000, 10000, 100000, 1000000, 10000000, 100000000, 1000000000, 10000000000, 100000000000, 1000000000000, 10000000000000, 100000000000000, 1000000000000000, 10000000000000000, 100000000000000000, 1000000000000000000, 10000000000000000000]) (g := 5) (t := 356) (e := 248) (n := 20) (by unfold Rows.recordSpansRow; exact .tail _ (.tail _ (.head _))) (by kernel_rfl) (by kernel_rfl) (by kernel_rfl) (by kernel_rfl) (by kernel_rfl) (by kernel_rfl) (by simp)

theorem cells70 : Tryz.prog.cellsOf 70 = 2 := by kernel_rfl
theorem arr2 {α : Type} {cs : Array α} (h : cs.size = 2) : ∃ c0 c1, cs = #[c0, c1] := by
  obtain ⟨l⟩ := cs
  match l, h with
  | [c0, c1], _ => exact ⟨c0, c1, rfl⟩
theorem types70 : Tryz.prog.cellTypes Tryz.prog.depth 70 = some [67, 68] := by kernel_rfl
theorem list2 {α : Type} : ∀ {l : List α}, l.length = 2 → ∃ a0 a1, l = [a0, a1]
  | [a0, a1], _ => ⟨a0, a1, rfl⟩
theorem cells67 : Tryz.prog.cellsOf 67 = 1 := by kernel_rfl
theorem cells68 : Tryz.prog.cellsOf 68 = 1 := by kernel_rfl
def enc9 (a : (List UInt8)) : List SV := [(.str a)]
theorem cells9 : Tryz.prog.cellsOf 9 = 1 := by kernel_rfl
theorem read9 {H : Type} {enc : TypeId × Value → H} {W : World} {held : Bool} (n : Nat) (cs : List Value) (x : DataW H × List MemPlace) (h : DataW.trod enc Tryz.prog W 0 (fun _ => true) held n 9 cs = some x) : ∃ a : (List UInt8), ∀ m, concs m (enc9 a) = some cs := by
  obtain ⟨a, rfl, _, _⟩ := DataW.trod_string Tryz.underlying9 h
  refine ⟨a.data.toList, fun m => ?_⟩
  show concs m [.str a.data.toList] = _
  simp only [concs, conc, string_self]
  rfl
theorem cells3 : Tryz.prog.cellsOf 3 = 1 := by kernel_rfl
theorem read3 {H : Type} {enc : TypeId × Value → H} {W : World} {held : Bool} (n : Nat) (cs : List Value) (x : DataW H × List MemPlace) (h : DataW.trod enc Tryz.prog W 0 (fun _ => true) held n 3 cs = some x) : ∃ a : Int, ∀ m, concs m (enc3 a) = some cs := by
  obtain ⟨a, rfl, _, _⟩ := DataW.trod_int Tryz.underlying3 h
  exact ⟨a, fun m => rfl⟩
theorem list3 {α : Type} : ∀ {l : List α}, l.length = 3 → ∃ a0 a1 a2, l = [a0, a1, a2]
  | [a0, a1, a2], _ => ⟨a0, a1, a2, rfl⟩
theorem cells86 : Tryz.prog.cellsOf 86 = 3 := by kernel_rfl
theorem read86 {H : Type} {enc : TypeId × Value → H} {W : World} {held : Bool} (n : Nat) (cs : List Value) (x : DataW H × List MemPlace) (h : DataW.trod enc Tryz.prog W 0 (fun _ => true) held n 86 cs = some x) : ∃ a : S_api_Channel, ∀ m, concs m (enc86 a) = some cs := by
  have hlen : cs.length = 3 := (DataW.trod_struct Tryz.underlying86 h).elim fun _ h1 => h1.elim fun _ h2 => h2.2.2.1.trans cells86
  obtain ⟨c0, c1, c2, rfl⟩ := list3 hlen
  obtain ⟨xs, m, _, hx, _, hl, hf⟩ := DataW.trod_struct Tryz.underlying86 h
  obtain ⟨x_0, x_1, x_2, rfl⟩ := list3 hl
  have g_0 := hf 0 (⟨ "Name", 9, 0, false, "", "", 0⟩) rfl
  simp only [cells9] at g_0
  have g_1 := hf 1 (⟨ "Rate", 3, 1, false, "", "", 16⟩) rfl
  simp only [cells3] at g_1
  have g_2 := hf 2 (⟨ "Bits", 3, 2, false, "", "", 24⟩) rfl
  simp only [cells3] at g_2
  have q_0 : DataW.trod enc Tryz.prog W 0 (fun _ => true) held m 9 [c0] = some x_0 := g_0
  have q_1 : DataW.trod enc Tryz.prog W 0 (fun _ => true) held m 3 [c1] = some x_1 := g_1
  have q_2 : DataW.trod enc Tryz.prog W 0 (fun _ => true) held m 3 [c2] = some x_2 := g_2
  obtain ⟨a_0, ha_0⟩ := read9 _ _ _ q_0
  obtain ⟨a_1, ha_1⟩ := read3 _ _ _ q_1
  obtain ⟨a_2, ha_2⟩ := read3 _ _ _ q_2
  exact ⟨⟨a_0, a_1, a_2⟩, fun m => concs_append (ha_0 m) (concs_append (ha_1 m) (ha_2 m))⟩
theorem cells84 : Tryz.prog.cellsOf 84 = 2 := by kernel_rfl
theorem cells82 : Tryz.prog.cellsOf 82 = 1 := by kernel_rfl
theorem cells26 : Tryz.prog.cellsOf 26 = 1 := by kernel_rfl
theorem nread26 {H : Type} {enc : TypeId × Value → H} {W : World} {held : Bool} (n : Nat) (cs : List Value) (x : DataW H × List MemPlace) (h : DataW.trod enc Tryz.prog W 0 (fun _ => true) held n 26 cs = some x) : ∃ (a : (List Int)) (K : Nat) (rows : Nat → List BRow) (s : Nat → List SV), ElemN W 1 rep26 (fun _ => True) cs a K rows s := by
  obtain ⟨v, rfl⟩ := slice_one Tryz.underlying26 h
  obtain ⟨l0, K0, R0, S0, hn0⟩ := inner_nestN (R := fun _ => FlatR enc3) (Q := fun _ => True) (z := 1) (by omega) cells3 ⟨(0 : Int)⟩ Tryz.underlying26 h (fun n cs x h => by obtain ⟨a, ha⟩ := read3 n cs x h; exact ⟨a, _, _, _, ElemN.flat (enc := enc3) (fun _ => rfl) ha⟩)
  have e := ElemN.slice (R' := rep26) hn0 (fun f j h => ⟨_, rfl, h⟩)
  exact ⟨l0, K0, R0, _, ⟨e.cnt, e.row, e.val, e.rep, e.len, trivial⟩⟩
theorem nread84 {H : Type} {enc : TypeId × Value → H} {W : World} {held : Bool} (n : Nat) (cs : List Value) (x : DataW H × List MemPlace) (h : DataW.trod enc Tryz.prog W 0 (fun _ => true) held n 84 cs = some x) : ∃ (a : S_api_Frame) (K : Nat) (rows : Nat → List BRow) (s : Nat → List SV), ElemN W 2 rep84 (fun _ => True) cs a K rows s := by
  have hlen : cs.length = 2 := (DataW.trod_struct Tryz.underlying84 h).elim fun _ h1 => h1.elim fun _ h2 => h2.2.2.1.trans cells84
  obtain ⟨c0, c1, rfl⟩ := list2 hlen
  obtain ⟨xs, m, _, hx, _, hl, hf⟩ := DataW.trod_struct Tryz.underlying84 h
  obtain ⟨x_0, x_1, rfl⟩ := list2 hl
  have g_0 := hf 0 (⟨ "Start", 3, 0, false, "", "", 0⟩) rfl
  simp only [cells3] at g_0
  have g_1 := hf 1 (⟨ "Samples", 82, 1, false, "", "", 8⟩) rfl
  simp only [cells82] at g_1
  have q_0 : DataW.trod enc Tryz.prog W 0 (fun _ => true) held m 3 [c0] = some x_0 := g_0
  have q_1 : DataW.trod enc Tryz.prog W 0 (fun _ => true) held m 82 [c1] = some x_1 := g_1
  obtain ⟨b0, hb0⟩ := read3 _ _ _ q_0
  obtain ⟨l0, K0, R0, S0, hn0⟩ := inner_nestN (R := rep26) (Q := fun _ => True) (z := 1) (by omega) cells26 ⟨[]⟩ Tryz.underlying82 q_1 nread26
  have e0 := ElemN.flat (W := W) (z := 1) (enc := enc3) (fun _ => rfl) hb0
  have e1 := ElemN.slice (R' := fun f cs a => ∃ q1, cs = [q1] ∧ Slc f 1 (rep26 f) q1 a) hn0 (fun f j h => ⟨_, rfl, h⟩)
  have e := ElemN.app e0 e1 (R := rep84) (Q := fun _ => True) (c := ⟨b0, l0⟩) (fun f x y _ hx hy => by
    obtain ⟨q1, rfl, h⟩ := hy
    have hx' : x = enc3 b0 := hx
    subst hx'
    exact ⟨q1, rfl, h⟩) (fun _ _ => trivial)
  exact ⟨⟨b0, l0⟩, _, _, _, e⟩
theorem cells50 : Tryz.prog.cellsOf 50 = 2 := by kernel_rfl
theorem types50 : Tryz.prog.cellTypes Tryz.prog.depth 50 = some [3, 3] := by kernel_rfl
def enc50 (a : S__2_int) : List SV := [(.int .i64 a.e0), (.int .i64 a.e1)]
theorem read50 {H : Type} {enc : TypeId × Value → H} {W : World} {held : Bool} (n : Nat) (cs : List Value) (x : DataW H × List MemPlace) (h : DataW.trod enc Tryz.prog W 0 (fun _ => true) held n 50 cs = some x) : ∃ a : S__2_int, ∀ m, concs m (enc50 a) = some cs := by
  have hlen : cs.length = 2 := (DataW.trod_array Tryz.underlying50 h).elim fun _ h1 => h1.elim fun _ h2 => h2.2.2.1.trans cells50
  obtain ⟨c0, c1, rfl⟩ := list2 hlen
  obtain ⟨xs, m, _, hx, _, hl, hf⟩ := DataW.trod_array Tryz.underlying50 h
  obtain ⟨x_0, x_1, rfl⟩ := list2 hl
  have g_0 := hf 0 (by omega)
  have g_1 := hf 1 (by omega)
  simp only [cells3] at g_0 g_1
  have q_0 : DataW.trod enc Tryz.prog W 0 (fun _ => true) held m 3 [c0] = some x_0 := g_0
  have q_1 : DataW.trod enc Tryz.prog W 0 (fun _ => true) held m 3 [c1] = some x_1 := g_1
  obtain ⟨a_0, ha_0⟩ := read3 _ _ _ q_0
  obtain ⟨a_1, ha_1⟩ := read3 _ _ _ q_1
  exact ⟨⟨a_0, a_1⟩, fun m => concs_append (ha_0 m) (ha_1 m)⟩
/-- Where the run begins: the listed tables, the arguments' rows. -/
noncomputable def rowsB (r0_0 : ARow) (R0_1 : Nat → List BRow) : List BRow := [none, none, none, none, none, some (true, ⟨5, 0, 20⟩, intCells .u64 [1, 10, 100, 1000, 10000, 100000, 1000000, 10000000, 100000000, 1000000000, 10000000000, 100000000000, 1000000000000, 10000000000000, 100000000000000, 1000000000000000, 10000000000000000, 100000000000000000, 1000000000000000000, 10000000000000000000]), some (true, ⟨6, 0, 32⟩, intCells .u8 [0, 1, 28, 2, 29, 14, 24, 3, 30, 22, 20, 15, 25, 17, 4, 8, 31, 27, 13, 23, 21, 19, 16, 7, 26, 12, 18, 6, 11, 5, 10, 9]), some (true, ⟨7, 0, 64⟩, intCells .u8 [0, 1, 56, 2, 57, 49, 28, 3, 61, 58, 42, 50, 38, 29, 17, 4, 62, 47, 59, 36, 45, 43, 51, 22, 53, 39, 33, 30, 24, 18, 12, 5, 63, 55, 48, 27, 60, 41, 37, 16, 46, 35, 44, 21, 52, 32, 23, 11, 54, 26, 40, 15, 34, 20, 31, 10, 25, 14, 19, 9, 13, 8, 7, 6]), argB r0_0] ++ R0_1 9
theorem relB {W : World} {r0_0 : ARow} {R0_1 : Nat → List BRow} (hf : FixOK W Go.Proofs.YtbpnoedmnkalpaaGreatDoor.works.fixes) (h0_0 : ∀ x, r0_0 = some x → x.1.block < W.heap.size ∧ ∀ m, RowRel m x.1 none .lost x.2 W.heap[x.1.block]?) (hN : ∀ (i : Nat) (y : Bool × Pl × List SV), (R0_1 9)[i]? = some (some y) → y.1 = false ∧ y.2.1.block < W.heap.size ∧ ∀ m, AtM m 9 (R0_1 9) → RowRel m y.2.1 none .lost y.2.2 W.heap[y.2.1.block]?) : MRel W.heap.size (mapB (rowsB r0_0 R0_1)) (memB (rowsB r0_0 R0_1)) W := memB_rel3 fun j x hj => by
  unfold rowsB at hj
  rcases j with _ | _ | _ | _ | _ | _ | _ | _ | _ | j
  · simp at hj
  · simp at hj
  · simp at hj
  · simp at hj
  · simp at hj
  · cases (Option.some.inj hj)
    have := fix_row hf (x := (5, intCells .u64 [1, 10, 100, 1000, 10000, 100000, 1000000, 10000000, 100000000, 1000000000, 10000000000, 100000000000, 1000000000000, 10000000000000, 100000000000000, 1000000000000000, 10000000000000000, 100000000000000000, 1000000000000000000, 10000000000000000000])) (.tail _ (.tail _ (.head _)))
    exact ⟨this.1, this.2 _, fun _ => ⟨rfl, rfl⟩⟩
  · cases (Option.some.inj hj)
    have := fix_row hf (x := (6, intCells .u8 [0, 1, 28, 2, 29, 14, 24, 3, 30, 22, 20, 15, 25, 17, 4, 8, 31, 27, 13, 23, 21, 19, 16, 7, 26, 12, 18, 6, 11, 5, 10, 9])) (.head _)
    exact ⟨this.1, this.2 _, fun _ => ⟨rfl, rfl⟩⟩
  · cases (Option.some.inj hj)
    have := fix_row hf (x := (7, intCells .u8 [0, 1, 56, 2, 57, 49, 28, 3, 61, 58, 42, 50, 38, 29, 17, 4, 62, 47, 59, 36, 45, 43, 51, 22, 53, 39, 33, 30, 24, 18, 12, 5, 63, 55, 48, 27, 60, 41, 37, 16, 46, 35, 44, 21, 52, 32, 23, 11, 54, 26, 40, 15, 34, 20, 31, 10, 25, 14, 19, 9, 13, 8, 7, 6])) (.tail _ (.head _))
    exact ⟨this.1, this.2 _, fun _ => ⟨rfl, rfl⟩⟩
  · have hj' : argB r0_0 = some x := Option.some.inj hj
    obtain ⟨y, hy, rfl⟩ := Option.map_eq_some_iff.1 hj'
    exact ⟨(h0_0 y hy).1, (h0_0 y hy).2 _, fun h => by simp at h⟩
  · have hj' : (R0_1 9)[j]? = some (some x) := hj
    obtain ⟨h1, h2, h3⟩ := hN j x hj'
    exact ⟨h2, h3 _ (atM_app (pre := [none, none, none, none, none, some (true, ⟨5, 0, 20⟩, intCells .u64 [1, 10, 100, 1000, 10000, 100000, 1000000, 10000000, 100000000, 1000000000, 10000000000, 100000000000, 1000000000000, 10000000000000, 100000000000000, 1000000000000000, 10000000000000000, 100000000000000000, 1000000000000000000, 10000000000000000000]), some (true, ⟨6, 0, 32⟩, intCells .u8 [0, 1, 28, 2, 29, 14, 24, 3, 30, 22, 20, 15, 25, 17, 4, 8, 31, 27, 13, 23, 21, 19, 16, 7, 26, 12, 18, 6, 11, 5, 10, 9]), some (true, ⟨7, 0, 64⟩, intCells .u8 [0, 1, 56, 2, 57, 49, 28, 3, 61, 58, 42, 50, 38, 29, 17, 4, 62, 47, 59, 36, 45, 43, 51, 22, 53, 39, 33, 30, 24, 18, 12, 5, 63, 55, 48, 27, 60, 41, 37, 16, 46, 35, 44, 21, 52, 32, 23, 11, 54, 26, 40, 15, 34, 20, 31, 10, 25, 14, 19, 9, 13, 8, 7, 6]), argB r0_0])), fun h => by rw [h1] at h; simp at h⟩
theorem fixB (r0_0 : ARow) (R0_1 : Nat → List BRow) : FixIn (memB (rowsB r0_0 R0_1)) Go.Proofs.YtbpnoedmnkalpaaGreatDoor.works.fixes := fun x hx => by
  simp only [Go.Proofs.YtbpnoedmnkalpaaGreatDoor.works.fixes, List.mem_cons, List.not_mem_nil, or_false] at hx
  rcases hx with rfl | rfl | rfl
  · exact memB_fix (j := 6) (p := ⟨6, 0, 32⟩) rfl
  · exact memB_fix (j := 7) (p := ⟨7, 0, 64⟩) rfl
  · exact memB_fix (j := 5) (p := ⟨5, 0, 20⟩) rfl

set_option maxRecDepth 100000 in
theorem lifted (os : Os) (started : os.Started) (H : Type) (enc : TypeId × Value → H) :
    ReturnsInHanded {} Tryz.checked os 7 .any (fun w args => (Rows.recordSpansSpec.pre enc Tryz.prog Tryz.f7 [] false w args ∧ laidMetH Tryz.prog Rows.recordSpansRow.laid w) ∧ sizedMet enc Tryz.prog Tryz.f7 (OpenSpec.ofChange Rows.recordSpansSpec) false w args)
      (Rows.recordSpansSpec.post enc Tryz.prog Tryz.f7 false true false false) := by
  refine returnsInHanded_of_change_and (C := Tryz.checked) (X := fun w _ => laidMetH Tryz.prog Rows.recordSpansRow.laid w) (fun _ _ _ hh h => h.of_heap hh) own started (by kernel_rfl) Tryz.func7
    (ChangeSpec.witness_shaped (enc := enc) (C := Tryz.checked) (os := os) (X := fun w _ => laidMetH Tryz.prog Rows.recordSpansRow.laid w) false (World.doorLaid Tryz.prog 400 os) #[.agg #[.slice none 0 0, .slice none 0 0], .string ⟨#[]⟩, .agg #[.int .i64 0, .int .i64 0]] 8 rfl (World.shaped_of_RefB (by kernel_rfl) (by kernel_rfl)) (by kernel_rfl) (by kernel_rfl) (by kernel_rfl) (door_met os _)) ?_
  intro W base args ds gs before hval0 hW _ hsz hL _
  have hval : ∀ (j : Nat) t v, Tryz.f7.params[j]? = some t → args[j]? = some v → Value.okWide Tryz.prog W .any base t v := hval0
  have hW' := hW
  obtain ⟨p, q, hA0, hV, rfl, hfz, hnd⟩ := hW
  have hA : DataW.TrodAll enc Tryz.prog W 0 (fun _ => true) true Tryz.f7.params.toList args.toList ds p := hA0
  have hAk := hA
  rw [Tryz.params7] at hA hval
  obtain ⟨rfl, rfl⟩ := trodVars_none hV
  clear hA0 hval0
  simp only [List.append_nil] at hW'
  obtain ⟨v0, v1, v2, d0, d1, d2, p0, p1, p2, rfl, rfl, rfl, h0, h1, h2⟩ := trodAll_three hA
  have hv0 := hval 0 70 v0 rfl rfl
  simp only [Value.okWide, Tryz.underlying70] at hv0
  obtain ⟨cs0, rfl, hsz0, ts0, hts0, _, hall0⟩ := hv0
  rw [types70] at hts0
  cases hts0
  obtain ⟨c0_0, c0_1, rfl⟩ := arr2 (hsz0.trans cells70)
  obtain ⟨n0, h0⟩ := h0
  have g0 : DataW.trod enc Tryz.prog W 0 (fun _ => true) true n0 70 [c0_0, c0_1] = some (d0, p0) := h0
  obtain ⟨xs_0, m_0, _, hx_0, _, hl_0, hf_0⟩ := DataW.trod_struct Tryz.underlying70 g0
  obtain ⟨x_0_0, x_0_1, rfl⟩ := list2 hl_0
  have g_0_0 := hf_0 0 (⟨ "B", 67, 0, false, "", "", 0⟩) rfl
  simp only [cells67] at g_0_0
  have g_0_1 := hf_0 1 (⟨ "L", 68, 1, false, "", "", 24⟩) rfl
  simp only [cells68] at g_0_1
  have q_0_0 : DataW.trod enc Tryz.prog W 0 (fun _ => true) true m_0 67 [c0_0] = some x_0_0 := g_0_0
  have q_0_1 : DataW.trod enc Tryz.prog W 0 (fun _ => true) true m_0 68 [c0_1] = some x_0_1 := g_0_1
  have hc0_0 : Cell.okWide Tryz.prog W .any base 67 c0_0 := by
    obtain ⟨u', hu', hx'⟩ := hall0 0 c0_0 rfl
    cases hu'
    exact hx'
  obtain ⟨l0_0, r0_0, k0_0, ha0_0⟩ := arg_slice (enc := enc86) (z := 3) (fun _ => rfl) cells86 ⟨(S_api_Channel.mk [] (0 : Int) (0 : Int))⟩ Tryz.underlying67 hc0_0 q_0_0 read86
  have hm0_0 := ha0_0.len
  unfold maxLen at hm0_0
  have hc0_1 : Cell.okWide Tryz.prog W .any base 68 c0_1 := by
    obtain ⟨u', hu', hx'⟩ := hall0 1 c0_1 rfl
    cases hu'
    exact hx'
  obtain ⟨l0_1, K0_1, R0_1, S0_1, ha0_1⟩ := arg_nestN (R := rep84) (Q := fun _ => True) (z := 2) cells84 ⟨(S_api_Frame.mk (0 : Int) [])⟩ Tryz.underlying68 hc0_1 q_0_1 nread84
  have hm0_1 := ha0_1.len
  unfold maxLen at hm0_1
  have hv1 := hval 1 9 v1 rfl rfl
  obtain ⟨n1, h1⟩ := h1
  obtain ⟨b1, e1, _, _⟩ := DataW.trod_string Tryz.underlying9 h1
  have e1' : v1 = .string b1 := by
    have hcl : v1.cells.toList = [v1] := by
      have hv := hv1
      simp only [Value.okWide, Tryz.underlying9] at hv
      cases v1 <;> first | rfl | exact hv.elim | simp [Cell.ok] at hv
    rw [hcl] at e1
    simpa using e1
  subst e1'
  have hv2 := hval 2 50 v2 rfl rfl
  simp only [Value.okWide, Tryz.underlying50] at hv2
  obtain ⟨cs2, rfl, hsz2, ts2, hts2, _, hall2⟩ := hv2
  rw [types50] at hts2
  cases hts2
  obtain ⟨c2_0, c2_1, rfl⟩ := arr2 (hsz2.trans cells50)
  obtain ⟨n2, h2⟩ := h2
  have g2 : DataW.trod enc Tryz.prog W 0 (fun _ => true) true n2 50 [c2_0, c2_1] = some (d2, p2) := h2
  obtain ⟨b2, hb2⟩ := read50 _ _ _ g2
  have hrel : MRel W.heap.size (mapB (rowsB r0_0 R0_1)) (memB (rowsB r0_0 R0_1)) W := relB (fix_ok hL) ha0_0.row (ha0_1.row 9)
  have m0_0 : ∀ x, r0_0 = some x → mapB (rowsB r0_0 R0_1) (Pos.ofNat 8) = some x.1 := fun x hx => mapB_at (x := (false, x.1, x.2)) (by rw [hx]; rfl)
  have f0_0 : ∀ x, r0_0 = some x → rd (memB (rowsB r0_0 R0_1)) (Pos.ofNat 8) = some x.2 := fun x hx => ro_rd (memB_ro (p := x.1) (by rw [hx]; rfl))
  have mN : AtM (mapB (rowsB r0_0 R0_1)) 9 (R0_1 9) := atM_app (pre := [none, none, none, none, none, some (true, ⟨5, 0, 20⟩, intCells .u64 [1, 10, 100, 1000, 10000, 100000, 1000000, 10000000, 100000000, 1000000000, 10000000000, 100000000000, 1000000000000, 10000000000000, 100000000000000, 1000000000000000, 10000000000000000, 100000000000000000, 1000000000000000000, 10000000000000000000]), some (true, ⟨6, 0, 32⟩, intCells .u8 [0, 1, 28, 2, 29, 14, 24, 3, 30, 22, 20, 15, 25, 17, 4, 8, 31, 27, 13, 23, 21, 19, 16, 7, 26, 12, 18, 6, 11, 5, 10, 9]), some (true, ⟨7, 0, 64⟩, intCells .u8 [0, 1, 56, 2, 57, 49, 28, 3, 61, 58, 42, 50, 38, 29, 17, 4, 62, 47, 59, 36, 45, 43, 51, 22, 53, 39, 33, 30, 24, 18, 12, 5, 63, 55, 48, 27, 60, 41, 37, 16, 46, 35, 44, 21, 52, 32, 23, 11, 54, 26, 40, 15, 34, 20, 31, 10, 25, 14, 19, 9, 13, 8, 7, 6]), argB r0_0])
  have fN : AtF (rd (memB (rowsB r0_0 R0_1))) 9 (R0_1 9) := atF_app (pre := [none, none, none, none, none, some (true, ⟨5, 0, 20⟩, intCells .u64 [1, 10, 100, 1000, 10000, 100000, 1000000, 10000000, 100000000, 1000000000, 10000000000, 100000000000, 1000000000000, 10000000000000, 100000000000000, 1000000000000000, 10000000000000000, 100000000000000000, 1000000000000000000, 10000000000000000000]), some (true, ⟨6, 0, 32⟩, intCells .u8 [0, 1, 28, 2, 29, 14, 24, 3, 30, 22, 20, 15, 25, 17, 4, 8, 31, 27, 13, 23, 21, 19, 16, 7, 26, 12, 18, 6, 11, 5, 10, 9]), some (true, ⟨7, 0, 64⟩, intCells .u8 [0, 1, 56, 2, 57, 49, 28, 3, 61, 58, 42, 50, 38, 29, 17, 4, 62, 47, 59, 36, 45, 43, 51, 22, 53, 39, 33, 30, 24, 18, 12, 5, 63, 55, 48, 27, 60, 41, 37, 16, 46, 35, 44, 21, 52, 32, 23, 11, 54, 26, 40, 15, 34, 20, 31, 10, 25, 14, 19, 9, 13, 8, 7, 6]), argB r0_0]) fun i y hy => (ha0_1.row 9 i y hy).1
  have hlaw := law_eq (l0_0.length + l0_1.length + 7000) ⟨l0_0, l0_1⟩ b1.data.toList b2 (by simp only; omega) (by simp only; omega) rfl
  have hrun := law05_RecordSpans_run (l0_0.length + l0_1.length + 7000) ⟨l0_0, l0_1⟩ b1.data.toList b2 _ _ true (memB (rowsB r0_0 R0_1)) (ha0_0.slc _ 8 f0_0) (ha0_1.slc _ 9 fN) (fixB r0_0 R0_1) hlaw
  have has : concs (mapB (rowsB r0_0 R0_1)) [.agg [argS r0_0 8 l0_0.length k0_0, S0_1 9], .str b1.data.toList, .agg [(.int .i64 b2.e0), (.int .i64 b2.e1)]] = some [.agg #[c0_0, c0_1], .string b1, .agg #[c2_0, c2_1]] := by
    refine concs_cons (conc_aggL (concs_append (concs_cons (ha0_0.val _ 8 m0_0) (concs_nil _)) (concs_cons (ha0_1.val _ 9 mN) (concs_nil _)))) (concs_cons (show conc _ (.str b1.data.toList) = some (.string b1) by simp only [conc, string_self]) (concs_cons (conc_aggL (hb2 _)) (concs_nil _)))
  have hcalls : Calls Tryz.prog 7 #[.agg #[c0_0, c0_1], .string b1, .agg #[c2_0, c2_1]] W fun e W' => e = .returned (.bool true) ∧ Below W.heap.size W W' := by
    refine (Run.calls (Q := law05_RecordSpans_post true) mixed Tryz.func7 rfl rfl (frozen_rel hrel) (vs := #[.agg #[c0_0, c0_1], .string b1, .agg #[c2_0, c2_1]]) has hrun).mono fun e W' ⟨m', M', s, x, he, hx, hs, hst⟩ => ?_
    have hs' : s = .bool true := hs
    subst hs'
    have hx' : x = .bool true := by simp [conc] at hx; exact hx.symm
    subst hx'
    exact ⟨he, hst.below⟩
  refine hcalls.mono fun e W' ⟨he, hb⟩ => ?_
  subst he
  exact ⟨_, rfl, _, _, _, [], _, [], hW', trodAll_cons_mk (shut_bool Tryz.underlying4 _) trodAll_mk0, trodAll_below kids full hb within hAk, rfl, hb.frame _, fun h => by cases h⟩

theorem hfn : Tryz.prog.funcNamed Rows.recordSpansRow.func = some 7 := by kernel_rfl
theorem hinst : Tryz.f7.isInstance Tryz.prog Rows.recordSpansRow.origin Rows.recordSpansRow.targs := of_decide_eq_true (by kernel_rfl)
theorem hwrap : Tryz.f7.isWrapper Tryz.prog Rows.recordSpansRow.wrapper Rows.recordSpansRow.mainSum := by
  unfold Func.isWrapper
  first
    | (rw [if_pos (by decide +kernel)]; kernel_rfl)
    | (rw [if_neg (by decide +kernel)]; exact ⟨rfl, rfl⟩)
set_option maxRecDepth 100000 in
theorem facts : joinedFacts Tryz.prog 7 Tryz.f7 Rows.recordSpansSpec Rows.recordSpansRow = true := (and2 (and2 (and2 (and2 (and2 (and2 (and2 (and2 (and2 (and2 (and2 (and2 (and2 (and2 (and2 (and2 (and2 (and2 (and2 (and2 (and2 (and2 (and2 (and2 (and2 (and2 (and2 (and2 (and2 (and2 (and2 j0 j1) j2) j3) j4) j5) j6) j7) j8) j9) j10) j11) j12) j13) j14) j15) j16) j17) j18) j19) j20) j21) j22) j23) j24) j25) j26) j27) j28) j29) j30) j31)

theorem over : Rows.RecordSpansSaid :=
  OpenClaim.holds_of_wide (p := Tryz.pinned) (s := Rows.recordSpansSpec) (c := Rows.recordSpansRow) 7 Tryz.f7 rfl rfl rfl rfl rfl rfl rfl ⟨rfl, rfl, rfl, rfl, rfl⟩ rfl rfl rfl rfl rfl hfn Tryz.func7 facts hinst hwrap
    (fun os started H enc _ => lifted os started H enc)
end Go.Proofs.YtbpnoedmnkalpaaGreatDoor.recordSpans
