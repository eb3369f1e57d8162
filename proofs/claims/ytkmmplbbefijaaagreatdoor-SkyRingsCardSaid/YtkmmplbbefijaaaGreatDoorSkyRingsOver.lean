/- The row holds: the call answers true whatever its arguments are, and they read behind it as before. -/
import Derived.Test.YtkmmplbbefijaaaGreatDoorSkyRingsMath13
import Derived.Test.YtkmmplbbefijaaaGreatDoorSkyRingsFacts
import Derived.Test.YtkmmplbbefijaaaGreatDoorRows
import Derived.WalkKit
import Derived.ProofKit
import Derived.OpenShut
import Derived.LaidMore
import Derived.Stop.Joined
import Derived.Lib.SmallJoins
namespace Go.Proofs.YtkmmplbbefijaaaGreatDoor.skyRings
open Go.ChangeShapes Go.WideShapes Go.ChangeAt Go.RowKit Go.Joins Go.Ev Go.Ev.SkyRings

set_option linter.unusedVariables false
theorem own : ownKnob Tryz.prog.godebug = none := by kernel_rfl
theorem mixed : Tryz.prog.follows .mixedOrders = true := by kernel_rfl
theorem kids : Kids Tryz.prog (· < Tryz.prog.types.size) := kids_rows (by kernel_rfl) (by kernel_rfl)
theorem full : ∀ t e, t < Tryz.prog.types.size → Tryz.prog.underlying t = some (.slice e) → 0 < Tryz.prog.cellsOf e := slices_full_of Tryz.prog (by kernel_rfl)
theorem within : ∀ t ∈ Tryz.f4.params.toList, t < Tryz.prog.types.size := by
  have h : (Tryz.f4.params.toList.all fun t => decide (t < Tryz.prog.types.size)) = true := by kernel_rfl
  intro t ht
  exact of_decide_eq_true (List.all_eq_true.1 h t ht)

theorem door_met (os : Os) (args : Array Value) : laidMetH Tryz.prog Rows.skyRingsRow.laid ((World.doorLaid Tryz.prog 400 os).forCall (fun _ _ => 0) ⟨#[], args, []⟩).memory :=
  laidMetH_of_parts3 (fuel := 8) (laidMet_of_run' 8 (by kernel_rfl) (by kernel_rfl)) (by kernel_rfl) (by kernel_rfl)

set_option maxRecDepth 100000 in
theorem fix_ok {W : World} (h : laidMetH Tryz.prog Rows.skyRingsRow.laid W) : FixOK W Go.Proofs.YtkmmplbbefijaaaGreatDoor.works.fixes := by
  rw [MakeChecks.laidMetH_plain _ _ _ (by kernel_rfl)] at h
  intro x hx
  simp only [Go.Proofs.YtkmmplbbefijaaaGreatDoor.works.fixes, List.mem_cons, List.not_mem_nil, or_false] at hx
  rcases hx with rfl | rfl | rfl
  · exact laid_tab h (name := "math/bits.deBruijn32tab") (k := .u8) (zs := [0, 1, 28, 2, 29, 14, 24, 3, 30, 22, 20, 15, 25, 17, 4, 8, 31, 27, 13, 23, 21, 19, 16, 7, 26, 12, 18, 6, 11, 5, 10, 9]) (g := 4) (t := 323) (e := 5) (n := 32) (by unfold Rows.skyRingsRow; exact .head _) (by kernel_rfl) (by kernel_rfl) (by kernel_rfl) (by kernel_rfl) (by kernel_rfl) (by kernel_rfl) (by simp)
  · exact laid_tab h (name := "math/bits.deBruijn64tab") (k := .u8) (zs := [0, 1, 56, 2, 57, 49, 28, 3, 61, 58, 42, 50, 38, 29, 17, 4, 62, 47, 59, 36, 45, 43, 51, 22, 53, 39, 33, 30, 24, 18, 12, 5, 63, 55, 48, 27, 60, 41, 37, 16, 46, 35, 44, 21, 52, 32, 23, 11, 54, 26, 40, 15, 34, 20, 31, 10, 25, 14, 19, 9, 13, 8, 7, 6]) (g := 5) (t := 324) (e := 5) (n := 64) (by unfold Rows.skyRingsRow; exact .tail _ (.head _)) (by kernel_rfl) (by kernel_rfl) (by kernel_rfl) (by kernel_rfl) (by kernel_rfl) (by kernel_rfl) (by simp)
  · exact laid_tab h (name := "internal/strconv.uint64pow10") (k := .u64) (zs := [1, 10, 100, 1000, 10000, 100000, 1000000, 10000000, 100000000, 1000000000, 10000000000, 100000000000, 1000000000000, 10000000000000, 100000000000000, 1000000000000000, 10000000000000000, 100000000000000000, 1000000000000000000, 10000000000000000000]) (g := 3) (t := 320) (e := 203) (n := 20) (by unfold Rows.skyRingsRow; exact .tail _ (.tail _ (.head _))) (by kernel_rfl) (by kernel_rfl) (by kernel_rfl) (by kernel_rfl) (by kernel_rfl) (by kernel_rfl) (by simp)

theorem cells33 : Tryz.prog.cellsOf 33 = 3 := by kernel_rfl
theorem arr3 {α : Type} {cs : Array α} (h : cs.size = 3) : ∃ c0 c1 c2, cs = #[c0, c1, c2] := by
  obtain ⟨l⟩ := cs
  match l, h with
  | [c0, c1, c2], _ => exact ⟨c0, c1, c2, rfl⟩
theorem types33 : Tryz.prog.cellTypes Tryz.prog.depth 33 = some [31, 3, 3] := by kernel_rfl
theorem list3 {α : Type} : ∀ {l : List α}, l.length = 3 → ∃ a0 a1 a2, l = [a0, a1, a2]
  | [a0, a1, a2], _ => ⟨a0, a1, a2, rfl⟩
theorem cells31 : Tryz.prog.cellsOf 31 = 1 := by kernel_rfl
theorem cells3 : Tryz.prog.cellsOf 3 = 1 := by kernel_rfl
def enc9 (a : (List UInt8)) : List SV := [(.str a)]
theorem cells9 : Tryz.prog.cellsOf 9 = 1 := by kernel_rfl
theorem read9 {H : Type} {enc : TypeId × Value → H} {W : World} {held : Bool} (n : Nat) (cs : List Value) (x : DataW H × List MemPlace) (h : DataW.trod enc Tryz.prog W 0 (fun _ => true) held n 9 cs = some x) : ∃ a : (List UInt8), ∀ m, concs m (enc9 a) = some cs := by
  obtain ⟨a, rfl, _, _⟩ := DataW.trod_string Tryz.underlying9 h
  refine ⟨a.data.toList, fun m => ?_⟩
  show concs m [.str a.data.toList] = _
  simp only [concs, conc, string_self]
  rfl
def enc22 (a : S__3_int) : List SV := [(.int .i64 a.e0), (.int .i64 a.e1), (.int .i64 a.e2)]
theorem read3 {H : Type} {enc : TypeId × Value → H} {W : World} {held : Bool} (n : Nat) (cs : List Value) (x : DataW H × List MemPlace) (h : DataW.trod enc Tryz.prog W 0 (fun _ => true) held n 3 cs = some x) : ∃ a : Int, ∀ m, concs m (enc3 a) = some cs := by
  obtain ⟨a, rfl, _, _⟩ := DataW.trod_int Tryz.underlying3 h
  exact ⟨a, fun m => rfl⟩
theorem cells22 : Tryz.prog.cellsOf 22 = 3 := by kernel_rfl
theorem read22 {H : Type} {enc : TypeId × Value → H} {W : World} {held : Bool} (n : Nat) (cs : List Value) (x : DataW H × List MemPlace) (h : DataW.trod enc Tryz.prog W 0 (fun _ => true) held n 22 cs = some x) : ∃ a : S__3_int, ∀ m, concs m (enc22 a) = some cs := by
  have hlen : cs.length = 3 := (DataW.trod_array Tryz.underlying22 h).elim fun _ h1 => h1.elim fun _ h2 => h2.2.2.1.trans cells22
  obtain ⟨c0, c1, c2, rfl⟩ := list3 hlen
  obtain ⟨xs, m, _, hx, _, hl, hf⟩ := DataW.trod_array Tryz.underlying22 h
  obtain ⟨x_0, x_1, x_2, rfl⟩ := list3 hl
  have g_0 := hf 0 (by omega)
  have g_1 := hf 1 (by omega)
  have g_2 := hf 2 (by omega)
  simp only [cells3] at g_0 g_1 g_2
  have q_0 : DataW.trod enc Tryz.prog W 0 (fun _ => true) held m 3 [c0] = some x_0 := g_0
  have q_1 : DataW.trod enc Tryz.prog W 0 (fun _ => true) held m 3 [c1] = some x_1 := g_1
  have q_2 : DataW.trod enc Tryz.prog W 0 (fun _ => true) held m 3 [c2] = some x_2 := g_2
  obtain ⟨a_0, ha_0⟩ := read3 _ _ _ q_0
  obtain ⟨a_1, ha_1⟩ := read3 _ _ _ q_1
  obtain ⟨a_2, ha_2⟩ := read3 _ _ _ q_2
  exact ⟨⟨a_0, a_1, a_2⟩, fun m => concs_append (ha_0 m) (concs_append (ha_1 m) (ha_2 m))⟩
theorem list10 {α : Type} : ∀ {l : List α}, l.length = 10 → ∃ a0 a1 a2 a3 a4 a5 a6 a7 a8 a9, l = [a0, a1, a2, a3, a4, a5, a6, a7, a8, a9]
  | [a0, a1, a2, a3, a4, a5, a6, a7, a8, a9], _ => ⟨a0, a1, a2, a3, a4, a5, a6, a7, a8, a9, rfl⟩
theorem cells105 : Tryz.prog.cellsOf 105 = 10 := by kernel_rfl
theorem list4 {α : Type} : ∀ {l : List α}, l.length = 4 → ∃ a0 a1 a2 a3, l = [a0, a1, a2, a3]
  | [a0, a1, a2, a3], _ => ⟨a0, a1, a2, a3, rfl⟩
theorem read105 {H : Type} {enc : TypeId × Value → H} {W : World} {held : Bool} (n : Nat) (cs : List Value) (x : DataW H × List MemPlace) (h : DataW.trod enc Tryz.prog W 0 (fun _ => true) held n 105 cs = some x) : ∃ a : S_api_Site, ∀ m, concs m (enc105 a) = some cs := by
  have hlen : cs.length = 10 := (DataW.trod_struct Tryz.underlying105 h).elim fun _ h1 => h1.elim fun _ h2 => h2.2.2.1.trans cells105
  obtain ⟨c0, c1, c2, c3, c4, c5, c6, c7, c8, c9, rfl⟩ := list10 hlen
  obtain ⟨xs, m, _, hx, _, hl, hf⟩ := DataW.trod_struct Tryz.underlying105 h
  obtain ⟨x_0, x_1, x_2, x_3, rfl⟩ := list4 hl
  have g_0 := hf 0 (⟨ "Name", 9, 0, false, "", "", 0⟩) rfl
  simp only [cells9] at g_0
  have g_1 := hf 1 (⟨ "Place", 22, 1, false, "", "", 16⟩) rfl
  simp only [cells22] at g_1
  have g_2 := hf 2 (⟨ "ArmU", 22, 4, false, "", "", 40⟩) rfl
  simp only [cells22] at g_2
  have g_3 := hf 3 (⟨ "ArmV", 22, 7, false, "", "", 64⟩) rfl
  simp only [cells22] at g_3
  have q_0 : DataW.trod enc Tryz.prog W 0 (fun _ => true) held m 9 [c0] = some x_0 := g_0
  have q_1 : DataW.trod enc Tryz.prog W 0 (fun _ => true) held m 22 [c1, c2, c3] = some x_1 := g_1
  have q_2 : DataW.trod enc Tryz.prog W 0 (fun _ => true) held m 22 [c4, c5, c6] = some x_2 := g_2
  have q_3 : DataW.trod enc Tryz.prog W 0 (fun _ => true) held m 22 [c7, c8, c9] = some x_3 := g_3
  obtain ⟨a_0, ha_0⟩ := read9 _ _ _ q_0
  obtain ⟨a_1, ha_1⟩ := read22 _ _ _ q_1
  obtain ⟨a_2, ha_2⟩ := read22 _ _ _ q_2
  obtain ⟨a_3, ha_3⟩ := read22 _ _ _ q_3
  exact ⟨⟨a_0, a_1, a_2, a_3⟩, fun m => concs_append (ha_0 m) (concs_append (ha_1 m) (concs_append (ha_2 m) (ha_3 m)))⟩
theorem cells34 : Tryz.prog.cellsOf 34 = 4 := by kernel_rfl
theorem arr4 {α : Type} {cs : Array α} (h : cs.size = 4) : ∃ c0 c1 c2 c3, cs = #[c0, c1, c2, c3] := by
  obtain ⟨l⟩ := cs
  match l, h with
  | [c0, c1, c2, c3], _ => exact ⟨c0, c1, c2, c3, rfl⟩
theorem types34 : Tryz.prog.cellTypes Tryz.prog.depth 34 = some [3, 3, 3, 3] := by kernel_rfl
def enc34 (a : S__4_int) : List SV := [(.int .i64 a.e0), (.int .i64 a.e1), (.int .i64 a.e2), (.int .i64 a.e3)]
theorem read34 {H : Type} {enc : TypeId × Value → H} {W : World} {held : Bool} (n : Nat) (cs : List Value) (x : DataW H × List MemPlace) (h : DataW.trod enc Tryz.prog W 0 (fun _ => true) held n 34 cs = some x) : ∃ a : S__4_int, ∀ m, concs m (enc34 a) = some cs := by
  have hlen : cs.length = 4 := (DataW.trod_array Tryz.underlying34 h).elim fun _ h1 => h1.elim fun _ h2 => h2.2.2.1.trans cells34
  obtain ⟨c0, c1, c2, c3, rfl⟩ := list4 hlen
  obtain ⟨xs, m, _, hx, _, hl, hf⟩ := DataW.trod_array Tryz.underlying34 h
  obtain ⟨x_0, x_1, x_2, x_3, rfl⟩ := list4 hl
  have g_0 := hf 0 (by omega)
  have g_1 := hf 1 (by omega)
  have g_2 := hf 2 (by omega)
  have g_3 := hf 3 (by omega)
  simp only [cells3] at g_0 g_1 g_2 g_3
  have q_0 : DataW.trod enc Tryz.prog W 0 (fun _ => true) held m 3 [c0] = some x_0 := g_0
  have q_1 : DataW.trod enc Tryz.prog W 0 (fun _ => true) held m 3 [c1] = some x_1 := g_1
  have q_2 : DataW.trod enc Tryz.prog W 0 (fun _ => true) held m 3 [c2] = some x_2 := g_2
  have q_3 : DataW.trod enc Tryz.prog W 0 (fun _ => true) held m 3 [c3] = some x_3 := g_3
  obtain ⟨a_0, ha_0⟩ := read3 _ _ _ q_0
  obtain ⟨a_1, ha_1⟩ := read3 _ _ _ q_1
  obtain ⟨a_2, ha_2⟩ := read3 _ _ _ q_2
  obtain ⟨a_3, ha_3⟩ := read3 _ _ _ q_3
  exact ⟨⟨a_0, a_1, a_2, a_3⟩, fun m => concs_append (ha_0 m) (concs_append (ha_1 m) (concs_append (ha_2 m) (ha_3 m)))⟩
theorem cells67 : Tryz.prog.cellsOf 67 = 3 := by kernel_rfl
theorem read67 {H : Type} {enc : TypeId × Value → H} {W : World} {held : Bool} (n : Nat) (cs : List Value) (x : DataW H × List MemPlace) (h : DataW.trod enc Tryz.prog W 0 (fun _ => true) held n 67 cs = some x) : ∃ a : S_api_Arrival, ∀ m, concs m (enc67 a) = some cs := by
  have hlen : cs.length = 3 := (DataW.trod_struct Tryz.underlying67 h).elim fun _ h1 => h1.elim fun _ h2 => h2.2.2.1.trans cells67
  obtain ⟨c0, c1, c2, rfl⟩ := list3 hlen
  obtain ⟨xs, m, _, hx, _, hl, hf⟩ := DataW.trod_struct Tryz.underlying67 h
  obtain ⟨x_0, x_1, x_2, rfl⟩ := list3 hl
  have g_0 := hf 0 (⟨ "Site", 3, 0, false, "", "", 0⟩) rfl
  simp only [cells3] at g_0
  have g_1 := hf 1 (⟨ "Time", 3, 1, false, "", "", 8⟩) rfl
  simp only [cells3] at g_1
  have g_2 := hf 2 (⟨ "Slack", 3, 2, false, "", "", 16⟩) rfl
  simp only [cells3] at g_2
  have q_0 : DataW.trod enc Tryz.prog W 0 (fun _ => true) held m 3 [c0] = some x_0 := g_0
  have q_1 : DataW.trod enc Tryz.prog W 0 (fun _ => true) held m 3 [c1] = some x_1 := g_1
  have q_2 : DataW.trod enc Tryz.prog W 0 (fun _ => true) held m 3 [c2] = some x_2 := g_2
  obtain ⟨a_0, ha_0⟩ := read3 _ _ _ q_0
  obtain ⟨a_1, ha_1⟩ := read3 _ _ _ q_1
  obtain ⟨a_2, ha_2⟩ := read3 _ _ _ q_2
  exact ⟨⟨a_0, a_1, a_2⟩, fun m => concs_append (ha_0 m) (concs_append (ha_1 m) (ha_2 m))⟩
/-- Where the run begins: the listed tables, the arguments' rows. -/
noncomputable def rowsB (r0_0 : ARow) (r2 : ARow) : List BRow := [none, none, none, some (true, ⟨3, 0, 20⟩, intCells .u64 [1, 10, 100, 1000, 10000, 100000, 1000000, 10000000, 100000000, 1000000000, 10000000000, 100000000000, 1000000000000, 10000000000000, 100000000000000, 1000000000000000, 10000000000000000, 100000000000000000, 1000000000000000000, 10000000000000000000]), some (true, ⟨4, 0, 32⟩, intCells .u8 [0, 1, 28, 2, 29, 14, 24, 3, 30, 22, 20, 15, 25, 17, 4, 8, 31, 27, 13, 23, 21, 19, 16, 7, 26, 12, 18, 6, 11, 5, 10, 9]), some (true, ⟨5, 0, 64⟩, intCells .u8 [0, 1, 56, 2, 57, 49, 28, 3, 61, 58, 42, 50, 38, 29, 17, 4, 62, 47, 59, 36, 45, 43, 51, 22, 53, 39, 33, 30, 24, 18, 12, 5, 63, 55, 48, 27, 60, 41, 37, 16, 46, 35, 44, 21, 52, 32, 23, 11, 54, 26, 40, 15, 34, 20, 31, 10, 25, 14, 19, 9, 13, 8, 7, 6]), argB r0_0, argB r2]
theorem relB {W : World} {r0_0 : ARow} {r2 : ARow} (hf : FixOK W Go.Proofs.YtkmmplbbefijaaaGreatDoor.works.fixes) (h0_0 : ∀ x, r0_0 = some x → x.1.block < W.heap.size ∧ ∀ m, RowRel m x.1 none .lost x.2 W.heap[x.1.block]?) (h2 : ∀ x, r2 = some x → x.1.block < W.heap.size ∧ ∀ m, RowRel m x.1 none .lost x.2 W.heap[x.1.block]?) : MRel W.heap.size (mapB (rowsB r0_0 r2)) (memB (rowsB r0_0 r2)) W := memB_rel3 fun j x hj => by
  unfold rowsB at hj
  rcases j with _ | _ | _ | _ | _ | _ | _ | _ | j
  · simp at hj
  · simp at hj
  · simp at hj
  · cases (Option.some.inj hj)
    have := fix_row hf (x := (3, intCells .u64 [1, 10, 100, 1000, 10000, 100000, 1000000, 10000000, 100000000, 1000000000, 10000000000, 100000000000, 1000000000000, 10000000000000, 100000000000000, 1000000000000000, 10000000000000000, 100000000000000000, 1000000000000000000, 10000000000000000000])) (.tail _ (.tail _ (.head _)))
    exact ⟨this.1, this.2 _, fun _ => ⟨rfl, rfl⟩⟩
  · cases (Option.some.inj hj)
    have := fix_row hf (x := (4, intCells .u8 [0, 1, 28, 2, 29, 14, 24, 3, 30, 22, 20, 15, 25, 17, 4, 8, 31, 27, 13, 23, 21, 19, 16, 7, 26, 12, 18, 6, 11, 5, 10, 9])) (.head _)
    exact ⟨this.1, this.2 _, fun _ => ⟨rfl, rfl⟩⟩
  · cases (Option.some.inj hj)
    have := fix_row hf (x := (5, intCells .u8 [0, 1, 56, 2, 57, 49, 28, 3, 61, 58, 42, 50, 38, 29, 17, 4, 62, 47, 59, 36, 45, 43, 51, 22, 53, 39, 33, 30, 24, 18, 12, 5, 63, 55, 48, 27, 60, 41, 37, 16, 46, 35, 44, 21, 52, 32, 23, 11, 54, 26, 40, 15, 34, 20, 31, 10, 25, 14, 19, 9, 13, 8, 7, 6])) (.tail _ (.head _))
    exact ⟨this.1, this.2 _, fun _ => ⟨rfl, rfl⟩⟩
  · have hj' : argB r0_0 = some x := Option.some.inj hj
    obtain ⟨y, hy, rfl⟩ := Option.map_eq_some_iff.1 hj'
    exact ⟨(h0_0 y hy).1, (h0_0 y hy).2 _, fun h => by simp at h⟩
  · have hj' : argB r2 = some x := Option.some.inj hj
    obtain ⟨y, hy, rfl⟩ := Option.map_eq_some_iff.1 hj'
    exact ⟨(h2 y hy).1, (h2 y hy).2 _, fun h => by simp at h⟩
  · simp at hj
theorem fixB (r0_0 : ARow) (r2 : ARow) : FixIn (memB (rowsB r0_0 r2)) Go.Proofs.YtkmmplbbefijaaaGreatDoor.works.fixes := fun x hx => by
  simp only [Go.Proofs.YtkmmplbbefijaaaGreatDoor.works.fixes, List.mem_cons, List.not_mem_nil, or_false] at hx
  rcases hx with rfl | rfl | rfl
  · exact memB_fix (j := 4) (p := ⟨4, 0, 32⟩) rfl
  · exact memB_fix (j := 5) (p := ⟨5, 0, 64⟩) rfl
  · exact memB_fix (j := 3) (p := ⟨3, 0, 20⟩) rfl

set_option maxRecDepth 100000 in
theorem lifted (os : Os) (started : os.Started) (H : Type) (enc : TypeId × Value → H) :
    ReturnsInHanded {} Tryz.checked os 4 .any (fun w args => (Rows.skyRingsSpec.pre enc Tryz.prog Tryz.f4 [] false w args ∧ laidMetH Tryz.prog Rows.skyRingsRow.laid w) ∧ sizedMet enc Tryz.prog Tryz.f4 (OpenSpec.ofChange Rows.skyRingsSpec) false w args)
      (Rows.skyRingsSpec.post enc Tryz.prog Tryz.f4 false true false false) := by
  refine returnsInHanded_of_change_and (C := Tryz.checked) (X := fun w _ => laidMetH Tryz.prog Rows.skyRingsRow.laid w) (fun _ _ _ hh h => h.of_heap hh) own started (by kernel_rfl) Tryz.func4
    (ChangeSpec.witness_shaped (enc := enc) (C := Tryz.checked) (os := os) (X := fun w _ => laidMetH Tryz.prog Rows.skyRingsRow.laid w) false (World.doorLaid Tryz.prog 400 os) #[.agg #[.slice none 0 0, .int .i64 0, .int .i64 0], .agg #[.int .i64 0, .int .i64 0, .int .i64 0, .int .i64 0], .slice none 0 0] 8 rfl (World.shaped_of_RefB (by kernel_rfl) (by kernel_rfl)) (by kernel_rfl) (by kernel_rfl) (by kernel_rfl) (door_met os _)) ?_
  intro W base args ds gs before hval0 hW _ hsz hL _
  have hval : ∀ (j : Nat) t v, Tryz.f4.params[j]? = some t → args[j]? = some v → Value.okWide Tryz.prog W .any base t v := hval0
  have hW' := hW
  obtain ⟨p, q, hA0, hV, rfl, hfz, hnd⟩ := hW
  have hA : DataW.TrodAll enc Tryz.prog W 0 (fun _ => true) true Tryz.f4.params.toList args.toList ds p := hA0
  have hAk := hA
  rw [Tryz.params4] at hA hval
  obtain ⟨rfl, rfl⟩ := trodVars_none hV
  clear hA0 hval0
  simp only [List.append_nil] at hW'
  obtain ⟨v0, v1, v2, d0, d1, d2, p0, p1, p2, rfl, rfl, rfl, h0, h1, h2⟩ := trodAll_three hA
  have hv0 := hval 0 33 v0 rfl rfl
  simp only [Value.okWide, Tryz.underlying33] at hv0
  obtain ⟨cs0, rfl, hsz0, ts0, hts0, _, hall0⟩ := hv0
  rw [types33] at hts0
  cases hts0
  obtain ⟨c0_0, c0_1, c0_2, rfl⟩ := arr3 (hsz0.trans cells33)
  obtain ⟨n0, h0⟩ := h0
  have g0 : DataW.trod enc Tryz.prog W 0 (fun _ => true) true n0 33 [c0_0, c0_1, c0_2] = some (d0, p0) := h0
  obtain ⟨xs_0, m_0, _, hx_0, _, hl_0, hf_0⟩ := DataW.trod_struct Tryz.underlying33 g0
  obtain ⟨x_0_0, x_0_1, x_0_2, rfl⟩ := list3 hl_0
  have g_0_0 := hf_0 0 (⟨ "L", 31, 0, false, "", "", 0⟩) rfl
  simp only [cells31] at g_0_0
  have g_0_1 := hf_0 1 (⟨ "N", 3, 1, false, "", "", 24⟩) rfl
  simp only [cells3] at g_0_1
  have g_0_2 := hf_0 2 (⟨ "Cell", 3, 2, false, "", "", 32⟩) rfl
  simp only [cells3] at g_0_2
  have q_0_0 : DataW.trod enc Tryz.prog W 0 (fun _ => true) true m_0 31 [c0_0] = some x_0_0 := g_0_0
  have q_0_1 : DataW.trod enc Tryz.prog W 0 (fun _ => true) true m_0 3 [c0_1] = some x_0_1 := g_0_1
  have q_0_2 : DataW.trod enc Tryz.prog W 0 (fun _ => true) true m_0 3 [c0_2] = some x_0_2 := g_0_2
  have hc0_0 : Cell.okWide Tryz.prog W .any base 31 c0_0 := by
    obtain ⟨u', hu', hx'⟩ := hall0 0 c0_0 rfl
    cases hu'
    exact hx'
  obtain ⟨l0_0, r0_0, k0_0, ha0_0⟩ := arg_slice (enc := enc105) (z := 10) (fun _ => rfl) cells105 ⟨(S_api_Site.mk [] (S__3_int.mk (0 : Int) (0 : Int) (0 : Int)) (S__3_int.mk (0 : Int) (0 : Int) (0 : Int)) (S__3_int.mk (0 : Int) (0 : Int) (0 : Int)))⟩ Tryz.underlying31 hc0_0 q_0_0 read105
  have hm0_0 := ha0_0.len
  unfold maxLen at hm0_0
  obtain ⟨b0_1, hb0_1⟩ := read3 _ _ _ q_0_1
  obtain ⟨b0_2, hb0_2⟩ := read3 _ _ _ q_0_2
  have hv1 := hval 1 34 v1 rfl rfl
  simp only [Value.okWide, Tryz.underlying34] at hv1
  obtain ⟨cs1, rfl, hsz1, ts1, hts1, _, hall1⟩ := hv1
  rw [types34] at hts1
  cases hts1
  obtain ⟨c1_0, c1_1, c1_2, c1_3, rfl⟩ := arr4 (hsz1.trans cells34)
  obtain ⟨n1, h1⟩ := h1
  have g1 : DataW.trod enc Tryz.prog W 0 (fun _ => true) true n1 34 [c1_0, c1_1, c1_2, c1_3] = some (d1, p1) := h1
  obtain ⟨b1, hb1⟩ := read34 _ _ _ g1
  have hv2 := hval 2 35 v2 rfl rfl
  have hc2 : Cell.okWide Tryz.prog W .any base 35 v2 := by
    simpa only [Value.okWide, Tryz.underlying35] using hv2
  obtain ⟨n2, h2⟩ := h2
  have hcl2 : v2.cells.toList = [v2] := by
    obtain ⟨a, len, cap, rfl⟩ := okWide_slice Tryz.underlying35 hv2
    rfl
  rw [hcl2] at h2
  obtain ⟨l2, r2, k2, ha2⟩ := arg_slice (enc := enc67) (z := 3) (fun _ => rfl) cells67 ⟨(S_api_Arrival.mk (0 : Int) (0 : Int) (0 : Int))⟩ Tryz.underlying35 hc2 h2 read67
  have hm2 := ha2.len
  unfold maxLen at hm2
  have hrel : MRel W.heap.size (mapB (rowsB r0_0 r2)) (memB (rowsB r0_0 r2)) W := relB (fix_ok hL) ha0_0.row ha2.row
  have m0_0 : ∀ x, r0_0 = some x → mapB (rowsB r0_0 r2) (Pos.ofNat 6) = some x.1 := fun x hx => mapB_at (x := (false, x.1, x.2)) (by rw [hx]; rfl)
  have f0_0 : ∀ x, r0_0 = some x → rd (memB (rowsB r0_0 r2)) (Pos.ofNat 6) = some x.2 := fun x hx => ro_rd (memB_ro (p := x.1) (by rw [hx]; rfl))
  have m2 : ∀ x, r2 = some x → mapB (rowsB r0_0 r2) (Pos.ofNat 7) = some x.1 := fun x hx => mapB_at (x := (false, x.1, x.2)) (by rw [hx]; rfl)
  have f2 : ∀ x, r2 = some x → rd (memB (rowsB r0_0 r2)) (Pos.ofNat 7) = some x.2 := fun x hx => ro_rd (memB_ro (p := x.1) (by rw [hx]; rfl))
  have hlaw := law_eq (l0_0.length + l2.length + 1200) ⟨l0_0, b0_1, b0_2⟩ b1 l2 (by simp only; omega) (by simp only; omega) (by omega) (by omega) rfl
  have hrun := law09_SkyRings_run (l0_0.length + l2.length + 1200) ⟨l0_0, b0_1, b0_2⟩ b1 l2 _ _ true (memB (rowsB r0_0 r2)) (ha0_0.slc _ 6 f0_0) (ha2.slc _ 7 f2) (fixB r0_0 r2) hlaw
  have has : concs (mapB (rowsB r0_0 r2)) [.agg [argS r0_0 6 l0_0.length k0_0, (.int .i64 b0_1), (.int .i64 b0_2)], .agg [(.int .i64 b1.e0), (.int .i64 b1.e1), (.int .i64 b1.e2), (.int .i64 b1.e3)], argS r2 7 l2.length k2] = some [.agg #[c0_0, c0_1, c0_2], .agg #[c1_0, c1_1, c1_2, c1_3], v2] := by
    refine concs_cons (conc_aggL (concs_append (concs_cons (ha0_0.val _ 6 m0_0) (concs_nil _)) (concs_append (hb0_1 _) (hb0_2 _)))) (concs_cons (conc_aggL (hb1 _)) (concs_cons (ha2.val _ 7 m2) (concs_nil _)))
  have hcalls : Calls Tryz.prog 4 #[.agg #[c0_0, c0_1, c0_2], .agg #[c1_0, c1_1, c1_2, c1_3], v2] W fun e W' => e = .returned (.bool true) ∧ Below W.heap.size W W' := by
    refine (Run.calls (Q := law09_SkyRings_post true) mixed Tryz.func4 rfl rfl (frozen_rel hrel) (vs := #[.agg #[c0_0, c0_1, c0_2], .agg #[c1_0, c1_1, c1_2, c1_3], v2]) has hrun).mono fun e W' ⟨m', M', s, x, he, hx, hs, hst⟩ => ?_
    have hs' : s = .bool true := hs
    subst hs'
    have hx' : x = .bool true := by simp [conc] at hx; exact hx.symm
    subst hx'
    exact ⟨he, hst.below⟩
  refine hcalls.mono fun e W' ⟨he, hb⟩ => ?_
  subst he
  exact ⟨_, rfl, _, _, _, [], _, [], hW', trodAll_cons_mk (shut_bool Tryz.underlying4 _) trodAll_mk0, trodAll_below kids full hb within hAk, rfl, hb.frame _, fun h => by cases h⟩

theorem hfn : Tryz.prog.funcNamed Rows.skyRingsRow.func = some 4 := by kernel_rfl
theorem hinst : Tryz.f4.isInstance Tryz.prog Rows.skyRingsRow.origin Rows.skyRingsRow.targs := of_decide_eq_true (by kernel_rfl)
theorem hwrap : Tryz.f4.isWrapper Tryz.prog Rows.skyRingsRow.wrapper Rows.skyRingsRow.mainSum := by
  unfold Func.isWrapper
  first
    | (rw [if_pos (by decide +kernel)]; kernel_rfl)
    | (rw [if_neg (by decide +kernel)]; exact ⟨rfl, rfl⟩)
set_option maxRecDepth 100000 in
theorem facts : joinedFacts Tryz.prog 4 Tryz.f4 Rows.skyRingsSpec Rows.skyRingsRow = true := (and2 (and2 (and2 (and2 (and2 (and2 (and2 (and2 (and2 (and2 (and2 (and2 (and2 (and2 (and2 (and2 (and2 (and2 (and2 (and2 (and2 (and2 (and2 (and2 (and2 (and2 (and2 (and2 (and2 (and2 (and2 j0 j1) j2) j3) j4) j5) j6) j7) j8) j9) j10) j11) j12) j13) j14) j15) j16) j17) j18) j19) j20) j21) j22) j23) j24) j25) j26) j27) j28) j29) j30) j31)

theorem over : Rows.SkyRingsSaid :=
  OpenClaim.holds_of_wide (p := Tryz.pinned) (s := Rows.skyRingsSpec) (c := Rows.skyRingsRow) 4 Tryz.f4 rfl rfl rfl rfl rfl rfl rfl ⟨rfl, rfl, rfl, rfl, rfl⟩ rfl rfl rfl rfl rfl hfn Tryz.func4 facts hinst hwrap
    (fun os started H enc _ => lifted os started H enc)
end Go.Proofs.YtkmmplbbefijaaaGreatDoor.skyRings
