/- The row holds: the call answers true whatever its arguments are, and they read behind it as before. -/
import Derived.Test.YtoobfmfgbcohcaaDoorAlertDraftsMath8
import Derived.Test.YtoobfmfgbcohcaaDoorAlertDraftsFacts
import Derived.Test.YtoobfmfgbcohcaaDoorRows
import Derived.WalkKit
import Derived.ProofKit
import Derived.OpenShut
import Derived.LaidMore
import Derived.Stop.Joined
import Derived.Lib.SmallJoins
import Derived.Test.YtoobfmfgbcohcaaDoorEvL18
namespace Go.Proofs.YtoobfmfgbcohcaaDoor.alertDrafts
open Go.ChangeShapes Go.WideShapes Go.ChangeAt Go.RowKit Go.Joins Go.Ev Go.Ev.AlertDrafts

set_option linter.unusedVariables false
theorem own : ownKnob Tryd.prog.godebug = none := by kernel_rfl
theorem mixed : Tryd.prog.follows .mixedOrders = true := by kernel_rfl
theorem kids : Kids Tryd.prog (· < Tryd.prog.types.size) := kids_rows (by kernel_rfl) (by kernel_rfl)
theorem full : ∀ t e, t < Tryd.prog.types.size → Tryd.prog.underlying t = some (.slice e) → 0 < Tryd.prog.cellsOf e := slices_full_of Tryd.prog (by kernel_rfl)
theorem within : ∀ t ∈ Tryd.f5.params.toList, t < Tryd.prog.types.size := by
  have h : (Tryd.f5.params.toList.all fun t => decide (t < Tryd.prog.types.size)) = true := by kernel_rfl
  intro t ht
  exact of_decide_eq_true (List.all_eq_true.1 h t ht)

theorem door_met (os : Os) (args : Array Value) : laidMetH Tryd.prog Rows.alertDraftsRow.laid ((World.doorLaid Tryd.prog 400 os).forCall (fun _ _ => 0) ⟨#[], args, []⟩).memory :=
  laidMetH_of_parts3 (fuel := 8) (laidMet_of_run' 8 (by kernel_rfl) (by kernel_rfl)) (by kernel_rfl) (by kernel_rfl)

set_option maxRecDepth 100000 in
theorem fix_ok {W : World} (h : laidMetH Tryd.prog Rows.alertDraftsRow.laid W) : FixOK W Go.Proofs.YtoobfmfgbcohcaaDoor.works.fixes := by
  rw [MakeChecks.laidMetH_plain _ _ _ (by kernel_rfl)] at h
  intro x hx
  simp only [Go.Proofs.YtoobfmfgbcohcaaDoor.works.fixes, List.mem_cons, List.not_mem_nil, or_false] at hx
  rcases hx with rfl | rfl | rfl
  · exact laid_tab h (name := "math/bits.deBruijn32tab") (k := .u8) (zs := [0, 1, 28, 2, 29, 14, 24, 3, 30, 22, 20, 15, 25, 17, 4, 8, 31, 27, 13, 23, 21, 19, 16, 7, 26, 12, 18, 6, 11, 5, 10, 9]) (g := 1) (t := 154) (e := 5) (n := 32) (by unfold Rows.alertDraftsRow; exact .head _) (by kernel_rfl) (by kernel_rfl) (by kernel_rfl) (by kernel_rfl) (by kernel_rfl) (by kernel_rfl) (by simp)
  · exact laid_tab h (name := "math/bits.deBruijn64tab") (k := .u8) (zs := [0, 1, 56, 2, 57, 49, 28, 3, 61, 58, 42, 50, 38, 29, 17, 4, 62, 47, 59, 36, 45, 43, 51, 22, 53, 39, 33, 30, 24, 18, 12, 5, 63, 55, 48, 27, 60, 41, 37, 16, 46, 35, 44, 21, 52, 32, 23, 11, 54, 26, 40, 15, 34, 20, 31, 10, 25, 14, 19, 9, 13, 8, 7, 6]) (g := 2) (t := 155) (e := 5) (n := 64) (by unfold Rows.alertDraftsRow; exact .tail _ (.head _)) (by kernel_rfl) (by kernel_rfl) (by kernel_rfl) (by kernel_rfl) (by kernel_rfl) (by kernel_rfl) (by simp)
  · exact laid_tab h (name := "internal/strconv.uint64pow10") (k := .u64) (zs := [1, 10, 100, 1000, 10000, 100000, 1000000, 10000000, 100000000, 1000000000, 10000000000, 100000000000, 1000000000000, 10000000000000, 100000000000000, 1000000000000000, 10000000000000000, 100000000000000000, 1000000000000000000, 10000000000000000000]) (g := 0) (t := 148) (e := 141) (n := 20) (by unfold Rows.alertDraftsRow; exact .tail _ (.tail _ (.head _))) (by kernel_rfl) (by kernel_rfl) (by kernel_rfl) (by kernel_rfl) (by kernel_rfl) (by kernel_rfl) (by simp)

theorem cells29 : Tryd.prog.cellsOf 29 = 9 := by kernel_rfl
theorem arr9 {α : Type} {cs : Array α} (h : cs.size = 9) : ∃ c0 c1 c2 c3 c4 c5 c6 c7 c8, cs = #[c0, c1, c2, c3, c4, c5, c6, c7, c8] := by
  obtain ⟨l⟩ := cs
  match l, h with
  | [c0, c1, c2, c3, c4, c5, c6, c7, c8], _ => exact ⟨c0, c1, c2, c3, c4, c5, c6, c7, c8, rfl⟩
theorem types29 : Tryd.prog.cellTypes Tryd.prog.depth 29 = some [9, 3, 3, 3, 3, 3, 27, 4, 3] := by kernel_rfl
theorem weights0 {P : Program} {H : Type} {t0 : TypeId} {ts : List TypeId} {f0 : DataW H} {gs : List (DataW H)} {y : Nat} (h : y ∈ DataW.weights P t0 f0) : y ∈ DataW.weightsEach P (t0 :: ts) (f0 :: gs) := by
  simp only [DataW.weightsEach, List.mem_append]
  exact .inl h
theorem list8 {α : Type} : ∀ {l : List α}, l.length = 8 → ∃ a0 a1 a2 a3 a4 a5 a6 a7, l = [a0, a1, a2, a3, a4, a5, a6, a7]
  | [a0, a1, a2, a3, a4, a5, a6, a7], _ => ⟨a0, a1, a2, a3, a4, a5, a6, a7, rfl⟩
theorem cells9 : Tryd.prog.cellsOf 9 = 1 := by kernel_rfl
theorem cells3 : Tryd.prog.cellsOf 3 = 1 := by kernel_rfl
theorem cells26 : Tryd.prog.cellsOf 26 = 2 := by kernel_rfl
theorem cells27 : Tryd.prog.cellsOf 27 = 1 := by kernel_rfl
theorem cells4 : Tryd.prog.cellsOf 4 = 1 := by kernel_rfl
def enc9 (a : (List UInt8)) : List SV := [(.str a)]
theorem read9 {H : Type} {enc : TypeId × Value → H} {W : World} {held : Bool} (n : Nat) (cs : List Value) (x : DataW H × List MemPlace) (h : DataW.trod enc Tryd.prog W 0 (fun _ => true) held n 9 cs = some x) : ∃ a : (List UInt8), ∀ m, concs m (enc9 a) = some cs := by
  obtain ⟨a, rfl, _, _⟩ := DataW.trod_string Tryd.underlying9 h
  refine ⟨a.data.toList, fun m => ?_⟩
  show concs m [.str a.data.toList] = _
  simp only [concs, conc, string_self]
  rfl
theorem read3 {H : Type} {enc : TypeId × Value → H} {W : World} {held : Bool} (n : Nat) (cs : List Value) (x : DataW H × List MemPlace) (h : DataW.trod enc Tryd.prog W 0 (fun _ => true) held n 3 cs = some x) : ∃ a : Int, ∀ m, concs m (enc3 a) = some cs := by
  obtain ⟨a, rfl, _, _⟩ := DataW.trod_int Tryd.underlying3 h
  exact ⟨a, fun m => rfl⟩
def enc26 (a : S_api_Chance) : List SV := [(.int .i64 a.N), (.int .i64 a.Of)]
theorem list2 {α : Type} : ∀ {l : List α}, l.length = 2 → ∃ a0 a1, l = [a0, a1]
  | [a0, a1], _ => ⟨a0, a1, rfl⟩
theorem read26 {H : Type} {enc : TypeId × Value → H} {W : World} {held : Bool} (n : Nat) (cs : List Value) (x : DataW H × List MemPlace) (h : DataW.trod enc Tryd.prog W 0 (fun _ => true) held n 26 cs = some x) : ∃ a : S_api_Chance, ∀ m, concs m (enc26 a) = some cs := by
  have hlen : cs.length = 2 := (DataW.trod_struct Tryd.underlying26 h).elim fun _ h1 => h1.elim fun _ h2 => h2.2.2.1.trans cells26
  obtain ⟨c0, c1, rfl⟩ := list2 hlen
  obtain ⟨xs, m, _, hx, _, hl, hf⟩ := DataW.trod_struct Tryd.underlying26 h
  obtain ⟨x_0, x_1, rfl⟩ := list2 hl
  have g_0 := hf 0 (⟨ "N", 3, 0, false, "", "", 0⟩) rfl
  simp only [cells3] at g_0
  have g_1 := hf 1 (⟨ "Of", 3, 1, false, "", "", 8⟩) rfl
  simp only [cells3] at g_1
  have q_0 : DataW.trod enc Tryd.prog W 0 (fun _ => true) held m 3 [c0] = some x_0 := g_0
  have q_1 : DataW.trod enc Tryd.prog W 0 (fun _ => true) held m 3 [c1] = some x_1 := g_1
  obtain ⟨a_0, ha_0⟩ := read3 _ _ _ q_0
  obtain ⟨a_1, ha_1⟩ := read3 _ _ _ q_1
  exact ⟨⟨a_0, a_1⟩, fun m => concs_append (ha_0 m) (ha_1 m)⟩
theorem bytes3 : Tryd.prog.bytesOf 3 = 8 := by kernel_rfl
def enc4 (a : Bool) : List SV := [(.bool a)]
theorem read4 {H : Type} {enc : TypeId × Value → H} {W : World} {held : Bool} (n : Nat) (cs : List Value) (x : DataW H × List MemPlace) (h : DataW.trod enc Tryd.prog W 0 (fun _ => true) held n 4 cs = some x) : ∃ a : Bool, ∀ m, concs m (enc4 a) = some cs := by
  obtain ⟨a, rfl, _⟩ := DataW.trod_bool Tryd.underlying4 h
  exact ⟨a, fun m => rfl⟩
theorem cells55 : Tryd.prog.cellsOf 55 = 10 := by kernel_rfl
theorem arr10 {α : Type} {cs : Array α} (h : cs.size = 10) : ∃ c0 c1 c2 c3 c4 c5 c6 c7 c8 c9, cs = #[c0, c1, c2, c3, c4, c5, c6, c7, c8, c9] := by
  obtain ⟨l⟩ := cs
  match l, h with
  | [c0, c1, c2, c3, c4, c5, c6, c7, c8, c9], _ => exact ⟨c0, c1, c2, c3, c4, c5, c6, c7, c8, c9, rfl⟩
theorem types55 : Tryd.prog.cellTypes Tryd.prog.depth 55 = some [9, 3, 3, 3, 3, 3, 3, 3, 3, 27] := by kernel_rfl
theorem weights1 {P : Program} {H : Type} {t0 t1 : TypeId} {ts : List TypeId} {f0 f1 : DataW H} {gs : List (DataW H)} {y : Nat} (h : y ∈ DataW.weights P t1 f1) : y ∈ DataW.weightsEach P (t0 :: t1 :: ts) (f0 :: f1 :: gs) := by
  simp only [DataW.weightsEach, List.mem_append]
  exact .inr (.inl h)
theorem list6 {α : Type} : ∀ {l : List α}, l.length = 6 → ∃ a0 a1 a2 a3 a4 a5, l = [a0, a1, a2, a3, a4, a5]
  | [a0, a1, a2, a3, a4, a5], _ => ⟨a0, a1, a2, a3, a4, a5, rfl⟩
theorem cells53 : Tryd.prog.cellsOf 53 = 5 := by kernel_rfl
def enc53 (a : S_api_Candidate) : List SV := [(.int .i64 a.Pair.A), (.int .i64 a.Pair.B), (.int .i64 a.Pair.Loud), (.int .i64 a.Chance.N), (.int .i64 a.Chance.Of)]
def enc51 (a : S_api_Pair) : List SV := [(.int .i64 a.A), (.int .i64 a.B), (.int .i64 a.Loud)]
theorem list3 {α : Type} : ∀ {l : List α}, l.length = 3 → ∃ a0 a1 a2, l = [a0, a1, a2]
  | [a0, a1, a2], _ => ⟨a0, a1, a2, rfl⟩
theorem cells51 : Tryd.prog.cellsOf 51 = 3 := by kernel_rfl
theorem read51 {H : Type} {enc : TypeId × Value → H} {W : World} {held : Bool} (n : Nat) (cs : List Value) (x : DataW H × List MemPlace) (h : DataW.trod enc Tryd.prog W 0 (fun _ => true) held n 51 cs = some x) : ∃ a : S_api_Pair, ∀ m, concs m (enc51 a) = some cs := by
  have hlen : cs.length = 3 := (DataW.trod_struct Tryd.underlying51 h).elim fun _ h1 => h1.elim fun _ h2 => h2.2.2.1.trans cells51
  obtain ⟨c0, c1, c2, rfl⟩ := list3 hlen
  obtain ⟨xs, m, _, hx, _, hl, hf⟩ := DataW.trod_struct Tryd.underlying51 h
  obtain ⟨x_0, x_1, x_2, rfl⟩ := list3 hl
  have g_0 := hf 0 (⟨ "A", 3, 0, false, "", "", 0⟩) rfl
  simp only [cells3] at g_0
  have g_1 := hf 1 (⟨ "B", 3, 1, false, "", "", 8⟩) rfl
  simp only [cells3] at g_1
  have g_2 := hf 2 (⟨ "Loud", 3, 2, false, "", "", 16⟩) rfl
  simp only [cells3] at g_2
  have q_0 : DataW.trod enc Tryd.prog W 0 (fun _ => true) held m 3 [c0] = some x_0 := g_0
  have q_1 : DataW.trod enc Tryd.prog W 0 (fun _ => true) held m 3 [c1] = some x_1 := g_1
  have q_2 : DataW.trod enc Tryd.prog W 0 (fun _ => true) held m 3 [c2] = some x_2 := g_2
  obtain ⟨a_0, ha_0⟩ := read3 _ _ _ q_0
  obtain ⟨a_1, ha_1⟩ := read3 _ _ _ q_1
  obtain ⟨a_2, ha_2⟩ := read3 _ _ _ q_2
  exact ⟨⟨a_0, a_1, a_2⟩, fun m => concs_append (ha_0 m) (concs_append (ha_1 m) (ha_2 m))⟩
theorem list5 {α : Type} : ∀ {l : List α}, l.length = 5 → ∃ a0 a1 a2 a3 a4, l = [a0, a1, a2, a3, a4]
  | [a0, a1, a2, a3, a4], _ => ⟨a0, a1, a2, a3, a4, rfl⟩
theorem read53 {H : Type} {enc : TypeId × Value → H} {W : World} {held : Bool} (n : Nat) (cs : List Value) (x : DataW H × List MemPlace) (h : DataW.trod enc Tryd.prog W 0 (fun _ => true) held n 53 cs = some x) : ∃ a : S_api_Candidate, ∀ m, concs m (enc53 a) = some cs := by
  have hlen : cs.length = 5 := (DataW.trod_struct Tryd.underlying53 h).elim fun _ h1 => h1.elim fun _ h2 => h2.2.2.1.trans cells53
  obtain ⟨c0, c1, c2, c3, c4, rfl⟩ := list5 hlen
  obtain ⟨xs, m, _, hx, _, hl, hf⟩ := DataW.trod_struct Tryd.underlying53 h
  obtain ⟨x_0, x_1, rfl⟩ := list2 hl
  have g_0 := hf 0 (⟨ "Pair", 51, 0, false, "", "", 0⟩) rfl
  simp only [cells51] at g_0
  have g_1 := hf 1 (⟨ "Chance", 26, 3, false, "", "", 24⟩) rfl
  simp only [cells26] at g_1
  have q_0 : DataW.trod enc Tryd.prog W 0 (fun _ => true) held m 51 [c0, c1, c2] = some x_0 := g_0
  have q_1 : DataW.trod enc Tryd.prog W 0 (fun _ => true) held m 26 [c3, c4] = some x_1 := g_1
  obtain ⟨a_0, ha_0⟩ := read51 _ _ _ q_0
  obtain ⟨a_1, ha_1⟩ := read26 _ _ _ q_1
  exact ⟨⟨a_0, a_1⟩, fun m => concs_append (ha_0 m) (ha_1 m)⟩
/-- Where the run begins: the listed tables, the arguments' rows. -/
noncomputable def rowsB (r0_5 : ARow) (r1_5 : ARow) : List BRow := [some (true, ⟨0, 0, 20⟩, intCells .u64 [1, 10, 100, 1000, 10000, 100000, 1000000, 10000000, 100000000, 1000000000, 10000000000, 100000000000, 1000000000000, 10000000000000, 100000000000000, 1000000000000000, 10000000000000000, 100000000000000000, 1000000000000000000, 10000000000000000000]), some (true, ⟨1, 0, 32⟩, intCells .u8 [0, 1, 28, 2, 29, 14, 24, 3, 30, 22, 20, 15, 25, 17, 4, 8, 31, 27, 13, 23, 21, 19, 16, 7, 26, 12, 18, 6, 11, 5, 10, 9]), some (true, ⟨2, 0, 64⟩, intCells .u8 [0, 1, 56, 2, 57, 49, 28, 3, 61, 58, 42, 50, 38, 29, 17, 4, 62, 47, 59, 36, 45, 43, 51, 22, 53, 39, 33, 30, 24, 18, 12, 5, 63, 55, 48, 27, 60, 41, 37, 16, 46, 35, 44, 21, 52, 32, 23, 11, 54, 26, 40, 15, 34, 20, 31, 10, 25, 14, 19, 9, 13, 8, 7, 6]), argB r0_5, argB r1_5]
theorem relB {W : World} {r0_5 : ARow} {r1_5 : ARow} (hf : FixOK W Go.Proofs.YtoobfmfgbcohcaaDoor.works.fixes) (h0_5 : ∀ x, r0_5 = some x → x.1.block < W.heap.size ∧ ∀ m, RowRel m x.1 none .lost x.2 W.heap[x.1.block]?) (h1_5 : ∀ x, r1_5 = some x → x.1.block < W.heap.size ∧ ∀ m, RowRel m x.1 none .lost x.2 W.heap[x.1.block]?) : MRel W.heap.size (mapB (rowsB r0_5 r1_5)) (memB (rowsB r0_5 r1_5)) W := memB_rel3 fun j x hj => by
  unfold rowsB at hj
  rcases j with _ | _ | _ | _ | _ | j
  · cases (Option.some.inj hj)
    have := fix_row hf (x := (0, intCells .u64 [1, 10, 100, 1000, 10000, 100000, 1000000, 10000000, 100000000, 1000000000, 10000000000, 100000000000, 1000000000000, 10000000000000, 100000000000000, 1000000000000000, 10000000000000000, 100000000000000000, 1000000000000000000, 10000000000000000000])) (.tail _ (.tail _ (.head _)))
    exact ⟨this.1, this.2 _, fun _ => ⟨rfl, rfl, rfl⟩⟩
  · cases (Option.some.inj hj)
    have := fix_row hf (x := (1, intCells .u8 [0, 1, 28, 2, 29, 14, 24, 3, 30, 22, 20, 15, 25, 17, 4, 8, 31, 27, 13, 23, 21, 19, 16, 7, 26, 12, 18, 6, 11, 5, 10, 9])) (.head _)
    exact ⟨this.1, this.2 _, fun _ => ⟨rfl, rfl, rfl⟩⟩
  · cases (Option.some.inj hj)
    have := fix_row hf (x := (2, intCells .u8 [0, 1, 56, 2, 57, 49, 28, 3, 61, 58, 42, 50, 38, 29, 17, 4, 62, 47, 59, 36, 45, 43, 51, 22, 53, 39, 33, 30, 24, 18, 12, 5, 63, 55, 48, 27, 60, 41, 37, 16, 46, 35, 44, 21, 52, 32, 23, 11, 54, 26, 40, 15, 34, 20, 31, 10, 25, 14, 19, 9, 13, 8, 7, 6])) (.tail _ (.head _))
    exact ⟨this.1, this.2 _, fun _ => ⟨rfl, rfl, rfl⟩⟩
  · have hj' : argB r0_5 = some x := Option.some.inj hj
    obtain ⟨y, hy, rfl⟩ := Option.map_eq_some_iff.1 hj'
    exact ⟨(h0_5 y hy).1, (h0_5 y hy).2 _, fun h => by simp at h⟩
  · have hj' : argB r1_5 = some x := Option.some.inj hj
    obtain ⟨y, hy, rfl⟩ := Option.map_eq_some_iff.1 hj'
    exact ⟨(h1_5 y hy).1, (h1_5 y hy).2 _, fun h => by simp at h⟩
  · simp at hj
theorem fixB (r0_5 : ARow) (r1_5 : ARow) : FixIn (memB (rowsB r0_5 r1_5)) Go.Proofs.YtoobfmfgbcohcaaDoor.works.fixes := fun x hx => by
  simp only [Go.Proofs.YtoobfmfgbcohcaaDoor.works.fixes, List.mem_cons, List.not_mem_nil, or_false] at hx
  rcases hx with rfl | rfl | rfl
  · exact memB_fix (j := 1) (p := ⟨1, 0, 32⟩) rfl
  · exact memB_fix (j := 2) (p := ⟨2, 0, 64⟩) rfl
  · exact memB_fix (j := 0) (p := ⟨0, 0, 20⟩) rfl

set_option maxRecDepth 100000 in
theorem lifted (os : Os) (started : os.Started) (H : Type) (enc : TypeId × Value → H) :
    ReturnsInHanded {} Tryd.checked os 5 .any (fun w args => (Rows.alertDraftsSpec.pre enc Tryd.prog Tryd.f5 [] false w args ∧ laidMetH Tryd.prog Rows.alertDraftsRow.laid w) ∧ sizedMet enc Tryd.prog Tryd.f5 (OpenSpec.ofChange Rows.alertDraftsSpec) false w args)
      (Rows.alertDraftsSpec.post enc Tryd.prog Tryd.f5 false true false false) := by
  refine returnsInHanded_of_change_and (C := Tryd.checked) (X := fun w _ => laidMetH Tryd.prog Rows.alertDraftsRow.laid w) (fun _ _ _ hh h => h.of_heap hh) own started (by kernel_rfl) Tryd.func5
    (ChangeSpec.witness_shaped (enc := enc) (C := Tryd.checked) (os := os) (X := fun w _ => laidMetH Tryd.prog Rows.alertDraftsRow.laid w) false (World.doorLaid Tryd.prog 400 os) #[.agg #[.string ⟨#[]⟩, .int .i64 0, .int .i64 0, .int .i64 0, .int .i64 0, .int .i64 0, .slice none 0 0, .bool false, .int .i64 0], .agg #[.string ⟨#[]⟩, .int .i64 0, .int .i64 0, .int .i64 0, .int .i64 0, .int .i64 0, .int .i64 0, .int .i64 0, .int .i64 0, .slice none 0 0]] 8 rfl (World.shaped_of_RefB (by kernel_rfl) (by kernel_rfl)) (by kernel_rfl) (by kernel_rfl) (by kernel_rfl) (door_met os _)) ?_
  intro W base args ds gs before hval0 hW _ hsz hL _
  have hval : ∀ (j : Nat) t v, Tryd.f5.params[j]? = some t → args[j]? = some v → Value.okWide Tryd.prog W .any base t v := hval0
  have hW' := hW
  obtain ⟨p, q, hA0, hV, rfl, hfz, hnd⟩ := hW
  have hA : DataW.TrodAll enc Tryd.prog W 0 (fun _ => true) true Tryd.f5.params.toList args.toList ds p := hA0
  have hAk := hA
  rw [Tryd.params5] at hA hval
  obtain ⟨rfl, rfl⟩ := trodVars_none hV
  clear hA0 hval0
  simp only [List.append_nil] at hW'
  obtain ⟨v0, v1, d0, d1, p0, p1, rfl, rfl, rfl, h0, h1⟩ := trodAll_two hA
  have hv0 := hval 0 29 v0 rfl rfl
  simp only [Value.okWide, Tryd.underlying29] at hv0
  obtain ⟨cs0, rfl, hsz0, ts0, hts0, _, hall0⟩ := hv0
  rw [types29] at hts0
  cases hts0
  obtain ⟨c0_0, c0_1, c0_2, c0_3, c0_4, c0_5, c0_6, c0_7, c0_8, rfl⟩ := arr9 (hsz0.trans cells29)
  obtain ⟨n0, h0⟩ := h0
  have g0 : DataW.trod enc Tryd.prog W 0 (fun _ => true) true n0 29 [c0_0, c0_1, c0_2, c0_3, c0_4, c0_5, c0_6, c0_7, c0_8] = some (d0, p0) := h0
  have hw_0 : ∀ y ∈ DataW.weights Tryd.prog 29 ((d0, p0) : DataW H × List MemPlace).1, y ≤ reachBytes := fun y hy => by
    have := List.all_eq_true.1 hsz y (by rw [Tryd.params5]; exact weights0 hy)
    simpa using this
  obtain ⟨xs_0, m_0, _, hx_0, _, hl_0, hf_0⟩ := DataW.trod_struct Tryd.underlying29 g0
  obtain ⟨x_0_0, x_0_1, x_0_2, x_0_3, x_0_4, x_0_5, x_0_6, x_0_7, rfl⟩ := list8 hl_0
  have g_0_0 := hf_0 0 (⟨ "Event", 9, 0, false, "", "", 0⟩) rfl
  simp only [cells9] at g_0_0
  have g_0_1 := hf_0 1 (⟨ "Version", 3, 1, false, "", "", 16⟩) rfl
  simp only [cells3] at g_0_1
  have g_0_2 := hf_0 2 (⟨ "Time", 3, 2, false, "", "", 24⟩) rfl
  simp only [cells3] at g_0_2
  have g_0_3 := hf_0 3 (⟨ "Chance", 26, 3, false, "", "", 32⟩) rfl
  simp only [cells26] at g_0_3
  have g_0_4 := hf_0 4 (⟨ "Grid", 3, 5, false, "", "", 48⟩) rfl
  simp only [cells3] at g_0_4
  have g_0_5 := hf_0 5 (⟨ "Cells", 27, 6, false, "", "", 56⟩) rfl
  simp only [cells27] at g_0_5
  have g_0_6 := hf_0 6 (⟨ "Withdrawn", 4, 7, false, "", "", 80⟩) rfl
  simp only [cells4] at g_0_6
  have g_0_7 := hf_0 7 (⟨ "Before", 3, 8, false, "", "", 88⟩) rfl
  simp only [cells3] at g_0_7
  have q_0_0 : DataW.trod enc Tryd.prog W 0 (fun _ => true) true m_0 9 [c0_0] = some x_0_0 := g_0_0
  have q_0_1 : DataW.trod enc Tryd.prog W 0 (fun _ => true) true m_0 3 [c0_1] = some x_0_1 := g_0_1
  have q_0_2 : DataW.trod enc Tryd.prog W 0 (fun _ => true) true m_0 3 [c0_2] = some x_0_2 := g_0_2
  have q_0_3 : DataW.trod enc Tryd.prog W 0 (fun _ => true) true m_0 26 [c0_3, c0_4] = some x_0_3 := g_0_3
  have q_0_4 : DataW.trod enc Tryd.prog W 0 (fun _ => true) true m_0 3 [c0_5] = some x_0_4 := g_0_4
  have q_0_5 : DataW.trod enc Tryd.prog W 0 (fun _ => true) true m_0 27 [c0_6] = some x_0_5 := g_0_5
  have q_0_6 : DataW.trod enc Tryd.prog W 0 (fun _ => true) true m_0 4 [c0_7] = some x_0_6 := g_0_6
  have q_0_7 : DataW.trod enc Tryd.prog W 0 (fun _ => true) true m_0 3 [c0_8] = some x_0_7 := g_0_7
  have hw_0_5 : ∀ y ∈ DataW.weights Tryd.prog 27 x_0_5.1, y ≤ reachBytes := fun y hy => hw_0 y (by
    rw [hx_0]
    unfold DataW.weights
    rw [Tryd.underlying29]
    simp only [List.map_cons, List.map_nil, DataW.weightsEach, DataW.weightsAll, List.mem_append]
    exact .inr (.inr (.inr (.inr (.inr (.inl hy))))))
  obtain ⟨b0_0, hb0_0⟩ := read9 _ _ _ q_0_0
  obtain ⟨b0_1, hb0_1⟩ := read3 _ _ _ q_0_1
  obtain ⟨b0_2, hb0_2⟩ := read3 _ _ _ q_0_2
  obtain ⟨b0_3, hb0_3⟩ := read26 _ _ _ q_0_3
  obtain ⟨b0_4, hb0_4⟩ := read3 _ _ _ q_0_4
  have hc0_5 : Cell.okWide Tryd.prog W .any base 27 c0_6 := by
    obtain ⟨u', hu', hx'⟩ := hall0 6 c0_6 rfl
    cases hu'
    exact hx'
  obtain ⟨l0_5, r0_5, k0_5, ha0_5⟩ := arg_slice (enc := enc3) (z := 1) (fun _ => rfl) cells3 ⟨(0 : Int)⟩ Tryd.underlying27 hc0_5 q_0_5 read3
  have hm0_5 := ha0_5.len
  unfold maxLen at hm0_5
  have hq0_5 := arg_weight Tryd.underlying27 q_0_5 ha0_5 (B := reachBytes) hw_0_5
  rw [bytes3] at hq0_5
  unfold reachBytes at hq0_5
  obtain ⟨b0_6, hb0_6⟩ := read4 _ _ _ q_0_6
  obtain ⟨b0_7, hb0_7⟩ := read3 _ _ _ q_0_7
  have hv1 := hval 1 55 v1 rfl rfl
  simp only [Value.okWide, Tryd.underlying55] at hv1
  obtain ⟨cs1, rfl, hsz1, ts1, hts1, _, hall1⟩ := hv1
  rw [types55] at hts1
  cases hts1
  obtain ⟨c1_0, c1_1, c1_2, c1_3, c1_4, c1_5, c1_6, c1_7, c1_8, c1_9, rfl⟩ := arr10 (hsz1.trans cells55)
  obtain ⟨n1, h1⟩ := h1
  have g1 : DataW.trod enc Tryd.prog W 0 (fun _ => true) true n1 55 [c1_0, c1_1, c1_2, c1_3, c1_4, c1_5, c1_6, c1_7, c1_8, c1_9] = some (d1, p1) := h1
  have hw_1 : ∀ y ∈ DataW.weights Tryd.prog 55 ((d1, p1) : DataW H × List MemPlace).1, y ≤ reachBytes := fun y hy => by
    have := List.all_eq_true.1 hsz y (by rw [Tryd.params5]; exact weights1 hy)
    simpa using this
  obtain ⟨xs_1, m_1, _, hx_1, _, hl_1, hf_1⟩ := DataW.trod_struct Tryd.underlying55 g1
  obtain ⟨x_1_0, x_1_1, x_1_2, x_1_3, x_1_4, x_1_5, rfl⟩ := list6 hl_1
  have g_1_0 := hf_1 0 (⟨ "Event", 9, 0, false, "", "", 0⟩) rfl
  simp only [cells9] at g_1_0
  have g_1_1 := hf_1 1 (⟨ "Time", 3, 1, false, "", "", 16⟩) rfl
  simp only [cells3] at g_1_1
  have g_1_2 := hf_1 2 (⟨ "C", 53, 2, false, "", "", 24⟩) rfl
  simp only [cells53] at g_1_2
  have g_1_3 := hf_1 3 (⟨ "Limit", 3, 7, false, "", "", 64⟩) rfl
  simp only [cells3] at g_1_3
  have g_1_4 := hf_1 4 (⟨ "Grid", 3, 8, false, "", "", 72⟩) rfl
  simp only [cells3] at g_1_4
  have g_1_5 := hf_1 5 (⟨ "Cells", 27, 9, false, "", "", 80⟩) rfl
  simp only [cells27] at g_1_5
  have q_1_0 : DataW.trod enc Tryd.prog W 0 (fun _ => true) true m_1 9 [c1_0] = some x_1_0 := g_1_0
  have q_1_1 : DataW.trod enc Tryd.prog W 0 (fun _ => true) true m_1 3 [c1_1] = some x_1_1 := g_1_1
  have q_1_2 : DataW.trod enc Tryd.prog W 0 (fun _ => true) true m_1 53 [c1_2, c1_3, c1_4, c1_5, c1_6] = some x_1_2 := g_1_2
  have q_1_3 : DataW.trod enc Tryd.prog W 0 (fun _ => true) true m_1 3 [c1_7] = some x_1_3 := g_1_3
  have q_1_4 : DataW.trod enc Tryd.prog W 0 (fun _ => true) true m_1 3 [c1_8] = some x_1_4 := g_1_4
  have q_1_5 : DataW.trod enc Tryd.prog W 0 (fun _ => true) true m_1 27 [c1_9] = some x_1_5 := g_1_5
  have hw_1_5 : ∀ y ∈ DataW.weights Tryd.prog 27 x_1_5.1, y ≤ reachBytes := fun y hy => hw_1 y (by
    rw [hx_1]
    unfold DataW.weights
    rw [Tryd.underlying55]
    simp only [List.map_cons, List.map_nil, DataW.weightsEach, DataW.weightsAll, List.mem_append]
    exact .inr (.inr (.inr (.inr (.inr (.inl hy))))))
  obtain ⟨b1_0, hb1_0⟩ := read9 _ _ _ q_1_0
  obtain ⟨b1_1, hb1_1⟩ := read3 _ _ _ q_1_1
  obtain ⟨b1_2, hb1_2⟩ := read53 _ _ _ q_1_2
  obtain ⟨b1_3, hb1_3⟩ := read3 _ _ _ q_1_3
  obtain ⟨b1_4, hb1_4⟩ := read3 _ _ _ q_1_4
  have hc1_5 : Cell.okWide Tryd.prog W .any base 27 c1_9 := by
    obtain ⟨u', hu', hx'⟩ := hall1 9 c1_9 rfl
    cases hu'
    exact hx'
  obtain ⟨l1_5, r1_5, k1_5, ha1_5⟩ := arg_slice (enc := enc3) (z := 1) (fun _ => rfl) cells3 ⟨(0 : Int)⟩ Tryd.underlying27 hc1_5 q_1_5 read3
  have hm1_5 := ha1_5.len
  unfold maxLen at hm1_5
  have hq1_5 := arg_weight Tryd.underlying27 q_1_5 ha1_5 (B := reachBytes) hw_1_5
  rw [bytes3] at hq1_5
  unfold reachBytes at hq1_5
  have hrel : MRel W.heap.size (mapB (rowsB r0_5 r1_5)) (memB (rowsB r0_5 r1_5)) W := relB (fix_ok hL) ha0_5.row ha1_5.row
  have m0_5 : ∀ x, r0_5 = some x → mapB (rowsB r0_5 r1_5) (Pos.ofNat 3) = some x.1 := fun x hx => mapB_at (x := (false, x.1, x.2)) (by rw [hx]; rfl)
  have f0_5 : ∀ x, r0_5 = some x → rd (memB (rowsB r0_5 r1_5)) (Pos.ofNat 3) = some x.2 := fun x hx => ro_rd (memB_ro (p := x.1) (by rw [hx]; rfl))
  have m1_5 : ∀ x, r1_5 = some x → mapB (rowsB r0_5 r1_5) (Pos.ofNat 4) = some x.1 := fun x hx => mapB_at (x := (false, x.1, x.2)) (by rw [hx]; rfl)
  have f1_5 : ∀ x, r1_5 = some x → rd (memB (rowsB r0_5 r1_5)) (Pos.ofNat 4) = some x.2 := fun x hx => ro_rd (memB_ro (p := x.1) (by rw [hx]; rfl))
  have hlaw := law_eq (l0_5.length + l1_5.length + 70100) ⟨b0_0, b0_1, b0_2, b0_3, b0_4, l0_5, b0_6, b0_7⟩ ⟨b1_0, b1_1, b1_2, b1_3, b1_4, l1_5⟩ (by simp only; omega) (by simp only; omega) (by simp only; omega) (by simp only; omega) rfl
  have hrun := law10_AlertDrafts_run (l0_5.length + l1_5.length + 70100) ⟨b0_0, b0_1, b0_2, b0_3, b0_4, l0_5, b0_6, b0_7⟩ ⟨b1_0, b1_1, b1_2, b1_3, b1_4, l1_5⟩ _ _ true (memB (rowsB r0_5 r1_5)) (ha0_5.slc _ 3 f0_5) (ha1_5.slc _ 4 f1_5) (fixB r0_5 r1_5) hlaw
  have has : concs (mapB (rowsB r0_5 r1_5)) [.agg [(.str b0_0), (.int .i64 b0_1), (.int .i64 b0_2), (.int .i64 b0_3.N), (.int .i64 b0_3.Of), (.int .i64 b0_4), argS r0_5 3 l0_5.length k0_5, (.bool b0_6), (.int .i64 b0_7)], .agg [(.str b1_0), (.int .i64 b1_1), (.int .i64 b1_2.Pair.A), (.int .i64 b1_2.Pair.B), (.int .i64 b1_2.Pair.Loud), (.int .i64 b1_2.Chance.N), (.int .i64 b1_2.Chance.Of), (.int .i64 b1_3), (.int .i64 b1_4), argS r1_5 4 l1_5.length k1_5]] = some [.agg #[c0_0, c0_1, c0_2, c0_3, c0_4, c0_5, c0_6, c0_7, c0_8], .agg #[c1_0, c1_1, c1_2, c1_3, c1_4, c1_5, c1_6, c1_7, c1_8, c1_9]] := by
    refine concs_cons (conc_aggL (concs_append (hb0_0 _) (concs_append (hb0_1 _) (concs_append (hb0_2 _) (concs_append (hb0_3 _) (concs_append (hb0_4 _) (concs_append (concs_cons (ha0_5.val _ 3 m0_5) (concs_nil _)) (concs_append (hb0_6 _) (hb0_7 _))))))))) (concs_cons (conc_aggL (concs_append (hb1_0 _) (concs_append (hb1_1 _) (concs_append (hb1_2 _) (concs_append (hb1_3 _) (concs_append (hb1_4 _) (concs_cons (ha1_5.val _ 4 m1_5) (concs_nil _)))))))) (concs_nil _))
  have hcalls : Calls Tryd.prog 5 #[.agg #[c0_0, c0_1, c0_2, c0_3, c0_4, c0_5, c0_6, c0_7, c0_8], .agg #[c1_0, c1_1, c1_2, c1_3, c1_4, c1_5, c1_6, c1_7, c1_8, c1_9]] W fun e W' => e = .returned (.bool true) ∧ Below W.heap.size W W' := by
    refine (Run.calls (Q := law10_AlertDrafts_post true) mixed Tryd.func5 rfl rfl (frozen_rel hrel) (vs := #[.agg #[c0_0, c0_1, c0_2, c0_3, c0_4, c0_5, c0_6, c0_7, c0_8], .agg #[c1_0, c1_1, c1_2, c1_3, c1_4, c1_5, c1_6, c1_7, c1_8, c1_9]]) has hrun).mono fun e W' ⟨m', M', s, x, he, hx, hs, hst⟩ => ?_
    have hs' : s = .bool true := hs
    subst hs'
    have hx' : x = .bool true := by simp [conc] at hx; exact hx.symm
    subst hx'
    exact ⟨he, hst.below⟩
  refine hcalls.mono fun e W' ⟨he, hb⟩ => ?_
  subst he
  exact ⟨_, rfl, _, _, _, [], _, [], hW', trodAll_cons_mk (shut_bool Tryd.underlying4 _) trodAll_mk0, trodAll_below kids full hb within hAk, rfl, hb.frame _, fun h => by cases h⟩

theorem hfn : Tryd.prog.funcNamed Rows.alertDraftsRow.func = some 5 := by kernel_rfl
theorem hinst : Tryd.f5.isInstance Tryd.prog Rows.alertDraftsRow.origin Rows.alertDraftsRow.targs := of_decide_eq_true (by kernel_rfl)
theorem hwrap : Tryd.f5.isWrapper Tryd.prog Rows.alertDraftsRow.wrapper Rows.alertDraftsRow.mainSum := by
  unfold Func.isWrapper
  first
    | (rw [if_pos (by decide +kernel)]; kernel_rfl)
    | (rw [if_neg (by decide +kernel)]; exact ⟨rfl, rfl⟩)
set_option maxRecDepth 100000 in
theorem facts : joinedFacts Tryd.prog 5 Tryd.f5 Rows.alertDraftsSpec Rows.alertDraftsRow = true := (and2 (and2 (and2 (and2 (and2 (and2 (and2 (and2 (and2 (and2 (and2 (and2 (and2 (and2 (and2 (and2 (and2 (and2 (and2 (and2 (and2 (and2 (and2 (and2 (and2 (and2 (and2 (and2 (and2 (and2 (and2 j0 j1) j2) j3) j4) j5) j6) j7) j8) j9) j10) j11) j12) j13) j14) j15) j16) j17) j18) j19) j20) j21) j22) j23) j24) j25) j26) j27) j28) j29) j30) j31)

theorem over : Rows.AlertDraftsSaid :=
  OpenClaim.holds_of_wide (p := Tryd.pinned) (s := Rows.alertDraftsSpec) (c := Rows.alertDraftsRow) 5 Tryd.f5 rfl rfl rfl rfl rfl rfl rfl ⟨rfl, rfl, rfl, rfl, rfl⟩ rfl rfl rfl rfl rfl hfn Tryd.func5 facts hinst hwrap
    (fun os started H enc _ => lifted os started H enc)
end Go.Proofs.YtoobfmfgbcohcaaDoor.alertDrafts
