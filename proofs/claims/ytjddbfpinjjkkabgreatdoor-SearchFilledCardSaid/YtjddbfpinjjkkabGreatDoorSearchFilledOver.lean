/- The row holds: the call answers true whatever its arguments are, and they read behind it as before. -/
import Derived.Test.YtjddbfpinjjkkabGreatDoorSearchFilledMath14
import Derived.Test.YtjddbfpinjjkkabGreatDoorSearchFilledFacts
import Derived.Test.YtjddbfpinjjkkabGreatDoorRows
import Derived.WalkKit
import Derived.ProofKit
import Derived.OpenShut
import Derived.LaidMore
import Derived.Stop.Joined
import Derived.Lib.SmallJoins
import Derived.Test.YtjddbfpinjjkkabGreatDoorEvL21
namespace Go.Proofs.YtjddbfpinjjkkabGreatDoor.searchFilled
open Go.ChangeShapes Go.WideShapes Go.ChangeAt Go.RowKit Go.Joins Go.Ev Go.Ev.SearchFilled

set_option linter.unusedVariables false
theorem own : ownKnob Tryz.prog.godebug = none := by kernel_rfl
theorem mixed : Tryz.prog.follows .mixedOrders = true := by kernel_rfl
theorem kids : Kids Tryz.prog (· < Tryz.prog.types.size) := kids_rows (by kernel_rfl) (by kernel_rfl)
theorem full : ∀ t e, t < Tryz.prog.types.size → Tryz.prog.underlying t = some (.slice e) → 0 < Tryz.prog.cellsOf e := slices_full_of Tryz.prog (by kernel_rfl)
theorem within : ∀ t ∈ Tryz.f5.params.toList, t < Tryz.prog.types.size := by
  have h : (Tryz.f5.params.toList.all fun t => decide (t < Tryz.prog.types.size)) = true := by kernel_rfl
  intro t ht
  exact of_decide_eq_true (List.all_eq_true.1 h t ht)

theorem door_met (os : Os) (args : Array Value) : laidMetH Tryz.prog Rows.searchFilledRow.laid ((World.doorLaid Tryz.prog 400 os).forCall (fun _ _ => 0) ⟨#[], args, []⟩).memory :=
  laidMetH_of_parts3 (fuel := 8) (laidMet_of_run' 8 (by kernel_rfl) (by kernel_rfl)) (by kernel_rfl) (by kernel_rfl)

set_option maxRecDepth 100000 in
theorem fix_ok {W : World} (h : laidMetH Tryz.prog Rows.searchFilledRow.laid W) : FixOK W Go.Proofs.YtjddbfpinjjkkabGreatDoor.works.fixes := by
  rw [MakeChecks.laidMetH_plain _ _ _ (by kernel_rfl)] at h
  intro x hx
  simp only [Go.Proofs.YtjddbfpinjjkkabGreatDoor.works.fixes, List.mem_cons, List.not_mem_nil, or_false] at hx
  rcases hx with rfl
  · exact laid_tab h (name := "ringdown/bank.quarter") (k := .i64) (zs := [0, 12, 25, 37, 49, 60, 71, 81, 90, 98, 106, 112, 117, 122, 125, 126, 127]) (g := 0) (t := 191) (e := 3) (n := 17) (by unfold Rows.searchFilledRow; exact .head _) (by kernel_rfl) (by kernel_rfl) (by kernel_rfl) (by kernel_rfl) (by kernel_rfl) (by kernel_rfl) (by simp)

theorem cells27 : Tryz.prog.cellsOf 27 = 2 := by kernel_rfl
theorem arr2 {α : Type} {cs : Array α} (h : cs.size = 2) : ∃ c0 c1, cs = #[c0, c1] := by
  obtain ⟨l⟩ := cs
  match l, h with
  | [c0, c1], _ => exact ⟨c0, c1, rfl⟩
theorem types27 : Tryz.prog.cellTypes Tryz.prog.depth 27 = some [3, 3] := by kernel_rfl
theorem cells3 : Tryz.prog.cellsOf 3 = 1 := by kernel_rfl
theorem read3 {H : Type} {enc : TypeId × Value → H} {W : World} {held : Bool} (n : Nat) (cs : List Value) (x : DataW H × List MemPlace) (h : DataW.trod enc Tryz.prog W 0 (fun _ => true) held n 3 cs = some x) : ∃ a : Int, ∀ m, concs m (enc3 a) = some cs := by
  obtain ⟨a, rfl, _, _⟩ := DataW.trod_int Tryz.underlying3 h
  exact ⟨a, fun m => rfl⟩
theorem list2 {α : Type} : ∀ {l : List α}, l.length = 2 → ∃ a0 a1, l = [a0, a1]
  | [a0, a1], _ => ⟨a0, a1, rfl⟩
theorem read27 {H : Type} {enc : TypeId × Value → H} {W : World} {held : Bool} (n : Nat) (cs : List Value) (x : DataW H × List MemPlace) (h : DataW.trod enc Tryz.prog W 0 (fun _ => true) held n 27 cs = some x) : ∃ a : S_api_Chirp, ∀ m, concs m (enc27 a) = some cs := by
  have hlen : cs.length = 2 := (DataW.trod_struct Tryz.underlying27 h).elim fun _ h1 => h1.elim fun _ h2 => h2.2.2.1.trans cells27
  obtain ⟨c0, c1, rfl⟩ := list2 hlen
  obtain ⟨xs, m, _, hx, _, hl, hf⟩ := DataW.trod_struct Tryz.underlying27 h
  obtain ⟨x_0, x_1, rfl⟩ := list2 hl
  have g_0 := hf 0 (⟨ "P", 3, 0, false, "", "", 0⟩) rfl
  simp only [cells3] at g_0
  have g_1 := hf 1 (⟨ "Q", 3, 1, false, "", "", 8⟩) rfl
  simp only [cells3] at g_1
  have q_0 : DataW.trod enc Tryz.prog W 0 (fun _ => true) held m 3 [c0] = some x_0 := g_0
  have q_1 : DataW.trod enc Tryz.prog W 0 (fun _ => true) held m 3 [c1] = some x_1 := g_1
  obtain ⟨a_0, ha_0⟩ := read3 _ _ _ q_0
  obtain ⟨a_1, ha_1⟩ := read3 _ _ _ q_1
  exact ⟨⟨a_0, a_1⟩, fun m => concs_append (ha_0 m) (ha_1 m)⟩
/-- Where the run begins: the listed tables, the arguments' rows. -/
noncomputable def rowsB  : List BRow := [some (true, ⟨0, 0, 17⟩, intCells .i64 [0, 12, 25, 37, 49, 60, 71, 81, 90, 98, 106, 112, 117, 122, 125, 126, 127])]
theorem relB {W : World}  (hf : FixOK W Go.Proofs.YtjddbfpinjjkkabGreatDoor.works.fixes) : MRel W.heap.size (mapB (rowsB)) (memB (rowsB)) W := memB_rel3 fun j x hj => by
  unfold rowsB at hj
  rcases j with _ | j
  · cases (Option.some.inj hj)
    have := fix_row hf (x := (0, intCells .i64 [0, 12, 25, 37, 49, 60, 71, 81, 90, 98, 106, 112, 117, 122, 125, 126, 127])) (.head _)
    exact ⟨this.1, this.2 _, fun _ => ⟨rfl, rfl, rfl⟩⟩
  · simp at hj
theorem fixB  : FixIn (memB (rowsB)) Go.Proofs.YtjddbfpinjjkkabGreatDoor.works.fixes := fun x hx => by
  simp only [Go.Proofs.YtjddbfpinjjkkabGreatDoor.works.fixes, List.mem_cons, List.not_mem_nil, or_false] at hx
  rcases hx with rfl
  · exact memB_fix (j := 0) (p := ⟨0, 0, 17⟩) rfl

set_option maxRecDepth 100000 in
theorem lifted (os : Os) (started : os.Started) (H : Type) (enc : TypeId × Value → H) :
    ReturnsInHanded {} Tryz.checked os 5 .any (fun w args => (Rows.searchFilledSpec.pre enc Tryz.prog Tryz.f5 [] false w args ∧ laidMetH Tryz.prog Rows.searchFilledRow.laid w) ∧ sizedMet enc Tryz.prog Tryz.f5 (OpenSpec.ofChange Rows.searchFilledSpec) false w args)
      (Rows.searchFilledSpec.post enc Tryz.prog Tryz.f5 false true false false) := by
  refine returnsInHanded_of_change_and (C := Tryz.checked) (X := fun w _ => laidMetH Tryz.prog Rows.searchFilledRow.laid w) (fun _ _ _ hh h => h.of_heap hh) own started (by kernel_rfl) Tryz.func5
    (ChangeSpec.witness_shaped (enc := enc) (C := Tryz.checked) (os := os) (X := fun w _ => laidMetH Tryz.prog Rows.searchFilledRow.laid w) false (World.doorLaid Tryz.prog 400 os) #[.agg #[.int .i64 0, .int .i64 0], .int .i64 0, .int .i64 0] 8 rfl (World.shaped_of_RefB (by kernel_rfl) (by kernel_rfl)) (by kernel_rfl) (by kernel_rfl) (by kernel_rfl) (door_met os _)) ?_
  intro W base args ds gs before hval0 hW _ hsz hL _
  have hval : ∀ (j : Nat) t v, Tryz.f5.params[j]? = some t → args[j]? = some v → Value.okWide Tryz.prog W .any base t v := hval0
  have hW' := hW
  obtain ⟨p, q, hA0, hV, rfl, hfz, hnd⟩ := hW
  have hA : DataW.TrodAll enc Tryz.prog W 0 (fun _ => true) true Tryz.f5.params.toList args.toList ds p := hA0
  have hAk := hA
  rw [Tryz.params5] at hA hval
  obtain ⟨rfl, rfl⟩ := trodVars_none hV
  clear hA0 hval0
  simp only [List.append_nil] at hW'
  obtain ⟨v0, v1, v2, d0, d1, d2, p0, p1, p2, rfl, rfl, rfl, h0, h1, h2⟩ := trodAll_three hA
  have hv0 := hval 0 27 v0 rfl rfl
  simp only [Value.okWide, Tryz.underlying27] at hv0
  obtain ⟨cs0, rfl, hsz0, ts0, hts0, _, hall0⟩ := hv0
  rw [types27] at hts0
  cases hts0
  obtain ⟨c0_0, c0_1, rfl⟩ := arr2 (hsz0.trans cells27)
  obtain ⟨n0, h0⟩ := h0
  have g0 : DataW.trod enc Tryz.prog W 0 (fun _ => true) true n0 27 [c0_0, c0_1] = some (d0, p0) := h0
  obtain ⟨b0, hb0⟩ := read27 _ _ _ g0
  have hv1 := hval 1 3 v1 rfl rfl
  obtain ⟨n1, h1⟩ := h1
  obtain ⟨b1, e1, wb1, _⟩ := DataW.trod_int Tryz.underlying3 h1
  have e1' : v1 = .int .i64 b1 := by
    have hcl : v1.cells.toList = [v1] := by
      obtain ⟨a, rfl⟩ := okWide_int Tryz.underlying3 hv1
      rfl
    rw [hcl] at e1
    simpa using e1
  subst e1'
  have hv2 := hval 2 3 v2 rfl rfl
  obtain ⟨n2, h2⟩ := h2
  obtain ⟨b2, e2, wb2, _⟩ := DataW.trod_int Tryz.underlying3 h2
  have e2' : v2 = .int .i64 b2 := by
    have hcl : v2.cells.toList = [v2] := by
      obtain ⟨a, rfl⟩ := okWide_int Tryz.underlying3 hv2
      rfl
    rw [hcl] at e2
    simpa using e2
  subst e2'
  have hrel : MRel W.heap.size (mapB (rowsB)) (memB (rowsB)) W := relB (fix_ok hL) 
  have hlaw := law_eq (3001) b0 b1 b2 (by omega) rfl
  have hrun := law08_SearchFilled_run (3001) b0 b1 b2  true (memB (rowsB))  (fixB) hlaw
  have has : concs (mapB (rowsB)) [.agg [(.int .i64 b0.P), (.int .i64 b0.Q)], .int .i64 b1, .int .i64 b2] = some [.agg #[c0_0, c0_1], .int .i64 b1, .int .i64 b2] := by
    refine concs_cons (conc_aggL (hb0 _)) (concs_cons rfl (concs_cons rfl (concs_nil _)))
  have hcalls : Calls Tryz.prog 5 #[.agg #[c0_0, c0_1], .int .i64 b1, .int .i64 b2] W fun e W' => e = .returned (.bool true) ∧ Below W.heap.size W W' := by
    refine (Run.calls (Q := law08_SearchFilled_post true) mixed Tryz.func5 rfl rfl (frozen_rel hrel) (vs := #[.agg #[c0_0, c0_1], .int .i64 b1, .int .i64 b2]) has hrun).mono fun e W' ⟨m', M', s, x, he, hx, hs, hst⟩ => ?_
    have hs' : s = .bool true := hs
    subst hs'
    have hx' : x = .bool true := by simp [conc] at hx; exact hx.symm
    subst hx'
    exact ⟨he, hst.below⟩
  refine hcalls.mono fun e W' ⟨he, hb⟩ => ?_
  subst he
  exact ⟨_, rfl, _, _, _, [], _, [], hW', trodAll_cons_mk (shut_bool Tryz.underlying4 _) trodAll_mk0, trodAll_below kids full hb within hAk, rfl, hb.frame _, fun h => by cases h⟩

theorem hfn : Tryz.prog.funcNamed Rows.searchFilledRow.func = some 5 := by kernel_rfl
theorem hinst : Tryz.f5.isInstance Tryz.prog Rows.searchFilledRow.origin Rows.searchFilledRow.targs := of_decide_eq_true (by kernel_rfl)
theorem hwrap : Tryz.f5.isWrapper Tryz.prog Rows.searchFilledRow.wrapper Rows.searchFilledRow.mainSum := by
  unfold Func.isWrapper
  first
    | (rw [if_pos (by decide +kernel)]; kernel_rfl)
    | (rw [if_neg (by decide +kernel)]; exact ⟨rfl, rfl⟩)
set_option maxRecDepth 100000 in
theorem facts : joinedFacts Tryz.prog 5 Tryz.f5 Rows.searchFilledSpec Rows.searchFilledRow = true := (and2 (and2 (and2 (and2 (and2 (and2 (and2 (and2 (and2 (and2 (and2 (and2 (and2 (and2 (and2 (and2 (and2 (and2 (and2 (and2 (and2 (and2 (and2 (and2 (and2 (and2 (and2 (and2 (and2 (and2 (and2 j0 j1) j2) j3) j4) j5) j6) j7) j8) j9) j10) j11) j12) j13) j14) j15) j16) j17) j18) j19) j20) j21) j22) j23) j24) j25) j26) j27) j28) j29) j30) j31)

theorem over : Rows.SearchFilledSaid :=
  OpenClaim.holds_of_wide (p := Tryz.pinned) (s := Rows.searchFilledSpec) (c := Rows.searchFilledRow) 5 Tryz.f5 rfl rfl rfl rfl rfl rfl rfl ⟨rfl, rfl, rfl, rfl, rfl⟩ rfl rfl rfl rfl rfl hfn Tryz.func5 facts hinst hwrap
    (fun os started H enc _ => lifted os started H enc)
end Go.Proofs.YtjddbfpinjjkkabGreatDoor.searchFilled
