/- The row holds: the call answers true whatever its arguments are, and they read behind it as before. -/
import Derived.Test.YtgaofnakcccbkaaSearchAlarmMath16
import Derived.Test.YtgaofnakcccbkaaSearchAlarmFacts
import Derived.Test.YtgaofnakcccbkaaRows
import Derived.WalkKit
import Derived.ProofKit
import Derived.OpenShut
import Derived.LaidMore
import Derived.Stop.Joined
import Derived.Lib.SmallJoins
namespace Go.Proofs.Ytgaofnakcccbkaa.searchAlarm
open Go.ChangeShapes Go.WideShapes Go.ChangeAt Go.RowKit Go.Joins Go.Ev Go.Ev.SearchAlarm

set_option linter.unusedVariables false
theorem own : ownKnob Try.prog.godebug = none := by kernel_rfl
theorem mixed : Try.prog.follows .mixedOrders = true := by kernel_rfl
theorem kids : Kids Try.prog (· < Try.prog.types.size) := kids_rows (by kernel_rfl) (by kernel_rfl)
theorem full : ∀ t e, t < Try.prog.types.size → Try.prog.underlying t = some (.slice e) → 0 < Try.prog.cellsOf e := slices_full_of Try.prog (by kernel_rfl)
theorem within : ∀ t ∈ Try.f6.params.toList, t < Try.prog.types.size := by
  have h : (Try.f6.params.toList.all fun t => decide (t < Try.prog.types.size)) = true := by kernel_rfl
  intro t ht
  exact of_decide_eq_true (List.all_eq_true.1 h t ht)

theorem cells73 : Try.prog.cellsOf 73 = 3 := by kernel_rfl
theorem cells3 : Try.prog.cellsOf 3 = 1 := by kernel_rfl
theorem one73 : Deep.oneCellFields Try.prog #[⟨ "Time", 3, 0, false, "", "", 0⟩, ⟨ "Loud", 3, 1, false, "", "", 8⟩, ⟨ "Template", 3, 2, false, "", "", 16⟩] = true := by kernel_rfl
theorem list3 {α : Type} : ∀ {l : List α}, l.length = 3 → ∃ a0 a1 a2, l = [a0, a1, a2]
  | [a0, a1, a2], _ => ⟨a0, a1, a2, rfl⟩
theorem read73 {H : Type} {enc : TypeId × Value → H} {W : World} {held : Bool} (n : Nat) (cs : List Value) (x : DataW H × List MemPlace) (h : DataW.trod enc Try.prog W 0 (fun _ => true) held n 73 cs = some x) : ∃ a : S_api_Trigger, ∀ m, concs m (enc73 a) = some cs := by
  obtain ⟨xs, k, _, _, hlen, hxs, hf⟩ := DataW.trod_struct Try.underlying73 h
  obtain ⟨y0, y1, y2, rfl⟩ := list3 hxs
  have h0 := hf 0 (⟨ "Time", 3, 0, false, "", "", 0⟩) rfl
  have h1 := hf 1 (⟨ "Loud", 3, 1, false, "", "", 8⟩) rfl
  have h2 := hf 2 (⟨ "Template", 3, 2, false, "", "", 16⟩) rfl
  obtain ⟨o0, k0⟩ := Deep.hone_of one73 0 _ rfl
  obtain ⟨o1, k1⟩ := Deep.hone_of one73 1 _ rfl
  obtain ⟨o2, k2⟩ := Deep.hone_of one73 2 _ rfl
  rw [cells73] at hlen
  obtain ⟨c0, c1, c2, rfl⟩ := list3 hlen
  simp only [cells3] at h0 h1 h2
  obtain ⟨b0, e0, _, _⟩ := DataW.trod_int Try.underlying3 h0
  obtain ⟨b1, e1, _, _⟩ := DataW.trod_int Try.underlying3 h1
  obtain ⟨b2, e2, _, _⟩ := DataW.trod_int Try.underlying3 h2
  simp only [List.drop_zero, List.take_succ_cons, List.take_zero, List.drop_succ_cons, List.cons.injEq, and_true] at e0 e1 e2
  subst e0 e1 e2
  exact ⟨⟨b0, b1, b2⟩, fun m => rfl⟩
theorem cells35 : Try.prog.cellsOf 35 = 4 := by kernel_rfl
/-- Where the run begins: the listed tables, the arguments' rows. -/
noncomputable def rowsB (r0 : ARow) (r1 : ARow) : List BRow := [argB r0, argB r1]
theorem relB {W : World} {r0 : ARow} {r1 : ARow} (h0 : ∀ x, r0 = some x → x.1.block < W.heap.size ∧ ∀ m, RowRel m x.1 none .lost x.2 W.heap[x.1.block]?) (h1 : ∀ x, r1 = some x → x.1.block < W.heap.size ∧ ∀ m, RowRel m x.1 none .lost x.2 W.heap[x.1.block]?) : MRel W.heap.size (mapB (rowsB r0 r1)) (memB (rowsB r0 r1)) W := memB_rel fun j x hj => by
  unfold rowsB at hj
  rcases j with _ | _ | j
  · have hj' : argB r0 = some x := Option.some.inj hj
    obtain ⟨y, hy, rfl⟩ := Option.map_eq_some_iff.1 hj'
    exact ⟨(h0 y hy).1, (h0 y hy).2, fun h => by simp at h⟩
  · have hj' : argB r1 = some x := Option.some.inj hj
    obtain ⟨y, hy, rfl⟩ := Option.map_eq_some_iff.1 hj'
    exact ⟨(h1 y hy).1, (h1 y hy).2, fun h => by simp at h⟩
  · simp at hj
theorem fixB (r0 : ARow) (r1 : ARow) : FixIn (memB (rowsB r0 r1)) Go.Proofs.Ytgaofnakcccbkaa.works.fixes := fun x hx => absurd hx List.not_mem_nil

set_option maxRecDepth 100000 in
theorem lifted (os : Os) (started : os.Started) (H : Type) (enc : TypeId × Value → H) :
    ReturnsInHanded {} Try.checked os 6 .any (Rows.searchAlarmSpec.pre6 enc Try.prog Try.f6 Rows.searchAlarmRow.domain false)
      (Rows.searchAlarmSpec.post enc Try.prog Try.f6 false true false false) := by
  refine returnsInHanded_of_change (C := Try.checked) own started (by kernel_rfl) Try.func6
    (ChangeSpec.witness6 (enc := enc) (C := Try.checked) false ⟨#[], #[.slice none 0 0, .slice none 0 0, .agg #[.int .i64 0, .int .i64 0, .int .i64 0, .int .i64 0]], []⟩ 8 (by kernel_rfl) (by kernel_rfl) (by kernel_rfl) (by kernel_rfl)) ?_
  intro W base args ds gs before hval0 hW hcnd _
  have hval : ∀ (j : Nat) t v, Try.f6.params[j]? = some t → args[j]? = some v → Value.okWide Try.prog W .any base t v := hval0
  have hW' := hW
  obtain ⟨p, q, hA0, hV, rfl, hfz, hnd⟩ := hW
  have hA : DataW.TrodAll enc Try.prog W 0 (fun _ => true) true Try.f6.params.toList args.toList ds p := hA0
  have hAk := hA
  rw [Try.params6] at hA hval
  obtain ⟨rfl, rfl⟩ := trodVars_none hV
  clear hA0 hval0
  simp only [List.append_nil] at hW'
  obtain ⟨v0, v1, v2, d0, d1, d2, p0, p1, p2, rfl, rfl, rfl, h0, h1, h2⟩ := trodAll_three hA
  have hv0 := hval 0 33 v0 rfl rfl
  have hc0 : Cell.okWide Try.prog W .any base 33 v0 := by
    simpa only [Value.okWide, Try.underlying33] using hv0
  obtain ⟨n0, h0⟩ := h0
  have hcl0 : v0.cells.toList = [v0] := by
    obtain ⟨a, len, cap, rfl⟩ := okWide_slice Try.underlying33 hv0
    rfl
  rw [hcl0] at h0
  obtain ⟨l0, r0, k0, ha0⟩ := arg_slice (enc := enc73) (z := 3) (fun _ => rfl) cells73 ⟨⟨0, 0, 0⟩⟩ Try.underlying33 hc0 h0 read73
  have hm0 := ha0.len
  unfold maxLen at hm0
  have hv1 := hval 1 33 v1 rfl rfl
  have hc1 : Cell.okWide Try.prog W .any base 33 v1 := by
    simpa only [Value.okWide, Try.underlying33] using hv1
  obtain ⟨n1, h1⟩ := h1
  have hcl1 : v1.cells.toList = [v1] := by
    obtain ⟨a, len, cap, rfl⟩ := okWide_slice Try.underlying33 hv1
    rfl
  rw [hcl1] at h1
  obtain ⟨l1, r1, k1, ha1⟩ := arg_slice (enc := enc73) (z := 3) (fun _ => rfl) cells73 ⟨⟨0, 0, 0⟩⟩ Try.underlying33 hc1 h1 read73
  have hm1 := ha1.len
  unfold maxLen at hm1
  have hv2 := hval 2 35 v2 rfl rfl
  obtain ⟨c20, c21, c22, c23, y20, y21, y22, y23, n2, rfl, rfl, rfl, hy20, hy21, hy22, hy23⟩ := open_agg4 Try.underlying35 (by kernel_rfl) cells35 hv2 h2
  obtain ⟨b20, e20, _, _⟩ := DataW.trod_int Try.underlying3 hy20
  obtain ⟨b21, e21, _, _⟩ := DataW.trod_int Try.underlying3 hy21
  obtain ⟨b22, e22, _, _⟩ := DataW.trod_int Try.underlying3 hy22
  obtain ⟨b23, e23, _, _⟩ := DataW.trod_int Try.underlying3 hy23
  simp only [List.cons.injEq, and_true] at e20 e21 e22 e23
  subst e20 e21 e22 e23
  have hrel : MRel W.heap.size (mapB (rowsB r0 r1)) (memB (rowsB r0 r1)) W := relB ha0.row ha1.row
  have m0 : ∀ x, r0 = some x → mapB (rowsB r0 r1) (Pos.ofNat 0) = some x.1 := fun x hx => mapB_at (x := (false, x.1, x.2)) (by rw [hx]; rfl)
  have f0 : ∀ x, r0 = some x → rd (memB (rowsB r0 r1)) (Pos.ofNat 0) = some x.2 := fun x hx => ro_rd (memB_ro (p := x.1) (by rw [hx]; rfl))
  have m1 : ∀ x, r1 = some x → mapB (rowsB r0 r1) (Pos.ofNat 1) = some x.1 := fun x hx => mapB_at (x := (false, x.1, x.2)) (by rw [hx]; rfl)
  have f1 : ∀ x, r1 = some x → rd (memB (rowsB r0 r1)) (Pos.ofNat 1) = some x.2 := fun x hx => ro_rd (memB_ro (p := x.1) (by rw [hx]; rfl))
  have hlaw := law_eq (l0.length + l1.length + 71000) l0 l1 ⟨b20, b21, b22, b23⟩ (by omega) (by omega) (by omega) (by omega) rfl
  have hrun := law08_SearchAlarm_run (l0.length + l1.length + 71000) l0 l1 ⟨b20, b21, b22, b23⟩ _ _ true (memB (rowsB r0 r1)) (ha0.slc _ 0 f0) (ha1.slc _ 1 f1) (fixB r0 r1) hlaw
  have has : concs (mapB (rowsB r0 r1)) [argS r0 0 l0.length k0, argS r1 1 l1.length k1, .agg [.int .i64 b20, .int .i64 b21, .int .i64 b22, .int .i64 b23]] = some [v0, v1, .agg #[.int .i64 b20, .int .i64 b21, .int .i64 b22, .int .i64 b23]] := by
    refine concs_cons (ha0.val _ 0 m0) (concs_cons (ha1.val _ 1 m1) (concs_cons rfl (concs_nil _)))
  have hcalls : Calls Try.prog 6 #[v0, v1, .agg #[.int .i64 b20, .int .i64 b21, .int .i64 b22, .int .i64 b23]] W fun e W' => e = .returned (.bool true) ∧ Below W.heap.size W W' := by
    refine (Run.calls (Q := law08_SearchAlarm_post true) mixed Try.func6 rfl rfl (frozen_rel hrel) (vs := #[v0, v1, .agg #[.int .i64 b20, .int .i64 b21, .int .i64 b22, .int .i64 b23]]) has hrun).mono fun e W' ⟨m', M', s, x, he, hx, hs, hst⟩ => ?_
    have hs' : s = .bool true := hs
    subst hs'
    have hx' : x = .bool true := by simp [conc] at hx; exact hx.symm
    subst hx'
    exact ⟨he, hst.below⟩
  refine hcalls.mono fun e W' ⟨he, hb⟩ => ?_
  subst he
  exact ⟨_, rfl, _, _, _, [], _, [], hW', trodAll_cons_mk (shut_bool Try.underlying4 _) trodAll_mk0, trodAll_below kids full hb within hAk, rfl, hb.frame _, fun h => by cases h⟩

theorem hfn : Try.prog.funcNamed Rows.searchAlarmRow.func = some 6 := by kernel_rfl
theorem hinst : Try.f6.isInstance Try.prog Rows.searchAlarmRow.origin Rows.searchAlarmRow.targs := of_decide_eq_true (by kernel_rfl)
theorem hwrap : Try.f6.isWrapper Try.prog Rows.searchAlarmRow.wrapper Rows.searchAlarmRow.mainSum := by
  unfold Func.isWrapper
  first
    | (rw [if_pos (by decide +kernel)]; kernel_rfl)
    | (rw [if_neg (by decide +kernel)]; exact ⟨rfl, rfl⟩)
set_option maxRecDepth 100000 in
theorem facts : joinedFacts Try.prog 6 Try.f6 Rows.searchAlarmSpec Rows.searchAlarmRow = true := (and2 (and2 (and2 (and2 (and2 (and2 (and2 (and2 (and2 (and2 (and2 (and2 (and2 (and2 (and2 (and2 (and2 (and2 (and2 (and2 (and2 (and2 (and2 (and2 (and2 (and2 (and2 (and2 (and2 (and2 (and2 j0 j1) j2) j3) j4) j5) j6) j7) j8) j9) j10) j11) j12) j13) j14) j15) j16) j17) j18) j19) j20) j21) j22) j23) j24) j25) j26) j27) j28) j29) j30) j31)

theorem over : Rows.SearchAlarmSaid :=
  OpenClaim.holds_of_wide (p := Try.pinned) (s := Rows.searchAlarmSpec) (c := Rows.searchAlarmRow) 6 Try.f6 rfl rfl rfl rfl rfl rfl rfl ⟨rfl, rfl, rfl, rfl, rfl⟩ rfl rfl rfl rfl rfl hfn Try.func6 facts hinst hwrap
    (fun os started H enc _ => lifted os started H enc)
end Go.Proofs.Ytgaofnakcccbkaa.searchAlarm
