/- The row holds: the call answers true whatever its arguments are, and they read behind it as before. -/
import Derived.Test.YtodkhehadlkbiaaGreatDoorRecordStrainsMath1
import Derived.Test.YtodkhehadlkbiaaGreatDoorRecordStrainsFacts
import Derived.Test.YtodkhehadlkbiaaGreatDoorRows
import Derived.WalkKit
import Derived.ProofKit
import Derived.OpenShut
import Derived.LaidMore
import Derived.Stop.Joined
import Derived.Lib.SmallJoins
namespace Go.Proofs.YtodkhehadlkbiaaGreatDoor.recordStrains
open Go.ChangeShapes Go.WideShapes Go.ChangeAt Go.RowKit Go.Joins Go.Ev Go.Ev.RecordStrains

theorem own : ownKnob Tryz.prog.godebug = none := by kernel_rfl
theorem mixed : Tryz.prog.follows .mixedOrders = true := by kernel_rfl
theorem kids : Kids Tryz.prog (· < Tryz.prog.types.size) := kids_rows (by kernel_rfl) (by kernel_rfl)
theorem full : ∀ t e, t < Tryz.prog.types.size → Tryz.prog.underlying t = some (.slice e) → 0 < Tryz.prog.cellsOf e := slices_full_of Tryz.prog (by kernel_rfl)
theorem within : ∀ t ∈ Tryz.f4.params.toList, t < Tryz.prog.types.size := by
  have h : (Tryz.f4.params.toList.all fun t => decide (t < Tryz.prog.types.size)) = true := by kernel_rfl
  intro t ht
  exact of_decide_eq_true (List.all_eq_true.1 h t ht)

theorem door_met (os : Os) (args : Array Value) : laidMetH Tryz.prog Rows.recordStrainsRow.laid ((World.doorLaid Tryz.prog 400 os).forCall (fun _ _ => 0) ⟨#[], args, []⟩).memory :=
  laidMetH_of_parts3 (fuel := 8) (laidMet_of_run' 8 (by kernel_rfl) (by kernel_rfl)) (by kernel_rfl) (by kernel_rfl)

-- PARAMS 52,24
/-- A cell of the first argument. -/
theorem cells52 : Tryz.prog.cellsOf 52 = 2 := by kernel_rfl
theorem types52 : Tryz.prog.cellTypes Tryz.prog.depth 52 = some [50, 3] := by kernel_rfl
theorem cells61 : Tryz.prog.cellsOf 61 = 2 := by kernel_rfl
theorem cells3 : Tryz.prog.cellsOf 3 = 1 := by kernel_rfl
theorem one61 : Deep.oneCellFields Tryz.prog #[⟨"Low", 3, 0, false, "", "", 0⟩, ⟨"High", 3, 1, false, "", "", 8⟩] = true := by kernel_rfl

theorem rel2 {W : World} {r0 r1 : ARow} (h0 : ∀ x, r0 = some x → x.1.block < W.heap.size ∧ ∀ m, RowRel m x.1 none .lost x.2 W.heap[x.1.block]?) (h1 : ∀ x, r1 = some x → x.1.block < W.heap.size ∧ ∀ m, RowRel m x.1 none .lost x.2 W.heap[x.1.block]?) :
    MRel W.heap.size (mapA [r0, r1]) (memA [r0, r1]) W := memA_rel fun j x hj => by
  rcases j with _ | _ | j
  · exact h0 x (Option.some.inj hj)
  · exact h1 x (Option.some.inj hj)
  · simp at hj
theorem list2 {α : Type} : ∀ {l : List α}, l.length = 2 → ∃ a b, l = [a, b]
  | [a, b], _ => ⟨a, b, rfl⟩
theorem read3 {H : Type} {enc : TypeId × Value → H} {W : World} {held : Bool} (n : Nat) (cs : List Value) (x : DataW H × List MemPlace) (h : DataW.trod enc Tryz.prog W 0 (fun _ => true) held n 3 cs = some x) : ∃ a : Int, ∀ m, concs m (enc3 a) = some cs := by
  obtain ⟨a, rfl, _, _⟩ := DataW.trod_int Tryz.underlying3 h
  exact ⟨a, fun m => rfl⟩
theorem read61 {H : Type} {enc : TypeId × Value → H} {W : World} {held : Bool} (n : Nat) (cs : List Value) (x : DataW H × List MemPlace) (h : DataW.trod enc Tryz.prog W 0 (fun _ => true) held n 61 cs = some x) : ∃ a : S_api_Tap, ∀ m, concs m (enc61 a) = some cs := by
  obtain ⟨y0, y1, k, _, hlen, h0, h1⟩ := trod_struct2 Tryz.underlying61 h
  obtain ⟨o0, k0⟩ := Deep.hone_of one61 0 _ rfl
  obtain ⟨o1, k1⟩ := Deep.hone_of one61 1 _ rfl
  rw [cells61] at hlen
  obtain ⟨c0, c1, rfl⟩ := list2 hlen
  simp only [cells3] at h0 h1
  obtain ⟨a, e0, _, _⟩ := DataW.trod_int Tryz.underlying3 h0
  obtain ⟨b, e1, _, _⟩ := DataW.trod_int Tryz.underlying3 h1
  simp only [List.drop_zero, List.take_succ_cons, List.take_zero, List.drop_succ_cons, List.cons.injEq, and_true] at e0 e1
  subst e0 e1
  exact ⟨⟨a, b⟩, fun m => rfl⟩


set_option maxRecDepth 100000 in
theorem lifted (os : Os) (started : os.Started) (H : Type) (enc : TypeId × Value → H) :
    ReturnsInHanded {} Tryz.checked os 4 .any (fun w args => (Rows.recordStrainsSpec.pre enc Tryz.prog Tryz.f4 [] false w args ∧ laidMetH Tryz.prog Rows.recordStrainsRow.laid w) ∧ sizedMet enc Tryz.prog Tryz.f4 (OpenSpec.ofChange Rows.recordStrainsSpec) false w args)
      (Rows.recordStrainsSpec.post enc Tryz.prog Tryz.f4 false true false false) := by
  refine returnsInHanded_of_change_and (C := Tryz.checked) (X := fun w _ => laidMetH Tryz.prog Rows.recordStrainsRow.laid w) (fun _ _ _ hh h => h.of_heap hh) own started (by kernel_rfl) Tryz.func4
    (ChangeSpec.witness_shaped (enc := enc) (C := Tryz.checked) (os := os) (X := fun w _ => laidMetH Tryz.prog Rows.recordStrainsRow.laid w) false (World.doorLaid Tryz.prog 400 os) #[.agg #[.slice none 0 0, .int .i64 0], .slice none 0 0] 8 rfl (World.shaped_of_RefB (by kernel_rfl) (by kernel_rfl)) (by kernel_rfl) (by kernel_rfl) (by kernel_rfl) (door_met os _)) ?_
  intro W base args ds gs before hval0 hW _ _ _ _
  have hval : ∀ (j : Nat) t v, Tryz.f4.params[j]? = some t → args[j]? = some v → Value.okWide Tryz.prog W .any base t v := hval0
  have hW' := hW
  obtain ⟨p, q, hA0, hV, rfl, hfz, hnd⟩ := hW
  have hA : DataW.TrodAll enc Tryz.prog W 0 (fun _ => true) true Tryz.f4.params.toList args.toList ds p := hA0
  have hAk := hA
  rw [Tryz.params4] at hA hval
  obtain ⟨rfl, rfl⟩ := trodVars_none hV
  clear hA0 hval0
  simp only [List.append_nil] at hW'
  obtain ⟨v0, v1, d0, d1, p0, p1, rfl, rfl, rfl, h0, h1⟩ := trodAll_two hA
  have hv0 := hval 0 52 v0 rfl rfl
  have hv1 := hval 1 24 v1 rfl rfl
  obtain ⟨c0, c1, y0, y1, n, rfl, rfl, rfl, hy0, hy1⟩ := open_agg2 Tryz.underlying52 (by kernel_rfl) cells52 hv0 h0
  obtain ⟨b, e1, rfl, wb⟩ := DataW.trod_int Tryz.underlying3 hy1
  simp only [List.cons.injEq, and_true] at e1
  subst e1
  have hc0 : Cell.okWide Tryz.prog W .any base 50 c0 := by
    simp only [Value.okWide, Tryz.underlying52] at hv0
    obtain ⟨cs, hcs, _, ts, hts, _, hall⟩ := hv0
    rw [types52] at hts
    cases hts
    cases hcs
    obtain ⟨u, hu, hx⟩ := hall 0 c0 rfl
    cases hu
    exact hx
  have hc1 : Cell.okWide Tryz.prog W .any base 24 v1 := by
    simpa only [Value.okWide, Tryz.underlying24] using hv1
  obtain ⟨n1, h1⟩ := h1
  have hcl : v1.cells.toList = [v1] := by
    obtain ⟨a, len, cap, rfl⟩ := okWide_slice Tryz.underlying24 hv1
    rfl
  rw [hcl] at h1
  obtain ⟨l0, r0, k0, ha0⟩ := arg_slice (enc := enc61) (z := 2) (fun _ => rfl) cells61 ⟨⟨0, 0⟩⟩ Tryz.underlying50 hc0 hy0 read61
  obtain ⟨l1, r1, k1, ha1⟩ := arg_slice (enc := enc3) (z := 1) (fun _ => rfl) cells3 ⟨0⟩ Tryz.underlying24 hc1 h1 read3
  have hrel : MRel W.heap.size (mapA [r0, r1]) (memA [r0, r1]) W := rel2 ha0.row ha1.row
  have m0 : ∀ x, r0 = some x → mapA [r0, r1] (Pos.ofNat 0) = some x.1 := fun x hx => mapA_at (by rw [hx]; rfl)
  have m1 : ∀ x, r1 = some x → mapA [r0, r1] (Pos.ofNat 1) = some x.1 := fun x hx => mapA_at (by rw [hx]; rfl)
  have f0 : ∀ x, r0 = some x → rd (memA [r0, r1]) (Pos.ofNat 0) = some x.2 := fun x hx => ro_rd (memA_ro (by rw [hx]; rfl))
  have f1 : ∀ x, r1 = some x → rd (memA [r0, r1]) (Pos.ofNat 1) = some x.2 := fun x hx => ro_rd (memA_ro (by rw [hx]; rfl))
  have hm0 := ha0.len
  have hm1 := ha1.len
  unfold maxLen at hm0 hm1
  have hlaw := law_eq (l0.length + l1.length + 1) ⟨l0, b⟩ l1 (by simp only; omega) (by omega) (by simp only; omega) (by omega) rfl
  have hok := law05_RecordStrains_ok (l0.length + l1.length + 1) ⟨l0, b⟩ l1 _ _ true (memA [r0, r1]) (ha0.slc _ 0 f0) (ha1.slc _ 1 f1) hlaw
  have has : concs (mapA [r0, r1]) [.agg [argS r0 0 l0.length k0, .int .i64 b], argS r1 1 l1.length k1] = some [.agg #[c0, .int .i64 b], v1] := by
    refine concs_cons ?_ (concs_cons (ha1.val _ 1 m1) (concs_nil _))
    show (concs _ [argS r0 0 l0.length k0, .int .i64 b]).map _ = _
    rw [concs_cons (ha0.val _ 0 m0) (concs_cons rfl (concs_nil _))]
    rfl
  refine (hok mixed _ _ W #[.agg #[c0, .int .i64 b], v1] hrel has).mono fun e W' => ?_
  rintro ⟨v, rfl, hv, hb⟩
  cases hv
  exact ⟨_, rfl, _, _, _, [], _, [], hW', trodAll_cons_mk (shut_bool Tryz.underlying4 _) trodAll_mk0, trodAll_below kids full hb within hAk, rfl, hb.frame _, fun h => by cases h⟩


theorem hfn : Tryz.prog.funcNamed Rows.recordStrainsRow.func = some 4 := by kernel_rfl
theorem hinst : Tryz.f4.isInstance Tryz.prog Rows.recordStrainsRow.origin Rows.recordStrainsRow.targs := of_decide_eq_true (by kernel_rfl)
theorem hwrap : Tryz.f4.isWrapper Tryz.prog Rows.recordStrainsRow.wrapper Rows.recordStrainsRow.mainSum := by
  unfold Func.isWrapper
  first
    | (rw [if_pos (by decide +kernel)]; kernel_rfl)
    | (rw [if_neg (by decide +kernel)]; exact ⟨rfl, rfl⟩)
set_option maxRecDepth 100000 in
theorem facts : joinedFacts Tryz.prog 4 Tryz.f4 Rows.recordStrainsSpec Rows.recordStrainsRow = true := (and2 (and2 (and2 (and2 (and2 (and2 (and2 (and2 (and2 (and2 (and2 (and2 (and2 (and2 (and2 (and2 (and2 (and2 (and2 (and2 (and2 (and2 (and2 (and2 (and2 (and2 (and2 (and2 (and2 (and2 (and2 j0 j1) j2) j3) j4) j5) j6) j7) j8) j9) j10) j11) j12) j13) j14) j15) j16) j17) j18) j19) j20) j21) j22) j23) j24) j25) j26) j27) j28) j29) j30) j31)

theorem over : Rows.RecordStrainsSaid :=
  OpenClaim.holds_of_wide (p := Tryz.pinned) (s := Rows.recordStrainsSpec) (c := Rows.recordStrainsRow) 4 Tryz.f4 rfl rfl rfl rfl rfl rfl rfl ⟨rfl, rfl, rfl, rfl, rfl⟩ rfl rfl rfl rfl rfl hfn Tryz.func4 facts hinst hwrap
    (fun os started H enc _ => lifted os started H enc)
end Go.Proofs.YtodkhehadlkbiaaGreatDoor.recordStrains
