/- The row holds: the call answers true whatever its arguments are, and they read behind it as before. -/
import Derived.Test.YtcifnjdjnoadfaaSearchSealsMath9
import Derived.Test.YtcifnjdjnoadfaaSearchSealsFacts
import Derived.Test.YtcifnjdjnoadfaaRows
import Derived.WalkKit
import Derived.ProofKit
import Derived.OpenShut
import Derived.LaidMore
import Derived.Stop.Joined
import Derived.Lib.SmallJoins
namespace Go.Proofs.Ytcifnjdjnoadfaa.searchSeals
open Go.ChangeShapes Go.WideShapes Go.ChangeAt Go.RowKit Go.Joins Go.Ev Go.Ev.SearchSeals

set_option linter.unusedVariables false
theorem own : ownKnob Try.prog.godebug = none := by kernel_rfl
theorem mixed : Try.prog.follows .mixedOrders = true := by kernel_rfl
theorem kids : Kids Try.prog (· < Try.prog.types.size) := kids_rows (by kernel_rfl) (by kernel_rfl)
theorem full : ∀ t e, t < Try.prog.types.size → Try.prog.underlying t = some (.slice e) → 0 < Try.prog.cellsOf e := slices_full_of Try.prog (by kernel_rfl)
theorem within : ∀ t ∈ Try.f8.params.toList, t < Try.prog.types.size := by
  have h : (Try.f8.params.toList.all fun t => decide (t < Try.prog.types.size)) = true := by kernel_rfl
  intro t ht
  exact of_decide_eq_true (List.all_eq_true.1 h t ht)

theorem cells3 : Try.prog.cellsOf 3 = 1 := by kernel_rfl
theorem read3 {H : Type} {enc : TypeId × Value → H} {W : World} {held : Bool} (n : Nat) (cs : List Value) (x : DataW H × List MemPlace) (h : DataW.trod enc Try.prog W 0 (fun _ => true) held n 3 cs = some x) : ∃ a : Int, ∀ m, concs m (enc3 a) = some cs := by
  obtain ⟨a, rfl, _, _⟩ := DataW.trod_int Try.underlying3 h
  exact ⟨a, fun m => rfl⟩
theorem cells83 : Try.prog.cellsOf 83 = 3 := by kernel_rfl
theorem cells38 : Try.prog.cellsOf 38 = 1 := by kernel_rfl
theorem one83 : Deep.oneCellFields Try.prog #[⟨ "At", 3, 0, false, "", "", 0⟩, ⟨ "Gain", 3, 1, false, "", "", 8⟩, ⟨ "Samples", 38, 2, false, "", "", 16⟩] = true := by kernel_rfl
theorem list3 {α : Type} : ∀ {l : List α}, l.length = 3 → ∃ a0 a1 a2, l = [a0, a1, a2]
  | [a0, a1, a2], _ => ⟨a0, a1, a2, rfl⟩
theorem read83 {H : Type} {enc : TypeId × Value → H} {W : World} {held : Bool} (n : Nat) (cs : List Value) (x : DataW H × List MemPlace) (h : DataW.trod enc Try.prog W 0 (fun _ => true) held n 83 cs = some x) : ∃ (a : S_api_Wave) (r : ARow) (s : Nat → List SV), ElemArg W 3 rep83 (fun a => a.Samples.length ≤ maxLen) cs a r s := by
  obtain ⟨xs, k, _, _, hlen, hxs, hf⟩ := DataW.trod_struct Try.underlying83 h
  obtain ⟨y0, y1, y2, rfl⟩ := list3 hxs
  have h0 := hf 0 (⟨ "At", 3, 0, false, "", "", 0⟩) rfl
  have h1 := hf 1 (⟨ "Gain", 3, 1, false, "", "", 8⟩) rfl
  have h2 := hf 2 (⟨ "Samples", 38, 2, false, "", "", 16⟩) rfl
  rw [cells83] at hlen
  obtain ⟨c0, c1, c2, rfl⟩ := list3 hlen
  simp only [cells3, cells38] at h0 h1 h2
  obtain ⟨b0, e0, _, _⟩ := DataW.trod_int Try.underlying3 h0
  obtain ⟨b1, e1, _, _⟩ := DataW.trod_int Try.underlying3 h1
  simp only [List.drop_zero, List.take_succ_cons, List.take_zero, List.drop_succ_cons, List.cons.injEq, and_true] at e0 e1 h2
  subst e0 e1
  obtain ⟨l, r, s, ha⟩ := inner_arg (enc := enc3) (z := 1) (fun _ => rfl) (by omega) cells3 ⟨0⟩ Try.underlying38 h2 read3
  exact ⟨⟨b0, b1, l⟩, r, fun j => [.int .i64 b0, .int .i64 b1, s j], ⟨ha.row, fun m j hm => concs_cons rfl (concs_cons rfl (concs_cons (ha.val m j hm) (concs_nil m))), fun f j hf => ⟨_, rfl, ha.slc f j hf⟩, fun _ => rfl, ha.len⟩⟩
/-- Where the run begins: the arguments' rows. -/
noncomputable def rowsB (r0 : ARow) (R1 : Nat → List BRow) : List BRow := [argB r0] ++ R1 1
theorem relB {W : World} {r0 : ARow} {R1 : Nat → List BRow} (h0 : ∀ x, r0 = some x → x.1.block < W.heap.size ∧ ∀ m, RowRel m x.1 none .lost x.2 W.heap[x.1.block]?) (hN : ∀ (i : Nat) (y : Bool × Pl × List SV), (R1 1)[i]? = some (some y) → y.1 = false ∧ y.2.1.block < W.heap.size ∧ ∀ m, AtM m 1 (R1 1) → RowRel m y.2.1 none .lost y.2.2 W.heap[y.2.1.block]?) : MRel W.heap.size (mapB (rowsB r0 R1)) (memB (rowsB r0 R1)) W := memB_rel2 fun j x hj => by
  unfold rowsB at hj
  rcases j with _ | j
  · have hj' : argB r0 = some x := Option.some.inj hj
    obtain ⟨y, hy, rfl⟩ := Option.map_eq_some_iff.1 hj'
    exact ⟨(h0 y hy).1, (h0 y hy).2 _, rfl⟩
  · have hj' : (R1 1)[j]? = some (some x) := hj
    obtain ⟨h1, h2, h3⟩ := hN j x hj'
    exact ⟨h2, h3 _ (atM_app (pre := [argB r0])), h1⟩
theorem fixB (r0 : ARow) (R1 : Nat → List BRow) : FixIn (memB (rowsB r0 R1)) Go.Proofs.Ytcifnjdjnoadfaa.works.fixes := fun x hx => absurd hx List.not_mem_nil

set_option maxRecDepth 100000 in
theorem lifted (os : Os) (started : os.Started) (H : Type) (enc : TypeId × Value → H) :
    ReturnsInHanded {} Try.checked os 8 .any (Rows.searchSealsSpec.pre6 enc Try.prog Try.f8 Rows.searchSealsRow.domain false)
      (Rows.searchSealsSpec.post enc Try.prog Try.f8 false true false false) := by
  refine returnsInHanded_of_change (C := Try.checked) own started (by kernel_rfl) Try.func8
    (ChangeSpec.witness6 (enc := enc) (C := Try.checked) false ⟨#[], #[.slice none 0 0, .slice none 0 0, .int .i64 0], []⟩ 8 (by kernel_rfl) (by kernel_rfl) (by kernel_rfl) (by kernel_rfl)) ?_
  intro W base args ds gs before hval0 hW hcnd _
  have hval : ∀ (j : Nat) t v, Try.f8.params[j]? = some t → args[j]? = some v → Value.okWide Try.prog W .any base t v := hval0
  have hW' := hW
  obtain ⟨p, q, hA0, hV, rfl, hfz, hnd⟩ := hW
  have hA : DataW.TrodAll enc Try.prog W 0 (fun _ => true) true Try.f8.params.toList args.toList ds p := hA0
  have hAk := hA
  rw [Try.params8] at hA hval
  obtain ⟨rfl, rfl⟩ := trodVars_none hV
  clear hA0 hval0
  simp only [List.append_nil] at hW'
  obtain ⟨v0, v1, v2, d0, d1, d2, p0, p1, p2, rfl, rfl, rfl, h0, h1, h2⟩ := trodAll_three hA
  have hv0 := hval 0 38 v0 rfl rfl
  have hc0 : Cell.okWide Try.prog W .any base 38 v0 := by
    simpa only [Value.okWide, Try.underlying38] using hv0
  obtain ⟨n0, h0⟩ := h0
  have hcl0 : v0.cells.toList = [v0] := by
    obtain ⟨a, len, cap, rfl⟩ := okWide_slice Try.underlying38 hv0
    rfl
  rw [hcl0] at h0
  obtain ⟨l0, r0, k0, ha0⟩ := arg_slice (enc := enc3) (z := 1) (fun _ => rfl) cells3 ⟨0⟩ Try.underlying38 hc0 h0 read3
  have hm0 := ha0.len
  unfold maxLen at hm0
  have hv1 := hval 1 55 v1 rfl rfl
  have hc1 : Cell.okWide Try.prog W .any base 55 v1 := by
    simpa only [Value.okWide, Try.underlying55] using hv1
  obtain ⟨n1, h1⟩ := h1
  have hcl1 : v1.cells.toList = [v1] := by
    obtain ⟨a, len, cap, rfl⟩ := okWide_slice Try.underlying55 hv1
    rfl
  rw [hcl1] at h1
  obtain ⟨l1, R1, S1, ha1⟩ := arg_nest (R := rep83) (Q := fun a => a.Samples.length ≤ maxLen) (z := 3) cells83 ⟨⟨0, 0, []⟩⟩ Try.underlying55 hc1 h1 read83
  have hm1 := ha1.len
  unfold maxLen at hm1
  have hv2 := hval 2 3 v2 rfl rfl
  obtain ⟨n2, h2⟩ := h2
  obtain ⟨b2, e2, wb2, _⟩ := DataW.trod_int Try.underlying3 h2
  have e2' : v2 = .int .i64 b2 := by
    have hcl : v2.cells.toList = [v2] := by
      obtain ⟨a, rfl⟩ := okWide_int Try.underlying3 hv2
      rfl
    rw [hcl] at e2
    simpa using e2
  subst e2'
  have hrel : MRel W.heap.size (mapB (rowsB r0 R1)) (memB (rowsB r0 R1)) W := relB ha0.row (ha1.row 1)
  have m0 : ∀ x, r0 = some x → mapB (rowsB r0 R1) (Pos.ofNat 0) = some x.1 := fun x hx => mapB_at (x := (false, x.1, x.2)) (by rw [hx]; rfl)
  have f0 : ∀ x, r0 = some x → rd (memB (rowsB r0 R1)) (Pos.ofNat 0) = some x.2 := fun x hx => ro_rd (memB_ro (p := x.1) (by rw [hx]; rfl))
  have mN : AtM (mapB (rowsB r0 R1)) 1 (R1 1) := atM_app (pre := [argB r0])
  have fN : AtF (rd (memB (rowsB r0 R1))) 1 (R1 1) := atF_app (pre := [argB r0]) fun i y hy => (ha1.row 1 i y hy).1
  have hlaw := law_eq (l0.length + l1.length + 1400) l0 l1 b2 (by omega) (by omega) (by omega) (by omega) (fun a h => Nat.le_trans (ha1.all a h) (by unfold maxLen; omega)) rfl
  have hrun := law08_SearchSeals_run (l0.length + l1.length + 1400) l0 l1 b2 _ _ true (memB (rowsB r0 R1)) (ha0.slc _ 0 f0) (ha1.slc _ 1 fN) (fixB r0 R1) hlaw
  have has : concs (mapB (rowsB r0 R1)) [argS r0 0 l0.length k0, S1 1, .int .i64 b2] = some [v0, v1, .int .i64 b2] := by
    refine concs_cons (ha0.val _ 0 m0) (concs_cons (ha1.val _ 1 mN) (concs_cons rfl (concs_nil _)))
  have hcalls : Calls Try.prog 8 #[v0, v1, .int .i64 b2] W fun e W' => e = .returned (.bool true) ∧ Below W.heap.size W W' := by
    refine (Run.calls (Q := law08_SearchSeals_post true) mixed Try.func8 rfl rfl (frozen_rel hrel) (vs := #[v0, v1, .int .i64 b2]) has hrun).mono fun e W' ⟨m', M', s, x, he, hx, hs, hst⟩ => ?_
    have hs' : s = .bool true := hs
    subst hs'
    have hx' : x = .bool true := by simp [conc] at hx; exact hx.symm
    subst hx'
    exact ⟨he, hst.below⟩
  refine hcalls.mono fun e W' ⟨he, hb⟩ => ?_
  subst he
  exact ⟨_, rfl, _, _, _, [], _, [], hW', trodAll_cons_mk (shut_bool Try.underlying4 _) trodAll_mk0, trodAll_below kids full hb within hAk, rfl, hb.frame _, fun h => by cases h⟩

theorem hfn : Try.prog.funcNamed Rows.searchSealsRow.func = some 8 := by kernel_rfl
theorem hinst : Try.f8.isInstance Try.prog Rows.searchSealsRow.origin Rows.searchSealsRow.targs := of_decide_eq_true (by kernel_rfl)
theorem hwrap : Try.f8.isWrapper Try.prog Rows.searchSealsRow.wrapper Rows.searchSealsRow.mainSum := by
  unfold Func.isWrapper
  first
    | (rw [if_pos (by decide +kernel)]; kernel_rfl)
    | (rw [if_neg (by decide +kernel)]; exact ⟨rfl, rfl⟩)
set_option maxRecDepth 100000 in
theorem facts : joinedFacts Try.prog 8 Try.f8 Rows.searchSealsSpec Rows.searchSealsRow = true := (and2 (and2 (and2 (and2 (and2 (and2 (and2 (and2 (and2 (and2 (and2 (and2 (and2 (and2 (and2 (and2 (and2 (and2 (and2 (and2 (and2 (and2 (and2 (and2 (and2 (and2 (and2 (and2 (and2 (and2 (and2 j0 j1) j2) j3) j4) j5) j6) j7) j8) j9) j10) j11) j12) j13) j14) j15) j16) j17) j18) j19) j20) j21) j22) j23) j24) j25) j26) j27) j28) j29) j30) j31)

theorem over : Rows.SearchSealsSaid :=
  OpenClaim.holds_of_wide (p := Try.pinned) (s := Rows.searchSealsSpec) (c := Rows.searchSealsRow) 8 Try.f8 rfl rfl rfl rfl rfl rfl rfl ⟨rfl, rfl, rfl, rfl, rfl⟩ rfl rfl rfl rfl rfl hfn Try.func8 facts hinst hwrap
    (fun os started H enc _ => lifted os started H enc)
end Go.Proofs.Ytcifnjdjnoadfaa.searchSeals
