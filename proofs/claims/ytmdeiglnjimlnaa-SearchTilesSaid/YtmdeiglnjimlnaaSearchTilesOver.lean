/- The row holds: the call answers true whatever its arguments are, and they read behind it as before. -/
import Derived.Test.YtmdeiglnjimlnaaSearchTilesMath12
import Derived.Test.YtmdeiglnjimlnaaSearchTilesFacts
import Derived.Test.YtmdeiglnjimlnaaRows
import Derived.WalkKit
import Derived.ProofKit
import Derived.OpenShut
import Derived.LaidMore
import Derived.Stop.Joined
import Derived.Lib.SmallJoins
namespace Go.Proofs.Ytmdeiglnjimlnaa.searchTiles
open Go.ChangeShapes Go.WideShapes Go.ChangeAt Go.RowKit Go.Joins Go.Ev Go.Ev.SearchTiles

set_option linter.unusedVariables false
theorem own : ownKnob Try.prog.godebug = none := by kernel_rfl
theorem mixed : Try.prog.follows .mixedOrders = true := by kernel_rfl
theorem kids : Kids Try.prog (· < Try.prog.types.size) := kids_rows (by kernel_rfl) (by kernel_rfl)
theorem full : ∀ t e, t < Try.prog.types.size → Try.prog.underlying t = some (.slice e) → 0 < Try.prog.cellsOf e := slices_full_of Try.prog (by kernel_rfl)
theorem within : ∀ t ∈ Try.f3.params.toList, t < Try.prog.types.size := by
  have h : (Try.f3.params.toList.all fun t => decide (t < Try.prog.types.size)) = true := by kernel_rfl
  intro t ht
  exact of_decide_eq_true (List.all_eq_true.1 h t ht)

theorem cells3 : Try.prog.cellsOf 3 = 1 := by kernel_rfl
theorem read3 {H : Type} {enc : TypeId × Value → H} {W : World} {held : Bool} (n : Nat) (cs : List Value) (x : DataW H × List MemPlace) (h : DataW.trod enc Try.prog W 0 (fun _ => true) held n 3 cs = some x) : ∃ a : Int, ∀ m, concs m (enc3 a) = some cs := by
  obtain ⟨a, rfl, _, _⟩ := DataW.trod_int Try.underlying3 h
  exact ⟨a, fun m => rfl⟩
/-- Where the run begins: the arguments' rows. -/
noncomputable def rowsB (r0 : ARow) : List BRow := [argB r0]
theorem relB {W : World} {r0 : ARow} (h0 : ∀ x, r0 = some x → x.1.block < W.heap.size ∧ ∀ m, RowRel m x.1 none .lost x.2 W.heap[x.1.block]?) : MRel W.heap.size (mapB (rowsB r0)) (memB (rowsB r0)) W := memB_rel2 fun j x hj => by
  unfold rowsB at hj
  rcases j with _ | j
  · have hj' : argB r0 = some x := Option.some.inj hj
    obtain ⟨y, hy, rfl⟩ := Option.map_eq_some_iff.1 hj'
    exact ⟨(h0 y hy).1, (h0 y hy).2 _, rfl⟩
  · simp at hj
theorem fixB (r0 : ARow) : FixIn (memB (rowsB r0)) Go.Proofs.Ytmdeiglnjimlnaa.works.fixes := fun x hx => absurd hx List.not_mem_nil

set_option maxRecDepth 100000 in
theorem lifted (os : Os) (started : os.Started) (H : Type) (enc : TypeId × Value → H) :
    ReturnsInHanded {} Try.checked os 3 .any (Rows.searchTilesSpec.pre6 enc Try.prog Try.f3 Rows.searchTilesRow.domain false)
      (Rows.searchTilesSpec.post enc Try.prog Try.f3 false true false false) := by
  refine returnsInHanded_of_change (C := Try.checked) own started (by kernel_rfl) Try.func3
    (ChangeSpec.witness6 (enc := enc) (C := Try.checked) false ⟨#[], #[.slice none 0 0, .int .i64 0], []⟩ 8 (by kernel_rfl) (by kernel_rfl) (by kernel_rfl) (by kernel_rfl)) ?_
  intro W base args ds gs before hval0 hW hcnd _
  have hval : ∀ (j : Nat) t v, Try.f3.params[j]? = some t → args[j]? = some v → Value.okWide Try.prog W .any base t v := hval0
  have hW' := hW
  obtain ⟨p, q, hA0, hV, rfl, hfz, hnd⟩ := hW
  have hA : DataW.TrodAll enc Try.prog W 0 (fun _ => true) true Try.f3.params.toList args.toList ds p := hA0
  have hAk := hA
  rw [Try.params3] at hA hval
  obtain ⟨rfl, rfl⟩ := trodVars_none hV
  clear hA0 hval0
  simp only [List.append_nil] at hW'
  obtain ⟨v0, v1, d0, d1, p0, p1, rfl, rfl, rfl, h0, h1⟩ := trodAll_two hA
  have hv0 := hval 0 22 v0 rfl rfl
  have hc0 : Cell.okWide Try.prog W .any base 22 v0 := by
    simpa only [Value.okWide, Try.underlying22] using hv0
  obtain ⟨n0, h0⟩ := h0
  have hcl0 : v0.cells.toList = [v0] := by
    obtain ⟨a, len, cap, rfl⟩ := okWide_slice Try.underlying22 hv0
    rfl
  rw [hcl0] at h0
  obtain ⟨l0, r0, k0, ha0⟩ := arg_slice (enc := enc3) (z := 1) (fun _ => rfl) cells3 ⟨0⟩ Try.underlying22 hc0 h0 read3
  have hm0 := ha0.len
  unfold maxLen at hm0
  have hv1 := hval 1 3 v1 rfl rfl
  obtain ⟨n1, h1⟩ := h1
  obtain ⟨b1, e1, wb1, _⟩ := DataW.trod_int Try.underlying3 h1
  have e1' : v1 = .int .i64 b1 := by
    have hcl : v1.cells.toList = [v1] := by
      obtain ⟨a, rfl⟩ := okWide_int Try.underlying3 hv1
      rfl
    rw [hcl] at e1
    simpa using e1
  subst e1'
  have hrel : MRel W.heap.size (mapB (rowsB r0)) (memB (rowsB r0)) W := relB ha0.row
  have m0 : ∀ x, r0 = some x → mapB (rowsB r0) (Pos.ofNat 0) = some x.1 := fun x hx => mapB_at (x := (false, x.1, x.2)) (by rw [hx]; rfl)
  have f0 : ∀ x, r0 = some x → rd (memB (rowsB r0)) (Pos.ofNat 0) = some x.2 := fun x hx => ro_rd (memB_ro (p := x.1) (by rw [hx]; rfl))
  have hlaw := law_eq (l0.length + 2300) l0 b1 (by omega) (by omega) rfl
  have hrun := law08_SearchTiles_run (l0.length + 2300) l0 b1 _ true (memB (rowsB r0)) (ha0.slc _ 0 f0) (fixB r0) hlaw
  have has : concs (mapB (rowsB r0)) [argS r0 0 l0.length k0, .int .i64 b1] = some [v0, .int .i64 b1] := by
    refine concs_cons (ha0.val _ 0 m0) (concs_cons rfl (concs_nil _))
  have hcalls : Calls Try.prog 3 #[v0, .int .i64 b1] W fun e W' => e = .returned (.bool true) ∧ Below W.heap.size W W' := by
    refine (Run.calls (Q := law08_SearchTiles_post true) mixed Try.func3 rfl rfl (frozen_rel hrel) (vs := #[v0, .int .i64 b1]) has hrun).mono fun e W' ⟨m', M', s, x, he, hx, hs, hst⟩ => ?_
    have hs' : s = .bool true := hs
    subst hs'
    have hx' : x = .bool true := by simp [conc] at hx; exact hx.symm
    subst hx'
    exact ⟨he, hst.below⟩
  refine hcalls.mono fun e W' ⟨he, hb⟩ => ?_
  subst he
  exact ⟨_, rfl, _, _, _, [], _, [], hW', trodAll_cons_mk (shut_bool Try.underlying4 _) trodAll_mk0, trodAll_below kids full hb within hAk, rfl, hb.frame _, fun h => by cases h⟩

theorem hfn : Try.prog.funcNamed Rows.searchTilesRow.func = some 3 := by kernel_rfl
theorem hinst : Try.f3.isInstance Try.prog Rows.searchTilesRow.origin Rows.searchTilesRow.targs := of_decide_eq_true (by kernel_rfl)
theorem hwrap : Try.f3.isWrapper Try.prog Rows.searchTilesRow.wrapper Rows.searchTilesRow.mainSum := by
  unfold Func.isWrapper
  first
    | (rw [if_pos (by decide +kernel)]; kernel_rfl)
    | (rw [if_neg (by decide +kernel)]; exact ⟨rfl, rfl⟩)
set_option maxRecDepth 100000 in
theorem facts : joinedFacts Try.prog 3 Try.f3 Rows.searchTilesSpec Rows.searchTilesRow = true := (and2 (and2 (and2 (and2 (and2 (and2 (and2 (and2 (and2 (and2 (and2 (and2 (and2 (and2 (and2 (and2 (and2 (and2 (and2 (and2 (and2 (and2 (and2 (and2 (and2 (and2 (and2 (and2 (and2 (and2 (and2 j0 j1) j2) j3) j4) j5) j6) j7) j8) j9) j10) j11) j12) j13) j14) j15) j16) j17) j18) j19) j20) j21) j22) j23) j24) j25) j26) j27) j28) j29) j30) j31)

theorem over : Rows.SearchTilesSaid :=
  OpenClaim.holds_of_wide (p := Try.pinned) (s := Rows.searchTilesSpec) (c := Rows.searchTilesRow) 3 Try.f3 rfl rfl rfl rfl rfl rfl rfl ⟨rfl, rfl, rfl, rfl, rfl⟩ rfl rfl rfl rfl rfl hfn Try.func3 facts hinst hwrap
    (fun os started H enc _ => lifted os started H enc)
end Go.Proofs.Ytmdeiglnjimlnaa.searchTiles
