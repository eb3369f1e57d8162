/- The row holds: the call answers true whatever its arguments are, and they read behind it as before. -/
import Derived.Test.YtmdeiglnjimlnaaSearchVetoedMath9
import Derived.Test.YtmdeiglnjimlnaaSearchVetoedFacts
import Derived.Test.YtmdeiglnjimlnaaRows
import Derived.WalkKit
import Derived.ProofKit
import Derived.OpenShut
import Derived.LaidMore
import Derived.SizedLaws
import Derived.Stop.Joined
import Derived.Lib.SmallJoins
namespace Go.Proofs.Ytmdeiglnjimlnaa.searchVetoed
open Go.ChangeShapes Go.WideShapes Go.ChangeAt Go.RowKit Go.Joins Go.Ev Go.Ev.SearchVetoed

set_option linter.unusedVariables false
theorem own : ownKnob Try.prog.godebug = none := by kernel_rfl
theorem mixed : Try.prog.follows .mixedOrders = true := by kernel_rfl
theorem kids : Kids Try.prog (· < Try.prog.types.size) := kids_rows (by kernel_rfl) (by kernel_rfl)
theorem full : ∀ t e, t < Try.prog.types.size → Try.prog.underlying t = some (.slice e) → 0 < Try.prog.cellsOf e := slices_full_of Try.prog (by kernel_rfl)
theorem within : ∀ t ∈ Try.f4.params.toList, t < Try.prog.types.size := by
  have h : (Try.f4.params.toList.all fun t => decide (t < Try.prog.types.size)) = true := by kernel_rfl
  intro t ht
  exact of_decide_eq_true (List.all_eq_true.1 h t ht)

theorem cells3 : Try.prog.cellsOf 3 = 1 := by kernel_rfl
theorem read3 {H : Type} {enc : TypeId × Value → H} {W : World} {held : Bool} (n : Nat) (cs : List Value) (x : DataW H × List MemPlace) (h : DataW.trod enc Try.prog W 0 (fun _ => true) held n 3 cs = some x) : ∃ a : Int, ∀ m, concs m (enc3 a) = some cs := by
  obtain ⟨a, rfl, _, _⟩ := DataW.trod_int Try.underlying3 h
  exact ⟨a, fun m => rfl⟩
theorem list3 {α : Type} : ∀ {l : List α}, l.length = 3 → ∃ a0 a1 a2, l = [a0, a1, a2]
  | [a0, a1, a2], _ => ⟨a0, a1, a2, rfl⟩
theorem cells43 : Try.prog.cellsOf 43 = 3 := by kernel_rfl
theorem read43 {H : Type} {enc : TypeId × Value → H} {W : World} {held : Bool} (n : Nat) (cs : List Value) (x : DataW H × List MemPlace) (h : DataW.trod enc Try.prog W 0 (fun _ => true) held n 43 cs = some x) : ∃ a : S_api_Trigger, ∀ m, concs m (enc43 a) = some cs := by
  have hlen : cs.length = 3 := (DataW.trod_struct Try.underlying43 h).elim fun _ h1 => h1.elim fun _ h2 => h2.2.2.1.trans cells43
  obtain ⟨c0, c1, c2, rfl⟩ := list3 hlen
  obtain ⟨xs, m, _, hx, _, hl, hf⟩ := DataW.trod_struct Try.underlying43 h
  obtain ⟨x_0, x_1, x_2, rfl⟩ := list3 hl
  have g_0 := hf 0 (⟨ "Time", 3, 0, false, "", "", 0⟩) rfl
  simp only [cells3] at g_0
  have g_1 := hf 1 (⟨ "Loud", 3, 1, false, "", "", 8⟩) rfl
  simp only [cells3] at g_1
  have g_2 := hf 2 (⟨ "Template", 3, 2, false, "", "", 16⟩) rfl
  simp only [cells3] at g_2
  have q_0 : DataW.trod enc Try.prog W 0 (fun _ => true) held m 3 [c0] = some x_0 := g_0
  have q_1 : DataW.trod enc Try.prog W 0 (fun _ => true) held m 3 [c1] = some x_1 := g_1
  have q_2 : DataW.trod enc Try.prog W 0 (fun _ => true) held m 3 [c2] = some x_2 := g_2
  obtain ⟨a_0, ha_0⟩ := read3 _ _ _ q_0
  obtain ⟨a_1, ha_1⟩ := read3 _ _ _ q_1
  obtain ⟨a_2, ha_2⟩ := read3 _ _ _ q_2
  exact ⟨⟨a_0, a_1, a_2⟩, fun m => concs_append (ha_0 m) (concs_append (ha_1 m) (ha_2 m))⟩
theorem cells40 : Try.prog.cellsOf 40 = 4 := by kernel_rfl
theorem arr4 {α : Type} {cs : Array α} (h : cs.size = 4) : ∃ c0 c1 c2 c3, cs = #[c0, c1, c2, c3] := by
  obtain ⟨l⟩ := cs
  match l, h with
  | [c0, c1, c2, c3], _ => exact ⟨c0, c1, c2, c3, rfl⟩
theorem types40 : Try.prog.cellTypes Try.prog.depth 40 = some [3, 3, 3, 3] := by kernel_rfl
def enc40 (a : S_ringdownlaw08_Clock) : List SV := [(.int .i64 a.Live), (.int .i64 a.Window), (.int .i64 a.Step), (.int .i64 a.Limit)]
theorem list4 {α : Type} : ∀ {l : List α}, l.length = 4 → ∃ a0 a1 a2 a3, l = [a0, a1, a2, a3]
  | [a0, a1, a2, a3], _ => ⟨a0, a1, a2, a3, rfl⟩
theorem read40 {H : Type} {enc : TypeId × Value → H} {W : World} {held : Bool} (n : Nat) (cs : List Value) (x : DataW H × List MemPlace) (h : DataW.trod enc Try.prog W 0 (fun _ => true) held n 40 cs = some x) : ∃ a : S_ringdownlaw08_Clock, ∀ m, concs m (enc40 a) = some cs := by
  have hlen : cs.length = 4 := (DataW.trod_struct Try.underlying40 h).elim fun _ h1 => h1.elim fun _ h2 => h2.2.2.1.trans cells40
  obtain ⟨c0, c1, c2, c3, rfl⟩ := list4 hlen
  obtain ⟨xs, m, _, hx, _, hl, hf⟩ := DataW.trod_struct Try.underlying40 h
  obtain ⟨x_0, x_1, x_2, x_3, rfl⟩ := list4 hl
  have g_0 := hf 0 (⟨ "Live", 3, 0, false, "", "", 0⟩) rfl
  simp only [cells3] at g_0
  have g_1 := hf 1 (⟨ "Window", 3, 1, false, "", "", 8⟩) rfl
  simp only [cells3] at g_1
  have g_2 := hf 2 (⟨ "Step", 3, 2, false, "", "", 16⟩) rfl
  simp only [cells3] at g_2
  have g_3 := hf 3 (⟨ "Limit", 3, 3, false, "", "", 24⟩) rfl
  simp only [cells3] at g_3
  have q_0 : DataW.trod enc Try.prog W 0 (fun _ => true) held m 3 [c0] = some x_0 := g_0
  have q_1 : DataW.trod enc Try.prog W 0 (fun _ => true) held m 3 [c1] = some x_1 := g_1
  have q_2 : DataW.trod enc Try.prog W 0 (fun _ => true) held m 3 [c2] = some x_2 := g_2
  have q_3 : DataW.trod enc Try.prog W 0 (fun _ => true) held m 3 [c3] = some x_3 := g_3
  obtain ⟨a_0, ha_0⟩ := read3 _ _ _ q_0
  obtain ⟨a_1, ha_1⟩ := read3 _ _ _ q_1
  obtain ⟨a_2, ha_2⟩ := read3 _ _ _ q_2
  obtain ⟨a_3, ha_3⟩ := read3 _ _ _ q_3
  exact ⟨⟨a_0, a_1, a_2, a_3⟩, fun m => concs_append (ha_0 m) (concs_append (ha_1 m) (concs_append (ha_2 m) (ha_3 m)))⟩
def enc9 (a : (List UInt8)) : List SV := [(.str a)]
theorem cells9 : Try.prog.cellsOf 9 = 1 := by kernel_rfl
theorem read9 {H : Type} {enc : TypeId × Value → H} {W : World} {held : Bool} (n : Nat) (cs : List Value) (x : DataW H × List MemPlace) (h : DataW.trod enc Try.prog W 0 (fun _ => true) held n 9 cs = some x) : ∃ a : (List UInt8), ∀ m, concs m (enc9 a) = some cs := by
  obtain ⟨a, rfl, _, _⟩ := DataW.trod_string Try.underlying9 h
  refine ⟨a.data.toList, fun m => ?_⟩
  show concs m [.str a.data.toList] = _
  simp only [concs, conc, string_self]
  rfl
theorem list2 {α : Type} : ∀ {l : List α}, l.length = 2 → ∃ a0 a1, l = [a0, a1]
  | [a0, a1], _ => ⟨a0, a1, rfl⟩
theorem cells151 : Try.prog.cellsOf 151 = 2 := by kernel_rfl
theorem read151 {H : Type} {enc : TypeId × Value → H} {W : World} {held : Bool} (n : Nat) (cs : List Value) (x : DataW H × List MemPlace) (h : DataW.trod enc Try.prog W 0 (fun _ => true) held n 151 cs = some x) : ∃ a : S_api_Segment, ∀ m, concs m (enc151 a) = some cs := by
  have hlen : cs.length = 2 := (DataW.trod_struct Try.underlying151 h).elim fun _ h1 => h1.elim fun _ h2 => h2.2.2.1.trans cells151
  obtain ⟨c0, c1, rfl⟩ := list2 hlen
  obtain ⟨xs, m, _, hx, _, hl, hf⟩ := DataW.trod_struct Try.underlying151 h
  obtain ⟨x_0, x_1, rfl⟩ := list2 hl
  have g_0 := hf 0 (⟨ "From", 3, 0, false, "", "", 0⟩) rfl
  simp only [cells3] at g_0
  have g_1 := hf 1 (⟨ "To", 3, 1, false, "", "", 8⟩) rfl
  simp only [cells3] at g_1
  have q_0 : DataW.trod enc Try.prog W 0 (fun _ => true) held m 3 [c0] = some x_0 := g_0
  have q_1 : DataW.trod enc Try.prog W 0 (fun _ => true) held m 3 [c1] = some x_1 := g_1
  obtain ⟨a_0, ha_0⟩ := read3 _ _ _ q_0
  obtain ⟨a_1, ha_1⟩ := read3 _ _ _ q_1
  exact ⟨⟨a_0, a_1⟩, fun m => concs_append (ha_0 m) (ha_1 m)⟩
theorem cells120 : Try.prog.cellsOf 120 = 2 := by kernel_rfl
theorem cells118 : Try.prog.cellsOf 118 = 1 := by kernel_rfl
theorem el120 {H : Type} {enc : TypeId × Value → H} {W : World} {held : Bool} (n : Nat) (cs : List Value) (x : DataW H × List MemPlace) (h : DataW.trod enc Try.prog W 0 (fun _ => true) held n 120 cs = some x) : ∃ (a : S_api_Veto) (r : ARow) (s : Nat → List SV), ElemArg W 2 rep120 (fun a => a.Segments.length ≤ maxLen) cs a r s := by
  have hlen : cs.length = 2 := (DataW.trod_struct Try.underlying120 h).elim fun _ h1 => h1.elim fun _ h2 => h2.2.2.1.trans cells120
  obtain ⟨c0, c1, rfl⟩ := list2 hlen
  obtain ⟨xs, m, _, hx, _, hl, hf⟩ := DataW.trod_struct Try.underlying120 h
  obtain ⟨x_0, x_1, rfl⟩ := list2 hl
  have g_0 := hf 0 (⟨ "Name", 9, 0, false, "", "", 0⟩) rfl
  simp only [cells9] at g_0
  have g_1 := hf 1 (⟨ "Segments", 118, 1, false, "", "", 16⟩) rfl
  simp only [cells118] at g_1
  have q_0 : DataW.trod enc Try.prog W 0 (fun _ => true) held m 9 [c0] = some x_0 := g_0
  have q_1 : DataW.trod enc Try.prog W 0 (fun _ => true) held m 118 [c1] = some x_1 := g_1
  obtain ⟨a_0, ha_0⟩ := read9 _ _ _ q_0
  obtain ⟨l, r, s, ha⟩ := inner_arg (enc := enc151) (z := 2) (fun _ => rfl) (by omega) cells151 ⟨(S_api_Segment.mk (0 : Int) (0 : Int))⟩ Try.underlying118 q_1 read151
  exact ⟨⟨a_0, l⟩, r, fun j => [(.str a_0), s j], ⟨ha.row, fun m j hm => (concs_append (ha_0 m) (concs_cons (ha.val m j hm) (concs_nil m))), fun f j hf => ⟨_, rfl, ha.slc f j hf⟩, fun _ => rfl, ha.len⟩⟩
/-- Where the run begins: the listed tables, the arguments' rows. -/
noncomputable def rowsB (r0 : ARow) (R2 : Nat → List BRow) : List BRow := [argB r0] ++ R2 1
theorem relB {W : World} {r0 : ARow} {R2 : Nat → List BRow} (hf : FixOK W Go.Proofs.Ytmdeiglnjimlnaa.works.fixes) (h0 : ∀ x, r0 = some x → x.1.block < W.heap.size ∧ ∀ m, RowRel m x.1 none .lost x.2 W.heap[x.1.block]?) (hN : ∀ (i : Nat) (y : Bool × Pl × List SV), (R2 1)[i]? = some (some y) → y.1 = false ∧ y.2.1.block < W.heap.size ∧ ∀ m, AtM m 1 (R2 1) → RowRel m y.2.1 none .lost y.2.2 W.heap[y.2.1.block]?) : MRel W.heap.size (mapB (rowsB r0 R2)) (memB (rowsB r0 R2)) W := memB_rel3 fun j x hj => by
  unfold rowsB at hj
  rcases j with _ | j
  · have hj' : argB r0 = some x := Option.some.inj hj
    obtain ⟨y, hy, rfl⟩ := Option.map_eq_some_iff.1 hj'
    exact ⟨(h0 y hy).1, (h0 y hy).2 _, fun h => by simp at h⟩
  · have hj' : (R2 1)[j]? = some (some x) := hj
    obtain ⟨h1, h2, h3⟩ := hN j x hj'
    exact ⟨h2, h3 _ (atM_app (pre := [argB r0])), fun h => by rw [h1] at h; simp at h⟩
theorem fixB (r0 : ARow) (R2 : Nat → List BRow) : FixIn (memB (rowsB r0 R2)) Go.Proofs.Ytmdeiglnjimlnaa.works.fixes := fun x hx => absurd hx List.not_mem_nil
theorem weights0 {P : Program} {H : Type} {t0 : TypeId} {ts : List TypeId} {f0 : DataW H} {gs : List (DataW H)} {y : Nat} (h : y ∈ DataW.weights P t0 f0) : y ∈ DataW.weightsEach P (t0 :: ts) (f0 :: gs) := by
  simp only [DataW.weightsEach, List.mem_append]
  exact .inl h
theorem bytes43 : Try.prog.bytesOf 43 = 24 := by kernel_rfl

set_option maxRecDepth 100000 in
theorem lifted (os : Os) (started : os.Started) (H : Type) (enc : TypeId × Value → H) :
    ReturnsInHanded {} Try.checked os 4 .any (Rows.searchVetoedSpec.pre6 enc Try.prog Try.f4 Rows.searchVetoedRow.domain false)
      (Rows.searchVetoedSpec.post enc Try.prog Try.f4 false true false false) := by
  refine returnsInHanded_of_change_sized (C := Try.checked) own started (by kernel_rfl) Try.func4
    (ChangeSpec.witness6 (enc := enc) (C := Try.checked) false ⟨#[], #[.slice none 0 0, .agg #[.int .i64 0, .int .i64 0, .int .i64 0, .int .i64 0], .slice none 0 0], []⟩ 8 (by kernel_rfl) (by kernel_rfl) (by kernel_rfl) (by kernel_rfl)) ?_
  intro W base args ds gs before hval0 hW hcnd hsz _
  have hval : ∀ (j : Nat) t v, Try.f4.params[j]? = some t → args[j]? = some v → Value.okWide Try.prog W .any base t v := hval0
  have hW' := hW
  obtain ⟨p, q, hA0, hV, rfl, hfz, hnd⟩ := hW
  have hA : DataW.TrodAll enc Try.prog W 0 (fun _ => true) true Try.f4.params.toList args.toList ds p := hA0
  have hAk := hA
  rw [Try.params4] at hA hval
  obtain ⟨rfl, rfl⟩ := trodVars_none hV
  clear hA0 hval0
  simp only [List.append_nil] at hW'
  obtain ⟨v0, v1, v2, d0, d1, d2, p0, p1, p2, rfl, rfl, rfl, h0, h1, h2⟩ := trodAll_three hA
  have hv0 := hval 0 38 v0 rfl rfl
  have hc0 : Cell.okWide Try.prog W .any base 38 v0 := by
    simpa only [Value.okWide, Try.underlying38] using hv0
  obtain ⟨n0, h0⟩ := h0
  have hcl0 : v0.cells.toList = [v0] := by
    obtain ⟨a, len, cap, rfl⟩ := okWide_slice Try.underlying38 hv0
    rfl
  rw [hcl0] at h0
  obtain ⟨l0, r0, k0, ha0⟩ := arg_slice (enc := enc43) (z := 3) (fun _ => rfl) cells43 ⟨(S_api_Trigger.mk (0 : Int) (0 : Int) (0 : Int))⟩ Try.underlying38 hc0 h0 read43
  have hm0 := ha0.len
  unfold maxLen at hm0
  have hv1 := hval 1 40 v1 rfl rfl
  simp only [Value.okWide, Try.underlying40] at hv1
  obtain ⟨cs1, rfl, hsz1, ts1, hts1, _, hall1⟩ := hv1
  rw [types40] at hts1
  cases hts1
  obtain ⟨c1_0, c1_1, c1_2, c1_3, rfl⟩ := arr4 (hsz1.trans cells40)
  obtain ⟨n1, h1⟩ := h1
  have g1 : DataW.trod enc Try.prog W 0 (fun _ => true) true n1 40 [c1_0, c1_1, c1_2, c1_3] = some (d1, p1) := h1
  obtain ⟨b1, hb1⟩ := read40 _ _ _ g1
  have hv2 := hval 2 41 v2 rfl rfl
  have hc2 : Cell.okWide Try.prog W .any base 41 v2 := by
    simpa only [Value.okWide, Try.underlying41] using hv2
  obtain ⟨n2, h2⟩ := h2
  have hcl2 : v2.cells.toList = [v2] := by
    obtain ⟨a, len, cap, rfl⟩ := okWide_slice Try.underlying41 hv2
    rfl
  rw [hcl2] at h2
  obtain ⟨l2, R2, S2, ha2⟩ := arg_nest (R := rep120) (Q := fun a => a.Segments.length ≤ maxLen) (z := 2) cells120 ⟨(S_api_Veto.mk [] [])⟩ Try.underlying41 hc2 h2 el120
  have hm2 := ha2.len
  unfold maxLen at hm2
  have hq0 := arg_weight Try.underlying38 h0 ha0 (B := reachBytes) (fun y hy => by
    have := List.all_eq_true.1 hsz y (by rw [Try.params4]; exact weights0 hy)
    simpa using this)
  rw [bytes43] at hq0
  unfold reachBytes at hq0
  have hrel : MRel W.heap.size (mapB (rowsB r0 R2)) (memB (rowsB r0 R2)) W := relB (fun x hx => absurd hx List.not_mem_nil) ha0.row (ha2.row 1)
  have m0 : ∀ x, r0 = some x → mapB (rowsB r0 R2) (Pos.ofNat 0) = some x.1 := fun x hx => mapB_at (x := (false, x.1, x.2)) (by rw [hx]; rfl)
  have f0 : ∀ x, r0 = some x → rd (memB (rowsB r0 R2)) (Pos.ofNat 0) = some x.2 := fun x hx => ro_rd (memB_ro (p := x.1) (by rw [hx]; rfl))
  have mN : AtM (mapB (rowsB r0 R2)) 1 (R2 1) := atM_app (pre := [argB r0])
  have fN : AtF (rd (memB (rowsB r0 R2))) 1 (R2 1) := atF_app (pre := [argB r0]) fun i y hy => (ha2.row 1 i y hy).1
  have hlaw := law_eq (l0.length + l2.length + 500) l0 b1 l2 (by omega) (by omega) rfl
  have hrun := law08_SearchVetoed_run (l0.length + l2.length + 500) l0 b1 l2 _ _ true (memB (rowsB r0 R2)) (ha0.slc _ 0 f0) (ha2.slc _ 1 fN) (fixB r0 R2) hlaw
  have has : concs (mapB (rowsB r0 R2)) [argS r0 0 l0.length k0, .agg [(.int .i64 b1.Live), (.int .i64 b1.Window), (.int .i64 b1.Step), (.int .i64 b1.Limit)], S2 1] = some [v0, .agg #[c1_0, c1_1, c1_2, c1_3], v2] := by
    refine concs_cons (ha0.val _ 0 m0) (concs_cons (conc_aggL (hb1 _)) (concs_cons (ha2.val _ 1 mN) (concs_nil _)))
  have hcalls : Calls Try.prog 4 #[v0, .agg #[c1_0, c1_1, c1_2, c1_3], v2] W fun e W' => e = .returned (.bool true) ∧ Below W.heap.size W W' := by
    refine (Run.calls (Q := law08_SearchVetoed_post true) mixed Try.func4 rfl rfl (frozen_rel hrel) (vs := #[v0, .agg #[c1_0, c1_1, c1_2, c1_3], v2]) has hrun).mono fun e W' ⟨m', M', s, x, he, hx, hs, hst⟩ => ?_
    have hs' : s = .bool true := hs
    subst hs'
    have hx' : x = .bool true := by simp [conc] at hx; exact hx.symm
    subst hx'
    exact ⟨he, hst.below⟩
  refine hcalls.mono fun e W' ⟨he, hb⟩ => ?_
  subst he
  exact ⟨_, rfl, _, _, _, [], _, [], hW', trodAll_cons_mk (shut_bool Try.underlying4 _) trodAll_mk0, trodAll_below kids full hb within hAk, rfl, hb.frame _, fun h => by cases h⟩

theorem hfn : Try.prog.funcNamed Rows.searchVetoedRow.func = some 4 := by kernel_rfl
theorem hinst : Try.f4.isInstance Try.prog Rows.searchVetoedRow.origin Rows.searchVetoedRow.targs := of_decide_eq_true (by kernel_rfl)
theorem hwrap : Try.f4.isWrapper Try.prog Rows.searchVetoedRow.wrapper Rows.searchVetoedRow.mainSum := by
  unfold Func.isWrapper
  first
    | (rw [if_pos (by decide +kernel)]; kernel_rfl)
    | (rw [if_neg (by decide +kernel)]; exact ⟨rfl, rfl⟩)
set_option maxRecDepth 100000 in
theorem facts : joinedFacts Try.prog 4 Try.f4 Rows.searchVetoedSpec Rows.searchVetoedRow = true := (and2 (and2 (and2 (and2 (and2 (and2 (and2 (and2 (and2 (and2 (and2 (and2 (and2 (and2 (and2 (and2 (and2 (and2 (and2 (and2 (and2 (and2 (and2 (and2 (and2 (and2 (and2 (and2 (and2 (and2 (and2 j0 j1) j2) j3) j4) j5) j6) j7) j8) j9) j10) j11) j12) j13) j14) j15) j16) j17) j18) j19) j20) j21) j22) j23) j24) j25) j26) j27) j28) j29) j30) j31)

theorem over : Rows.SearchVetoedSaid :=
  OpenClaim.holds_of_wide (p := Try.pinned) (s := Rows.searchVetoedSpec) (c := Rows.searchVetoedRow) 4 Try.f4 rfl rfl rfl rfl rfl rfl rfl ⟨rfl, rfl, rfl, rfl, rfl⟩ rfl rfl rfl rfl rfl hfn Try.func4 facts hinst hwrap
    (fun os started H enc _ => lifted os started H enc)
end Go.Proofs.Ytmdeiglnjimlnaa.searchVetoed
