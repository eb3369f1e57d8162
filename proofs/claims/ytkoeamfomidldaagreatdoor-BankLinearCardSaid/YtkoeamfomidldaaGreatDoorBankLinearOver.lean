/- The row holds: the call answers true whatever its arguments are, and they read behind it as before. -/
import Derived.Test.YtkoeamfomidldaaGreatDoorBankLinearMath0
import Derived.Test.YtkoeamfomidldaaGreatDoorBankLinearFacts
import Derived.Test.YtkoeamfomidldaaGreatDoorRows
import Derived.WalkKit
import Derived.ProofKit
import Derived.OpenShut
import Derived.LaidMore
import Derived.Stop.Joined
import Derived.Lib.SmallJoins
namespace Go.Proofs.YtkoeamfomidldaaGreatDoor.bankLinear
open Go.ChangeShapes Go.WideShapes Go.ChangeAt Go.RowKit Go.Joins Go.Ev Go.Ev.BankLinear

theorem own : ownKnob Tryz.prog.godebug = none := by kernel_rfl
theorem mixed : Tryz.prog.follows .mixedOrders = true := by kernel_rfl
theorem kids : Kids Tryz.prog (· < Tryz.prog.types.size) := kids_rows (by kernel_rfl) (by kernel_rfl)
theorem full : ∀ t e, t < Tryz.prog.types.size → Tryz.prog.underlying t = some (.slice e) → 0 < Tryz.prog.cellsOf e := slices_full_of Tryz.prog (by kernel_rfl)
theorem within : ∀ t ∈ Tryz.f10.params.toList, t < Tryz.prog.types.size := by
  have h : (Tryz.f10.params.toList.all fun t => decide (t < Tryz.prog.types.size)) = true := by kernel_rfl
  intro t ht
  exact of_decide_eq_true (List.all_eq_true.1 h t ht)

theorem door_met (os : Os) (args : Array Value) : laidMetH Tryz.prog Rows.bankLinearRow.laid ((World.doorLaid Tryz.prog 400 os).forCall (fun _ _ => 0) ⟨#[], args, []⟩).memory :=
  laidMetH_of_parts3 (fuel := 8) (laidMet_of_run' 8 (by kernel_rfl) (by kernel_rfl)) (by kernel_rfl) (by kernel_rfl)

set_option maxRecDepth 100000 in
theorem fix_ok {W : World} (h : laidMetH Tryz.prog Rows.bankLinearRow.laid W) : FixOK W Go.Proofs.YtkoeamfomidldaaGreatDoor.works.fixes := by
  rw [MakeChecks.laidMetH_plain _ _ _ (by kernel_rfl)] at h
  intro x hx
  simp only [Go.Proofs.YtkoeamfomidldaaGreatDoor.works.fixes, List.mem_cons, List.not_mem_nil, or_false] at hx
  rcases hx with rfl | rfl | rfl | rfl
  · exact laid_tab h (name := "math/bits.deBruijn32tab") (k := .u8) (zs := [0, 1, 28, 2, 29, 14, 24, 3, 30, 22, 20, 15, 25, 17, 4, 8, 31, 27, 13, 23, 21, 19, 16, 7, 26, 12, 18, 6, 11, 5, 10, 9]) (g := 7) (t := 407) (e := 5) (n := 32) (by unfold Rows.bankLinearRow; exact .head _) (by kernel_rfl) (by kernel_rfl) (by kernel_rfl) (by kernel_rfl) (by kernel_rfl) (by kernel_rfl) (by simp)
  · exact laid_tab h (name := "math/bits.deBruijn64tab") (k := .u8) (zs := [0, 1, 56, 2, 57, 49, 28, 3, 61, 58, 42, 50, 38, 29, 17, 4, 62, 47, 59, 36, 45, 43, 51, 22, 53, 39, 33, 30, 24, 18, 12, 5, 63, 55, 48, 27, 60, 41, 37, 16, 46, 35, 44, 21, 52, 32, 23, 11, 54, 26, 40, 15, 34, 20, 31, 10, 25, 14, 19, 9, 13, 8, 7, 6]) (g := 8) (t := 408) (e := 5) (n := 64) (by unfold Rows.bankLinearRow; exact .tail _ (.head _)) (by kernel_rfl) (by kernel_rfl) (by kernel_rfl) (by kernel_rfl) (by kernel_rfl) (by kernel_rfl) (by simp)
  · exact laid_tab h (name := "internal/strconv.uint64pow10") (k := .u64) (zs := [1, 10, 100, 1000, 10000, 100000, 1000000, 10000000, 100000000, 1000000000, 10000000000, 100000000000, 1000000000000, 10000000000000, 100000000000000, 1000000000000000, 10000000000000000, 100000000000000000, 1000000000000000000, 10000000000000000000]) (g := 6) (t := 404) (e := 260) (n := 20) (by unfold Rows.bankLinearRow; exact .tail _ (.tail _ (.head _))) (by kernel_rfl) (by kernel_rfl) (by kernel_rfl) (by kernel_rfl) (by kernel_rfl) (by kernel_rfl) (by simp)
  · exact laid_tab h (name := "ringdown/bank.quarter") (k := .i64) (zs := [0, 12, 25, 37, 49, 60, 71, 81, 90, 98, 106, 112, 117, 122, 125, 126, 127]) (g := 0) (t := 282) (e := 3) (n := 17) (by unfold Rows.bankLinearRow; exact .tail _ (.tail _ (.tail _ (.head _)))) (by kernel_rfl) (by kernel_rfl) (by kernel_rfl) (by kernel_rfl) (by kernel_rfl) (by kernel_rfl) (by simp)

theorem cells53 : Tryz.prog.cellsOf 53 = 2 := by kernel_rfl
theorem cells3 : Tryz.prog.cellsOf 3 = 1 := by kernel_rfl
theorem read3 {H : Type} {enc : TypeId × Value → H} {W : World} {held : Bool} (n : Nat) (cs : List Value) (x : DataW H × List MemPlace) (h : DataW.trod enc Tryz.prog W 0 (fun _ => true) held n 3 cs = some x) : ∃ a : Int, ∀ m, concs m (enc3 a) = some cs := by
  obtain ⟨a, rfl, _, _⟩ := DataW.trod_int Tryz.underlying3 h
  exact ⟨a, fun m => rfl⟩
theorem cells69 : Tryz.prog.cellsOf 69 = 2 := by kernel_rfl
theorem cells33 : Tryz.prog.cellsOf 33 = 1 := by kernel_rfl
theorem bytes3 : Tryz.prog.bytesOf 3 = 8 := by kernel_rfl
theorem types69 : Tryz.prog.cellTypes Tryz.prog.depth 69 = some [33, 33] := by kernel_rfl
theorem two {α : Type} : ∀ {l : List α}, l.length = 2 → ∃ a b, l = [a, b]
  | [a, b], _ => ⟨a, b, rfl⟩
theorem weights2 {P : Program} {H : Type} {t0 t1 t2 : TypeId} {ts : List TypeId} {f0 f1 f2 : DataW H} {gs : List (DataW H)} {y : Nat} (h : y ∈ DataW.weights P t2 f2) : y ∈ DataW.weightsEach P (t0 :: t1 :: t2 :: ts) (f0 :: f1 :: f2 :: gs) := by
  simp only [DataW.weightsEach, List.mem_append]
  exact .inr (.inr (.inl h))
/-- Where the run begins: the listed tables, the arguments' rows. -/
noncomputable def rowsB (r20 : ARow) (r21 : ARow) : List BRow := [some (true, ⟨0, 0, 17⟩, intCells .i64 [0, 12, 25, 37, 49, 60, 71, 81, 90, 98, 106, 112, 117, 122, 125, 126, 127]), none, none, none, none, none, some (true, ⟨6, 0, 20⟩, intCells .u64 [1, 10, 100, 1000, 10000, 100000, 1000000, 10000000, 100000000, 1000000000, 10000000000, 100000000000, 1000000000000, 10000000000000, 100000000000000, 1000000000000000, 10000000000000000, 100000000000000000, 1000000000000000000, 10000000000000000000]), some (true, ⟨7, 0, 32⟩, intCells .u8 [0, 1, 28, 2, 29, 14, 24, 3, 30, 22, 20, 15, 25, 17, 4, 8, 31, 27, 13, 23, 21, 19, 16, 7, 26, 12, 18, 6, 11, 5, 10, 9]), some (true, ⟨8, 0, 64⟩, intCells .u8 [0, 1, 56, 2, 57, 49, 28, 3, 61, 58, 42, 50, 38, 29, 17, 4, 62, 47, 59, 36, 45, 43, 51, 22, 53, 39, 33, 30, 24, 18, 12, 5, 63, 55, 48, 27, 60, 41, 37, 16, 46, 35, 44, 21, 52, 32, 23, 11, 54, 26, 40, 15, 34, 20, 31, 10, 25, 14, 19, 9, 13, 8, 7, 6]), argB r20, argB r21]
theorem relB {W : World} {r20 : ARow} {r21 : ARow} (hf : FixOK W Go.Proofs.YtkoeamfomidldaaGreatDoor.works.fixes) (h20 : ∀ x, r20 = some x → x.1.block < W.heap.size ∧ ∀ m, RowRel m x.1 none .lost x.2 W.heap[x.1.block]?) (h21 : ∀ x, r21 = some x → x.1.block < W.heap.size ∧ ∀ m, RowRel m x.1 none .lost x.2 W.heap[x.1.block]?) : MRel W.heap.size (mapB (rowsB r20 r21)) (memB (rowsB r20 r21)) W := memB_rel fun j x hj => by
  unfold rowsB at hj
  rcases j with _ | _ | _ | _ | _ | _ | _ | _ | _ | _ | _ | j
  · cases (Option.some.inj hj)
    have := fix_row hf (x := (0, intCells .i64 [0, 12, 25, 37, 49, 60, 71, 81, 90, 98, 106, 112, 117, 122, 125, 126, 127])) (.tail _ (.tail _ (.tail _ (.head _))))
    exact ⟨this.1, this.2, fun _ => ⟨rfl, rfl⟩⟩
  · simp at hj
  · simp at hj
  · simp at hj
  · simp at hj
  · simp at hj
  · cases (Option.some.inj hj)
    have := fix_row hf (x := (6, intCells .u64 [1, 10, 100, 1000, 10000, 100000, 1000000, 10000000, 100000000, 1000000000, 10000000000, 100000000000, 1000000000000, 10000000000000, 100000000000000, 1000000000000000, 10000000000000000, 100000000000000000, 1000000000000000000, 10000000000000000000])) (.tail _ (.tail _ (.head _)))
    exact ⟨this.1, this.2, fun _ => ⟨rfl, rfl⟩⟩
  · cases (Option.some.inj hj)
    have := fix_row hf (x := (7, intCells .u8 [0, 1, 28, 2, 29, 14, 24, 3, 30, 22, 20, 15, 25, 17, 4, 8, 31, 27, 13, 23, 21, 19, 16, 7, 26, 12, 18, 6, 11, 5, 10, 9])) (.head _)
    exact ⟨this.1, this.2, fun _ => ⟨rfl, rfl⟩⟩
  · cases (Option.some.inj hj)
    have := fix_row hf (x := (8, intCells .u8 [0, 1, 56, 2, 57, 49, 28, 3, 61, 58, 42, 50, 38, 29, 17, 4, 62, 47, 59, 36, 45, 43, 51, 22, 53, 39, 33, 30, 24, 18, 12, 5, 63, 55, 48, 27, 60, 41, 37, 16, 46, 35, 44, 21, 52, 32, 23, 11, 54, 26, 40, 15, 34, 20, 31, 10, 25, 14, 19, 9, 13, 8, 7, 6])) (.tail _ (.head _))
    exact ⟨this.1, this.2, fun _ => ⟨rfl, rfl⟩⟩
  · have hj' : argB r20 = some x := Option.some.inj hj
    obtain ⟨y, hy, rfl⟩ := Option.map_eq_some_iff.1 hj'
    exact ⟨(h20 y hy).1, (h20 y hy).2, fun h => by simp at h⟩
  · have hj' : argB r21 = some x := Option.some.inj hj
    obtain ⟨y, hy, rfl⟩ := Option.map_eq_some_iff.1 hj'
    exact ⟨(h21 y hy).1, (h21 y hy).2, fun h => by simp at h⟩
  · simp at hj
theorem fixB (r20 : ARow) (r21 : ARow) : FixIn (memB (rowsB r20 r21)) Go.Proofs.YtkoeamfomidldaaGreatDoor.works.fixes := fun x hx => by
  simp only [Go.Proofs.YtkoeamfomidldaaGreatDoor.works.fixes, List.mem_cons, List.not_mem_nil, or_false] at hx
  rcases hx with rfl | rfl | rfl | rfl
  · exact memB_fix (j := 7) (p := ⟨7, 0, 32⟩) rfl
  · exact memB_fix (j := 8) (p := ⟨8, 0, 64⟩) rfl
  · exact memB_fix (j := 6) (p := ⟨6, 0, 20⟩) rfl
  · exact memB_fix (j := 0) (p := ⟨0, 0, 17⟩) rfl

set_option maxRecDepth 100000 in
theorem lifted (os : Os) (started : os.Started) (H : Type) (enc : TypeId × Value → H) :
    ReturnsInHanded {} Tryz.checked os 10 .any (fun w args => (Rows.bankLinearSpec.pre enc Tryz.prog Tryz.f10 [] false w args ∧ laidMetH Tryz.prog Rows.bankLinearRow.laid w) ∧ sizedMet enc Tryz.prog Tryz.f10 (OpenSpec.ofChange Rows.bankLinearSpec) false w args)
      (Rows.bankLinearSpec.post enc Tryz.prog Tryz.f10 false true false false) := by
  refine returnsInHanded_of_change_and (C := Tryz.checked) (X := fun w _ => laidMetH Tryz.prog Rows.bankLinearRow.laid w) (fun _ _ _ hh h => h.of_heap hh) own started (by kernel_rfl) Tryz.func10
    (ChangeSpec.witness_shaped (enc := enc) (C := Tryz.checked) (os := os) (X := fun w _ => laidMetH Tryz.prog Rows.bankLinearRow.laid w) false (World.doorLaid Tryz.prog 400 os) #[.int .i64 0, .agg #[.int .i64 0, .int .i64 0], .agg #[.slice none 0 0, .slice none 0 0]] 8 rfl (World.shaped_of_RefB (by kernel_rfl) (by kernel_rfl)) (by kernel_rfl) (by kernel_rfl) (by kernel_rfl) (door_met os _)) ?_
  intro W base args ds gs before hval0 hW _ hsz hL _
  have hval : ∀ (j : Nat) t v, Tryz.f10.params[j]? = some t → args[j]? = some v → Value.okWide Tryz.prog W .any base t v := hval0
  have hW' := hW
  obtain ⟨p, q, hA0, hV, rfl, hfz, hnd⟩ := hW
  have hA : DataW.TrodAll enc Tryz.prog W 0 (fun _ => true) true Tryz.f10.params.toList args.toList ds p := hA0
  have hAk := hA
  rw [Tryz.params10] at hA hval
  obtain ⟨rfl, rfl⟩ := trodVars_none hV
  clear hA0 hval0
  simp only [List.append_nil] at hW'
  obtain ⟨v0, v1, v2, d0, d1, d2, p0, p1, p2, rfl, rfl, rfl, h0, h1, h2⟩ := trodAll_three hA
  have hv0 := hval 0 3 v0 rfl rfl
  obtain ⟨n0, h0⟩ := h0
  obtain ⟨b0, e0, wb0, _⟩ := DataW.trod_int Tryz.underlying3 h0
  have e0' : v0 = .int .i64 b0 := by
    have hcl : v0.cells.toList = [v0] := by
      obtain ⟨a, rfl⟩ := okWide_int Tryz.underlying3 hv0
      rfl
    rw [hcl] at e0
    simpa using e0
  subst e0'
  have hv1 := hval 1 53 v1 rfl rfl
  obtain ⟨c10, c11, y10, y11, n1, rfl, rfl, rfl, hy10, hy11⟩ := open_agg2 Tryz.underlying53 (by kernel_rfl) cells53 hv1 h1
  obtain ⟨b10, e10, _, _⟩ := DataW.trod_int Tryz.underlying3 hy10
  obtain ⟨b11, e11, _, _⟩ := DataW.trod_int Tryz.underlying3 hy11
  simp only [List.cons.injEq, and_true] at e10 e11
  subst e10 e11
  have hv2 := hval 2 69 v2 rfl rfl
  simp only [Value.okWide, Tryz.underlying69] at hv2
  obtain ⟨cs2, rfl, hsz2, ts2, hts2, _, hall2⟩ := hv2
  rw [types69] at hts2
  cases hts2
  obtain ⟨c20, c21, rfl⟩ := array2 (hsz2.trans cells69)
  have hc20 : Cell.okWide Tryz.prog W .any base 33 c20 := by
    obtain ⟨u, hu, hx⟩ := hall2 0 c20 rfl
    cases hu
    exact hx
  have hc21 : Cell.okWide Tryz.prog W .any base 33 c21 := by
    obtain ⟨u, hu, hx⟩ := hall2 1 c21 rfl
    cases hu
    exact hx
  obtain ⟨n2, h2⟩ := h2
  obtain ⟨xs2, mm2, _, hx2, _, hxl2, hf2⟩ := DataW.trod_array Tryz.underlying69 h2
  obtain ⟨y20, y21, rfl⟩ := two hxl2
  have g20 := hf2 0 (by omega)
  have g21 := hf2 1 (by omega)
  rw [cells33] at g20 g21
  have g20' : DataW.trod enc Tryz.prog W 0 (fun _ => true) true mm2 33 [c20] = some y20 := g20
  have g21' : DataW.trod enc Tryz.prog W 0 (fun _ => true) true mm2 33 [c21] = some y21 := g21
  obtain ⟨l20, r20, k20, ha20⟩ := arg_slice (enc := enc3) (z := 1) (fun _ => rfl) cells3 ⟨0⟩ Tryz.underlying33 hc20 g20' read3
  obtain ⟨l21, r21, k21, ha21⟩ := arg_slice (enc := enc3) (z := 1) (fun _ => rfl) cells3 ⟨0⟩ Tryz.underlying33 hc21 g21' read3
  simp only [Prod.mk.injEq] at hx2
  have hw2 : ∀ y ∈ DataW.weights Tryz.prog 69 d2, y ≤ reachBytes := fun y hy => by
    have := List.all_eq_true.1 hsz y (by rw [Tryz.params10]; exact weights2 hy)
    simpa using this
  have hq20 := arg_weight Tryz.underlying33 g20' ha20 (B := reachBytes) (fun y hy => hw2 y (by
    rw [hx2.1]
    unfold DataW.weights
    rw [Tryz.underlying69]
    simp only [List.map_cons, List.map_nil, DataW.weightsAll, List.mem_append]
    exact .inl hy))
  have hq21 := arg_weight Tryz.underlying33 g21' ha21 (B := reachBytes) (fun y hy => hw2 y (by
    rw [hx2.1]
    unfold DataW.weights
    rw [Tryz.underlying69]
    simp only [List.map_cons, List.map_nil, DataW.weightsAll, List.mem_append]
    exact .inr (.inl hy)))
  rw [bytes3] at hq20 hq21
  unfold reachBytes at hq20 hq21
  have hrel : MRel W.heap.size (mapB (rowsB r20 r21)) (memB (rowsB r20 r21)) W := relB (fix_ok hL) ha20.row ha21.row
  have m20 : ∀ x, r20 = some x → mapB (rowsB r20 r21) (Pos.ofNat 9) = some x.1 := fun x hx => mapB_at (x := (false, x.1, x.2)) (by rw [hx]; rfl)
  have f20 : ∀ x, r20 = some x → rd (memB (rowsB r20 r21)) (Pos.ofNat 9) = some x.2 := fun x hx => ro_rd (memB_ro (p := x.1) (by rw [hx]; rfl))
  have m21 : ∀ x, r21 = some x → mapB (rowsB r20 r21) (Pos.ofNat 10) = some x.1 := fun x hx => mapB_at (x := (false, x.1, x.2)) (by rw [hx]; rfl)
  have f21 : ∀ x, r21 = some x → rd (memB (rowsB r20 r21)) (Pos.ofNat 10) = some x.2 := fun x hx => ro_rd (memB_ro (p := x.1) (by rw [hx]; rfl))
  have hlaw := law_eq (l20.length + l21.length + 1300) b0 ⟨b10, b11⟩ ⟨l20, l21⟩ (by show l20.length ≤ _; omega) (by show l21.length ≤ _; omega) (by show l20.length + l21.length + 1200 < _; omega) rfl
  have hrun := law07_BankLinear_run (l20.length + l21.length + 1300) b0 ⟨b10, b11⟩ ⟨l20, l21⟩ _ _ true (memB (rowsB r20 r21)) (ha20.slc _ 9 f20) (ha21.slc _ 10 f21) (fixB r20 r21) hlaw
  have has : concs (mapB (rowsB r20 r21)) [.int .i64 b0, .agg [.int .i64 b10, .int .i64 b11], .agg [argS r20 9 l20.length k20, argS r21 10 l21.length k21]] = some [.int .i64 b0, .agg #[.int .i64 b10, .int .i64 b11], .agg #[c20, c21]] := by
    refine concs_cons rfl (concs_cons rfl (concs_cons (conc_aggL (concs_cons (ha20.val _ 9 m20) (concs_cons (ha21.val _ 10 m21) (concs_nil _)))) (concs_nil _)))
  have hcalls : Calls Tryz.prog 10 #[.int .i64 b0, .agg #[.int .i64 b10, .int .i64 b11], .agg #[c20, c21]] W fun e W' => e = .returned (.bool true) ∧ Below W.heap.size W W' := by
    refine (Run.calls (Q := law07_BankLinear_post true) mixed Tryz.func10 rfl rfl (frozen_rel hrel) (vs := #[.int .i64 b0, .agg #[.int .i64 b10, .int .i64 b11], .agg #[c20, c21]]) has hrun).mono fun e W' ⟨m', M', s, x, he, hx, hs, hst⟩ => ?_
    have hs' : s = .bool true := hs
    subst hs'
    have hx' : x = .bool true := by simp [conc] at hx; exact hx.symm
    subst hx'
    exact ⟨he, hst.below⟩
  refine hcalls.mono fun e W' ⟨he, hb⟩ => ?_
  subst he
  exact ⟨_, rfl, _, _, _, [], _, [], hW', trodAll_cons_mk (shut_bool Tryz.underlying4 _) trodAll_mk0, trodAll_below kids full hb within hAk, rfl, hb.frame _, fun h => by cases h⟩

theorem hfn : Tryz.prog.funcNamed Rows.bankLinearRow.func = some 10 := by kernel_rfl
theorem hinst : Tryz.f10.isInstance Tryz.prog Rows.bankLinearRow.origin Rows.bankLinearRow.targs := of_decide_eq_true (by kernel_rfl)
theorem hwrap : Tryz.f10.isWrapper Tryz.prog Rows.bankLinearRow.wrapper Rows.bankLinearRow.mainSum := by
  unfold Func.isWrapper
  first
    | (rw [if_pos (by decide +kernel)]; kernel_rfl)
    | (rw [if_neg (by decide +kernel)]; exact ⟨rfl, rfl⟩)
set_option maxRecDepth 100000 in
theorem facts : joinedFacts Tryz.prog 10 Tryz.f10 Rows.bankLinearSpec Rows.bankLinearRow = true := (and2 (and2 (and2 (and2 (and2 (and2 (and2 (and2 (and2 (and2 (and2 (and2 (and2 (and2 (and2 (and2 (and2 (and2 (and2 (and2 (and2 (and2 (and2 (and2 (and2 (and2 (and2 (and2 (and2 (and2 (and2 j0 j1) j2) j3) j4) j5) j6) j7) j8) j9) j10) j11) j12) j13) j14) j15) j16) j17) j18) j19) j20) j21) j22) j23) j24) j25) j26) j27) j28) j29) j30) j31)

theorem over : Rows.BankLinearSaid :=
  OpenClaim.holds_of_wide (p := Tryz.pinned) (s := Rows.bankLinearSpec) (c := Rows.bankLinearRow) 10 Tryz.f10 rfl rfl rfl rfl rfl rfl rfl ⟨rfl, rfl, rfl, rfl, rfl⟩ rfl rfl rfl rfl rfl hfn Tryz.func10 facts hinst hwrap
    (fun os started H enc _ => lifted os started H enc)
end Go.Proofs.YtkoeamfomidldaaGreatDoor.bankLinear
