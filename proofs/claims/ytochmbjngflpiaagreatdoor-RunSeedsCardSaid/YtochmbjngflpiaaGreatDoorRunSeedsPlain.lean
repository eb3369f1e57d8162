/- Plain functions that say what functions of the program come to, and proofs of it, written by a program of the verifier's own. -/
import Derived.Test.YtochmbjngflpiaaGreatDoorEvL21
import Derived.Test.YtochmbjngflpiaaGreatDoorWorks
import Derived.KernelRfl
namespace Go.Ev.RunSeeds
open Go Go.Ev Go.Proofs
set_option maxRecDepth 100000
set_option linter.unusedVariables false

noncomputable def fixes : List (Nat × List SV) := Go.Proofs.YtochmbjngflpiaaGreatDoor.works.fixes
noncomputable def tb0 : Ent := fixE (5, intCells .u8 [0, 1, 28, 2, 29, 14, 24, 3, 30, 22, 20, 15, 25, 17, 4, 8, 31, 27, 13, 23, 21, 19, 16, 7, 26, 12, 18, 6, 11, 5, 10, 9])
noncomputable def tb1 : Ent := fixE (6, intCells .u8 [0, 1, 56, 2, 57, 49, 28, 3, 61, 58, 42, 50, 38, 29, 17, 4, 62, 47, 59, 36, 45, 43, 51, 22, 53, 39, 33, 30, 24, 18, 12, 5, 63, 55, 48, 27, 60, 41, 37, 16, 46, 35, 44, 21, 52, 32, 23, 11, 54, 26, 40, 15, 34, 20, 31, 10, 25, 14, 19, 9, 13, 8, 7, 6])
noncomputable def tb2 : Ent := fixE (3, intCells .u64 [1, 10, 100, 1000, 10000, 100000, 1000000, 10000000, 100000000, 1000000000, 10000000000, 100000000000, 1000000000000, 10000000000000, 100000000000000, 1000000000000000, 10000000000000000, 100000000000000000, 1000000000000000000, 10000000000000000000])
noncomputable def tb3 : Ent := fixE (0, intCells .i64 [0, 12, 25, 37, 49, 60, 71, 81, 90, 98, 106, 112, 117, 122, 125, 126, 127])
def works (_ : Nat) : Option Bool := some true
theorem fixH {Fr : Rd} {H : List Ent} {M : Mem} (hH : Has Fr M H) (h0 : tb0 ∈ H) (h1 : tb1 ∈ H) (h2 : tb2 ∈ H) (h3 : tb3 ∈ H) : FixIn M fixes := by
  refine hH.fixIn fun x hx => ?_
  simp only [fixes, Go.Proofs.YtochmbjngflpiaaGreatDoor.works.fixes, List.mem_cons, List.not_mem_nil, or_false] at hx
  rcases hx with rfl | rfl | rfl | rfl
  · exact h0
  · exact h1
  · exact h2
  · exact h3

theorem works_ok (F : Nat) (r : Bool) {Fr : Rd} {H : List Ent} (M : Mem) (hH : Has Fr M H) (h0 : tb0 ∈ H) (h1 : tb1 ∈ H) (h2 : tb2 ∈ H) (h3 : tb3 ∈ H) (h : works F = some r) : CallsM Tryz.prog 9 [] M fun s M' => s = .bool r ∧ M' = M := by
  cases h
  refine CallsM.closedFix (n := 600) (l := Go.Proofs.YtochmbjngflpiaaGreatDoor.works.fixes) Go.Proofs.YtochmbjngflpiaaGreatDoor.works.below Go.Proofs.YtochmbjngflpiaaGreatDoor.works.plainF Go.Proofs.YtochmbjngflpiaaGreatDoor.works.works_true (hH.fixIn fun x hx => ?_)
  simp only [Go.Proofs.YtochmbjngflpiaaGreatDoor.works.fixes, List.mem_cons, List.not_mem_nil, or_false] at hx
  rcases hx with rfl | rfl | rfl | rfl
  · exact h0
  · exact h1
  · exact h2
  · exact h3


structure S_ringdownlaw11_Seeds where
  Seed : Int
  A : Int
  B : Int
  C : Int

theorem off23_0 : fieldOff Tryz.prog 23 0 = some 0 := by kernel_rfl
theorem agg3 : aggSize Tryz.prog 3 = some none := by kernel_rfl
theorem off23_1 : fieldOff Tryz.prog 23 1 = some 1 := by kernel_rfl
theorem off23_2 : fieldOff Tryz.prog 23 2 = some 2 := by kernel_rfl
def enc3 (a : Int) : List SV := [(.int .i64 a)]
theorem enc3_len (a : Int) : (enc3 a).length = 1 := rfl
theorem enc3_ones (a : Int) : ones (enc3 a) = true := rfl
abbrev run_isFrom_post (r : Bool) : SV → Mem → Prop := fun s _ => s = (.bool r)

def run_isFrom_1 (F : Nat) (v14 : Bool) : Option (Bool) :=
  some v14

theorem run_isFrom_1_ok (F : Nat) : ∀ (v14 : Bool) (Fr : Rd) (M : Mem) (r : Bool) (hH : Has Fr M []), run_isFrom_1 F v14 = some r → Run Tryz.prog ⟨⟨27, [], none⟩, []⟩ 15 (run_isFrom_post r) [(14, (.bool v14))] [itemC Tryz.prog 27 [1, 0] 8, codeC Tryz.prog 27 [1, 1]] M := by
  intro v14 Fr M r hH h
  rw [run_isFrom_1] at h
  refine Run.opG wantS_none (ex_assign rfl) rfl ?_
  refine Run.opsEnd ?_
  cases h
  exact Run.ret Tryz.func27 rfl (res_tmp rfl res_nil) rfl

def run_isFrom (F : Nat) (a0 : Int) (a1 : Int) (a2 : Int) : Option (Bool) :=
  bif (decide (a0 ≤ a1)) then
    run_isFrom_1 F (decide (a1 ≤ a2))
  else
    run_isFrom_1 F false

theorem run_isFrom_ok (F : Nat) (a0 : Int) (a1 : Int) (a2 : Int) (r : Bool) (M : Mem) (h : run_isFrom F a0 a1 a2 = some r) : CallsM Tryz.prog 27 [(.int .i64 a0), (.int .i64 a1), (.int .i64 a2)] M (fun s M' => s = (.bool r) ∧ M' = M) := by
  refine CallsM.plain Tryz.func27 rfl rfl rfl (show Run _ _ _ (run_isFrom_post r) _ _ _ from ?_)
  rw [run_isFrom] at h
  have hH := Has.nil (frozen M)
  refine Run.seq (Run.region ?_)
  refine Run.opG wantS_none (ex_assign rfl) rfl ?_
  refine Run.opsEnd (Run.seq (Run.region ?_))
  refine Run.opG wantS_none (ex_move rfl) rfl ?_
  refine Run.opG wantS_none (ex_move rfl) rfl ?_
  refine Run.opG wantS_none (ex_leq rfl rfl) rfl ?_
  refine Run.opG wantS_none (ex_move rfl) rfl ?_
  rcases btf ((decide (a0 ≤ a1))) with hc21 | hc21
  · have h := bif_t hc21 h
    refine Run.opG (wantS_yes' rfl rfl hc21) (ex_move rfl) rfl ?_
    refine Run.opG (wantS_yes' rfl rfl hc21) (ex_move rfl) rfl ?_
    refine Run.opG (wantS_yes' rfl rfl hc21) (ex_leq rfl rfl) rfl ?_
    refine Run.opG wantS_none (ex_pickT' rfl hc21 rfl rfl) rfl ?_
    exact Run.pick [14] (run_isFrom_1_ok F (decide (a1 ≤ a2)) _ _ _ hH h)
  · have h := bif_f hc21 h
    refine Run.no (wantS_not' rfl rfl hc21) rfl ?_
    refine Run.no (wantS_not' rfl rfl hc21) rfl ?_
    refine Run.no (wantS_not' rfl rfl hc21) rfl ?_
    refine Run.opG wantS_none (ex_pickF' rfl hc21 rfl rfl) rfl ?_
    exact Run.pick [14] (run_isFrom_1_ok F false _ _ _ hH h)

theorem mkk27 : makeK Tryz.prog 27 = none := by kernel_rfl
theorem cal27 : callable Tryz.prog 27 = true := by kernel_rfl
abbrev run_isSeed_post (r : Bool) : SV → Mem → Prop := fun s _ => s = (.bool r)

def run_isSeed (F : Nat) (a0 : Int) : Option (Bool) :=
  bnd (run_isFrom F (0 : Int) a0 (1073741824 : Int)) fun r22 =>
  some r22

theorem run_isSeed_ok (F : Nat) (a0 : Int) (r : Bool) (M : Mem) (h : run_isSeed F a0 = some r) : CallsM Tryz.prog 26 [(.int .i64 a0)] M (fun s M' => s = (.bool r) ∧ M' = M) := by
  refine CallsM.plain Tryz.func26 rfl rfl rfl (show Run _ _ _ (run_isSeed_post r) _ _ _ from ?_)
  rw [run_isSeed] at h
  have hH := Has.nil (frozen M)
  refine Run.seq (Run.region ?_)
  refine Run.opG wantS_none (ex_assign rfl) rfl ?_
  refine Run.opsEnd (Run.seq (Run.region ?_))
  refine Run.opG wantS_none (ex_move rfl) rfl ?_
  obtain ⟨r22, hr22, h⟩ := bnd_some h
  refine Run.callP wantS_none (ex_call rfl mkk27 cal27) rfl (run_isFrom_ok F (0 : Int) a0 (1073741824 : Int) _ _ hr22) ?_
  refine Run.opG wantS_none (ex_assign rfl) rfl ?_
  refine Run.opsEnd ?_
  cases h
  exact Run.ret Tryz.func26 rfl (res_tmp rfl res_nil) rfl

theorem mkk26 : makeK Tryz.prog 26 = none := by kernel_rfl
theorem cal26 : callable Tryz.prog 26 = true := by kernel_rfl
theorem zer24 : zerosOf Tryz.prog 24 = some [.nils] := by kernel_rfl
theorem mkk52 : makeK Tryz.prog 52 = none := by kernel_rfl
theorem cal52 : callable Tryz.prog 52 = true := by kernel_rfl
theorem cal85 : callable Tryz.prog 85 = true := by kernel_rfl
theorem agg24 : aggSize Tryz.prog 24 = some none := by kernel_rfl
theorem elt24 : sliceElt Tryz.prog 24 = some (⟨1, 8, [(.int .i64 0)], 3⟩ : Elt) := by kernel_rfl
theorem appt24_24 : appT Tryz.prog 24 24 = some (⟨1, 8, [(.int .i64 0)], 3⟩ : Elt) := by kernel_rfl
theorem sz24 : szOf Tryz.prog 24 = some 1 := by kernel_rfl
theorem plan28_1_1_0_1_0_1_0 : planOf Tryz.prog (opsC (atC Tryz.prog 28 [1, 1, 0, 1, 0, 1, 0])) = some [.fl 0, .fl 1, .fl 2, .fl 3, .fl 4, .fl 5, .fl 6, .fl 7, .an 8 [0], .an 9 [], .an 10 [], .sync] := by kernel_rfl
abbrev run_noise_post (r : (List Int)) : SV → Mem → Prop := fun s Me => ∃ q1, s = q1 ∧ Has (fun _ => none) Me [.vec 3 1 r.length q1 (r.flatMap enc3)]

def run_noise_1 (F : Nat) : Nat → Int → Int → Int → Int → Int → Int → (List Int) → Option ((List Int))
  | 0, _, _, _, _, _, _, _ => none
  | N + 1, v4, v7, v8, c22_0, c28_0, c31_0, l35 =>
    bif (decide (v8 < v7)) then
      bnd (nz (w64 ((w64 ((2 : Int) * c22_0)) + (1 : Int)))) fun z39 =>
      bnd (apd 8 l35 ([(w64 ((Int.tmod (Int.tmod (w64 (v4 * (69621 : Int))) (2147483647 : Int)) (w64 ((w64 ((2 : Int) * c22_0)) + (1 : Int)))) - c22_0))] : List Int)) fun l42 =>
      (run_noise_1 F N) (Int.tmod (w64 (v4 * (69621 : Int))) (2147483647 : Int)) v7 (w64 (v8 + (1 : Int))) c22_0 c28_0 c31_0 l42
    else
      some l35

theorem run_noise_1_ok (F : Nat) : ∀ (N : Nat), ∀ (v4 : Int) (v7 : Int) (v8 : Int) (c22_0 : Int) (c28_0 : Int) (c31_0 : Int) (l35 : (List Int)) (b33 : Pos) (b22 : Pos) (b25 : Pos) (s35 : SV) (b28 : Pos) (b31 : Pos) (b34 : Pos) (Fr : Rd) (M : Mem) (r : (List Int)) (hH : Has Fr M [.obj b33 (.loop ⟨.ready, none, 28, 24, treeOf [(5, (.ptr b22 0)), (6, .nils), (7, (.ptr b25 0)), (11, (.fn (.func 85) [] [(.ptr b28 0), (.ptr b31 0)]))], [12], (atC Tryz.prog 28 [1, 1, 0, 1, 0, 0]), (atC Tryz.prog 28 [1, 1, 0, 1, 0, 1]), b34⟩), .obj b22 (.row 3 .whole [(.int .i64 c22_0)]), .obj b25 (.row 24 .whole [s35]), .vec 3 1 l35.length s35 (l35.flatMap enc3), .obj b28 (.row 3 .whole [(.int .i64 c28_0)]), .obj b31 (.row 3 .whole [(.int .i64 c31_0)]), .obj b34 .defd]), run_noise_1 F N v4 v7 v8 c22_0 c28_0 c31_0 l35 = some r → Run Tryz.prog ⟨⟨85, [], none⟩, [.mk ⟨28, [b34], none⟩ 24 (treeOf [(7, (.ptr b25 0))]) [.inRange b33, .inBlock 0, codeC Tryz.prog 28 [1, 1, 1]]]⟩ 18 (run_noise_post r) [(0, (.yield b33)), (4, (.int .i64 v4)), (7, (.int .i64 v7)), (8, (.int .i64 v8))] [codeC Tryz.prog 85 [1, 1, 0, 0], loopC Tryz.prog 85 [1, 1, 0, 0], .inBlock 0] M := by
  intro N
  induction N with
  | zero =>
    intro v4 v7 v8 c22_0 c28_0 c31_0 l35 b33 b22 b25 s35 b28 b31 b34 Fr M r hH h
    simp [run_noise_1] at h
  | succ N ih =>
    intro v4 v7 v8 c22_0 c28_0 c31_0 l35 b33 b22 b25 s35 b28 b31 b34 Fr M r hH h
    rw [run_noise_1] at h
    refine Run.seq (Run.region ?_)
    refine Run.opG wantS_none (ex_lss rfl rfl) rfl ?_
    refine Run.opsEnd (Run.seq ?_)
    rcases btf ((decide (v8 < v7))) with hc37 | hc37
    · have h := bif_t hc37 h
      refine Run.condT' rfl hc37 ?_
      refine Run.skip (Run.seq (Run.block (Run.seq (Run.region ?_))))
      refine Run.opG wantS_none (ex_move rfl) rfl ?_
      refine Run.opG wantS_none (ex_mul rfl rfl) rfl ?_
      refine Run.opG wantS_none (ex_rem rfl rfl (by decide)) rfl ?_
      refine Run.opG wantS_none (ex_assign rfl) rfl ?_
      refine Run.opsEnd (Run.seq (Run.region ?_))
      refine Run.opG wantS_none (ex_move rfl) rfl ?_
      refine Run.opG wantS_none (ex_move rfl) rfl ?_
      refine Run.round (e' := [(12, (.int .i64 (Int.tmod (w64 (v4 * (69621 : Int))) (2147483647 : Int)))), (5, (.ptr b22 0)), (6, .nils), (7, (.ptr b25 0)), (11, (.fn (.func 85) [] [(.ptr b28 0), (.ptr b31 0)]))]) wantS_none (ex_yield hH (i := 0) rfl rfl rfl rfl) (hH.loopOf (i := 0) rfl) rfl ?_
      refine Run.region ?_
      refine Run.opG wantS_none (ex_assign rfl) rfl ?_
      refine Run.opsEnd ?_
      refine Run.beginX hH (i := 0) rfl rfl ?_
      intro M38 (hH38 : Has Fr M38 [.obj b33 (.loop ⟨.busy, none, 28, 24, treeOf [(5, (.ptr b22 0)), (6, .nils), (7, (.ptr b25 0)), (11, (.fn (.func 85) [] [(.ptr b28 0), (.ptr b31 0)]))], [12], (atC Tryz.prog 28 [1, 1, 0, 1, 0, 0]), (atC Tryz.prog 28 [1, 1, 0, 1, 0, 1]), b34⟩), .obj b22 (.row 3 .whole [(.int .i64 c22_0)]), .obj b25 (.row 24 .whole [s35]), .vec 3 1 l35.length s35 (l35.flatMap enc3), .obj b28 (.row 3 .whole [(.int .i64 c28_0)]), .obj b31 (.row 3 .whole [(.int .i64 c31_0)]), .obj b34 .defd])
      refine Run.block ?_
      refine Run.drawG plan28_1_1_0_1_0_1_0 ?_
      refine DrawG.fl rfl (ev_ex wantS_none (ex_load1 rfl (hH38.cells (i := 2) rfl 0 rfl) rdLe_rfl agg24)) rfl ?_
      refine DrawG.fl rfl (ev_ex wantS_none (ex_move rfl)) rfl ?_
      refine DrawG.fl rfl (ev_ex wantS_none (ex_load1 rfl (hH38.cells (i := 1) rfl 0 rfl) rdLe_rfl agg3)) rfl ?_
      refine DrawG.fl rfl (ev_ex wantS_none (ex_mul rfl rfl)) rfl ?_
      refine DrawG.fl rfl (ev_ex wantS_none (ex_add rfl rfl)) rfl ?_
      obtain ⟨z39, hz39, h⟩ := bnd_some h
      refine DrawG.fl rfl (ev_ex wantS_none (ex_rem' rfl rfl hz39)) rfl ?_
      refine DrawG.fl rfl (ev_ex wantS_none (ex_load1 rfl (hH38.cells (i := 1) rfl 0 rfl) rdLe_rfl agg3)) rfl ?_
      refine DrawG.fl rfl (ev_ex wantS_none (ex_sub rfl rfl)) rfl ?_
      refine DrawG.opX rfl wantS_none rfl (ExG.built (enc := enc3) (l := ([(w64 ((Int.tmod (Int.tmod (w64 (v4 * (69621 : Int))) (2147483647 : Int)) (w64 ((w64 ((2 : Int) * c22_0)) + (1 : Int)))) - c22_0))] : List Int)) (z := 1) rfl elt24 rfl rfl rfl enc3_len hH38) ?_
      rintro s40 M41 (hH41 : Has Fr M41 [.vec 3 1 ([(w64 ((Int.tmod (Int.tmod (w64 (v4 * (69621 : Int))) (2147483647 : Int)) (w64 ((w64 ((2 : Int) * c22_0)) + (1 : Int)))) - c22_0))] : List Int).length s40 (([(w64 ((Int.tmod (Int.tmod (w64 (v4 * (69621 : Int))) (2147483647 : Int)) (w64 ((w64 ((2 : Int) * c22_0)) + (1 : Int)))) - c22_0))] : List Int).flatMap enc3), .obj b33 (.loop ⟨.busy, none, 28, 24, treeOf [(5, (.ptr b22 0)), (6, .nils), (7, (.ptr b25 0)), (11, (.fn (.func 85) [] [(.ptr b28 0), (.ptr b31 0)]))], [12], (atC Tryz.prog 28 [1, 1, 0, 1, 0, 0]), (atC Tryz.prog 28 [1, 1, 0, 1, 0, 1]), b34⟩), .obj b22 (.row 3 .whole [(.int .i64 c22_0)]), .obj b25 (.row 24 .whole [s35]), .vec 3 1 l35.length s35 (l35.flatMap enc3), .obj b28 (.row 3 .whole [(.int .i64 c28_0)]), .obj b31 (.row 3 .whole [(.int .i64 c31_0)]), .obj b34 .defd])
      refine ⟨(st_cons rfl (ev_ex wantS_none (ex_load1 rfl (hH41.cells (i := 3) rfl 0 rfl) rdLe_rfl agg24)) rfl rfl (blk_self hH41 (i := 4) rfl) st_nil), ?_⟩
      obtain ⟨l42, hl42, h⟩ := bnd_some h
      refine DrawG.opX rfl wantS_none rfl (ExG.append rfl rfl hH41 (i := 4) rfl enc3_len rfl enc3_ones appt24_24 rfl (len_slc (hH41.slc (i := 0) rfl enc3_len)) (first_slc (hH41.slc (i := 0) rfl enc3_len) (rdLe_rdRow _) enc3_len) hl42) ?_
      rintro s42 M44 (hH44 : Has Fr M44 [.vec 3 1 ([(w64 ((Int.tmod (Int.tmod (w64 (v4 * (69621 : Int))) (2147483647 : Int)) (w64 ((w64 ((2 : Int) * c22_0)) + (1 : Int)))) - c22_0))] : List Int).length s40 (([(w64 ((Int.tmod (Int.tmod (w64 (v4 * (69621 : Int))) (2147483647 : Int)) (w64 ((w64 ((2 : Int) * c22_0)) + (1 : Int)))) - c22_0))] : List Int).flatMap enc3), .obj b33 (.loop ⟨.busy, none, 28, 24, treeOf [(5, (.ptr b22 0)), (6, .nils), (7, (.ptr b25 0)), (11, (.fn (.func 85) [] [(.ptr b28 0), (.ptr b31 0)]))], [12], (atC Tryz.prog 28 [1, 1, 0, 1, 0, 0]), (atC Tryz.prog 28 [1, 1, 0, 1, 0, 1]), b34⟩), .obj b22 (.row 3 .whole [(.int .i64 c22_0)]), .obj b25 (.row 24 .whole [s35]), .vec 3 1 l42.length s42 (l42.flatMap enc3), .obj b28 (.row 3 .whole [(.int .i64 c28_0)]), .obj b31 (.row 3 .whole [(.int .i64 c31_0)]), .obj b34 .defd])
      refine ⟨st_nil, ?_⟩
      refine DrawG.opX rfl wantS_none rfl (ExG.storeC (c' := [s42]) rfl rfl (cells_one (vec_one hH44 (i := 4) rfl)) hH44 (i := 3) rfl sz24 rfl rfl rfl (ones_cons (vec_one hH44 (i := 4) rfl) ones_nil) rfl) ?_
      rintro _ M45 ⟨rfl, (hH45 : Has Fr M45 [.vec 3 1 ([(w64 ((Int.tmod (Int.tmod (w64 (v4 * (69621 : Int))) (2147483647 : Int)) (w64 ((w64 ((2 : Int) * c22_0)) + (1 : Int)))) - c22_0))] : List Int).length s40 (([(w64 ((Int.tmod (Int.tmod (w64 (v4 * (69621 : Int))) (2147483647 : Int)) (w64 ((w64 ((2 : Int) * c22_0)) + (1 : Int)))) - c22_0))] : List Int).flatMap enc3), .obj b33 (.loop ⟨.busy, none, 28, 24, treeOf [(5, (.ptr b22 0)), (6, .nils), (7, (.ptr b25 0)), (11, (.fn (.func 85) [] [(.ptr b28 0), (.ptr b31 0)]))], [12], (atC Tryz.prog 28 [1, 1, 0, 1, 0, 0]), (atC Tryz.prog 28 [1, 1, 0, 1, 0, 1]), b34⟩), .obj b22 (.row 3 .whole [(.int .i64 c22_0)]), .obj b25 (.row 24 .whole [s42]), .vec 3 1 l42.length s42 (l42.flatMap enc3), .obj b28 (.row 3 .whole [(.int .i64 c28_0)]), .obj b31 (.row 3 .whole [(.int .i64 c31_0)]), .obj b34 .defd])⟩
      refine ⟨st_nil, ?_⟩
      refine DrawG.sync ?_
      refine DrawG.nil ?_
      refine Run.inBlock ?_
      refine Run.roundEndX hH45 (i := 1) rfl rfl ?_
      intro M46 (hH46 : Has Fr M46 [.vec 3 1 ([(w64 ((Int.tmod (Int.tmod (w64 (v4 * (69621 : Int))) (2147483647 : Int)) (w64 ((w64 ((2 : Int) * c22_0)) + (1 : Int)))) - c22_0))] : List Int).length s40 (([(w64 ((Int.tmod (Int.tmod (w64 (v4 * (69621 : Int))) (2147483647 : Int)) (w64 ((w64 ((2 : Int) * c22_0)) + (1 : Int)))) - c22_0))] : List Int).flatMap enc3), .obj b33 (.loop ⟨.ready, none, 28, 24, treeOf [(5, (.ptr b22 0)), (6, .nils), (7, (.ptr b25 0)), (11, (.fn (.func 85) [] [(.ptr b28 0), (.ptr b31 0)]))], [12], (atC Tryz.prog 28 [1, 1, 0, 1, 0, 0]), (atC Tryz.prog 28 [1, 1, 0, 1, 0, 1]), b34⟩), .obj b22 (.row 3 .whole [(.int .i64 c22_0)]), .obj b25 (.row 24 .whole [s42]), .vec 3 1 l42.length s42 (l42.flatMap enc3), .obj b28 (.row 3 .whole [(.int .i64 c28_0)]), .obj b31 (.row 3 .whole [(.int .i64 c31_0)]), .obj b34 .defd])
      refine Run.opG wantS_none (ex_not rfl) rfl ?_
      refine Run.opsEnd ?_
      refine Run.condF' rfl (bnot_f rfl) ?_
      refine Run.skip (Run.inBlock (Run.region ?_))
      refine Run.opG wantS_none (ex_add rfl rfl) rfl ?_
      refine Run.opG wantS_none (ex_move rfl) rfl ?_
      refine Run.opsEnd (Run.inLoop ?_)
      exact Run.low (.cons (fle_pick [7] rfl) .nil) (Run.pick [0, 4, 7, 8] (ih (Int.tmod (w64 (v4 * (69621 : Int))) (2147483647 : Int)) v7 (w64 (v8 + (1 : Int))) c22_0 c28_0 c31_0 l42 b33 b22 b25 s42 b28 b31 b34 _ _ _ (hH46.pick [1, 2, 3, 4, 5, 6, 7] rfl rfl) h))
    · have h := bif_f hc37 h
      refine Run.condF' rfl hc37 ?_
      refine Run.exit rfl ?_
      refine Run.fallRange Tryz.func85 rfl res_nil ?_
      refine Run.endX hH (i := 0) rfl (fun hc => by cases hc) ?_
      intro M47 (hH47 : Has Fr M47 [.obj b33 (.loop ⟨.exhausted, none, 28, 24, treeOf [(5, (.ptr b22 0)), (6, .nils), (7, (.ptr b25 0)), (11, (.fn (.func 85) [] [(.ptr b28 0), (.ptr b31 0)]))], [12], (atC Tryz.prog 28 [1, 1, 0, 1, 0, 0]), (atC Tryz.prog 28 [1, 1, 0, 1, 0, 1]), b34⟩), .obj b22 (.row 3 .whole [(.int .i64 c22_0)]), .obj b25 (.row 24 .whole [s35]), .vec 3 1 l35.length s35 (l35.flatMap enc3), .obj b28 (.row 3 .whole [(.int .i64 c28_0)]), .obj b31 (.row 3 .whole [(.int .i64 c31_0)]), .obj b34 .defd])
      refine Run.inBlock (Run.seq (Run.region ?_))
      refine Run.opG wantS_none (ex_load1 rfl (hH47.cells (i := 2) rfl 0 rfl) rdLe_rfl agg24) rfl ?_
      refine Run.opG wantS_none (ex_assign rfl) rfl ?_
      refine Run.opsEnd ?_
      obtain ⟨hH48x, hS48⟩ := hH47.shut (i := 6) (ds := []) rfl
      have hH48 : Has Fr (setT M47 b34 none) [.obj b33 (.loop ⟨.exhausted, none, 28, 24, treeOf [(5, (.ptr b22 0)), (6, .nils), (7, (.ptr b25 0)), (11, (.fn (.func 85) [] [(.ptr b28 0), (.ptr b31 0)]))], [12], (atC Tryz.prog 28 [1, 1, 0, 1, 0, 0]), (atC Tryz.prog 28 [1, 1, 0, 1, 0, 1]), b34⟩), .obj b22 (.row 3 .whole [(.int .i64 c22_0)]), .obj b25 (.row 24 .whole [s35]), .vec 3 1 l35.length s35 (l35.flatMap enc3), .obj b28 (.row 3 .whole [(.int .i64 c28_0)]), .obj b31 (.row 3 .whole [(.int .i64 c31_0)]), .vec 0 0 0 .nils []] := hH48x
      cases h
      exact Run.ret Tryz.func28 (hS48 _ rfl) (res_tmp rfl res_nil) ⟨_, rfl, (hH48.pick [3] rfl rfl).upF (none_le _)⟩

def run_noise (F : Nat) (a0 : Int) (a1 : Int) (a2 : Int) : Option ((List Int)) :=
  run_noise_1 F F (w64 (a0 + (1 : Int))) a1 (0 : Int) a2 a0 a1 ([] : List Int)

theorem run_noise_ok (F : Nat) (a0 : Int) (a1 : Int) (a2 : Int) (r : (List Int)) (M : Mem) (h : run_noise F a0 a1 a2 = some r) : CallsM Tryz.prog 28 [(.int .i64 a0), (.int .i64 a1), (.int .i64 a2)] M (fun s M' => ∃ q1, s = q1 ∧ New M M' [.vec 3 1 r.length q1 (r.flatMap enc3)]) := by
  refine CallsM.fresh (Q := run_noise_post r) Tryz.func28 rfl rfl ?_ (by rintro s Me ⟨q1, rfl, hx⟩ ha hw; exact ⟨_, rfl, New.of rfl hx ha hw⟩)
  rw [run_noise] at h
  have hH := Has.nil (frozen M)
  refine Run.seq (Run.region ?_)
  refine Run.opX wantS_none rfl (ExG.box rfl rfl hH) ?_
  rintro _ M23 ⟨b22, rfl, (hH23 : Has (ro (frozen M)) M23 [.obj b22 (.row 3 .whole [(.int .i64 a2)])])⟩
  refine Run.opG wantS_none (ex_assign rfl) rfl ?_
  refine Run.opsEnd (Run.seq (Run.region ?_))
  refine Run.opX wantS_none rfl (ExG.new (v := fun b => .ptr b 0) (ex_alloc zer24) hH23) ?_
  rintro _ M26 ⟨b25, rfl, (hH26 : Has (ro (frozen M)) M26 [.obj b25 (.row 24 .whole [.nils]), .obj b22 (.row 3 .whole [(.int .i64 a2)])])⟩
  refine Run.opsEnd (Run.seq (Run.seq (Run.region ?_)))
  refine Run.opG wantS_none (ex_move rfl) rfl ?_
  refine Run.opG wantS_none (ex_move rfl) rfl ?_
  refine Run.enter wantS_none (ex_call rfl mkk52 cal52) Tryz.func52 rfl rfl ?_
  refine Run.seq (Run.region ?_)
  refine Run.opX wantS_none rfl (ExG.box rfl rfl hH26) ?_
  rintro _ M29 ⟨b28, rfl, (hH29 : Has (ro (frozen M)) M29 [.obj b28 (.row 3 .whole [(.int .i64 a0)]), .obj b25 (.row 24 .whole [.nils]), .obj b22 (.row 3 .whole [(.int .i64 a2)])])⟩
  refine Run.opX wantS_none rfl (ExG.box rfl rfl hH29) ?_
  rintro _ M32 ⟨b31, rfl, (hH32 : Has (ro (frozen M)) M32 [.obj b31 (.row 3 .whole [(.int .i64 a1)]), .obj b28 (.row 3 .whole [(.int .i64 a0)]), .obj b25 (.row 24 .whole [.nils]), .obj b22 (.row 3 .whole [(.int .i64 a2)])])⟩
  refine Run.opG wantS_none (ex_assign rfl) rfl ?_
  refine Run.opsEnd (Run.seq (Run.region ?_))
  refine Run.opG wantS_none (ex_makeFunc rfl rfl) rfl ?_
  refine Run.opG wantS_none (ex_assign rfl) rfl ?_
  refine Run.opsEnd ?_
  refine Run.retTo Tryz.func52 rfl (res_tmp rfl res_nil) rfl ?_
  refine Run.opsEnd (Run.block ?_)
  refine Run.pick [5, 6, 7, 11] ?_
  refine Run.rangeX rfl cal85 Tryz.func85 rfl rfl hH32 ?_
  intro b34 b33 M33 (hH33 : Has (ro (frozen M)) M33 [.obj b33 (.loop ⟨.ready, none, 28, 24, treeOf [(5, (.ptr b22 0)), (6, .nils), (7, (.ptr b25 0)), (11, (.fn (.func 85) [] [(.ptr b28 0), (.ptr b31 0)]))], [12], (atC Tryz.prog 28 [1, 1, 0, 1, 0, 0]), (atC Tryz.prog 28 [1, 1, 0, 1, 0, 1]), b34⟩), .obj b34 .defd, .obj b31 (.row 3 .whole [(.int .i64 a1)]), .obj b28 (.row 3 .whole [(.int .i64 a0)]), .obj b25 (.row 24 .whole [.nils]), .obj b22 (.row 3 .whole [(.int .i64 a2)])])
  refine Run.seq (Run.region ?_)
  refine Run.opG wantS_none (ex_load1 rfl (hH33.cells (i := 3) rfl 0 rfl) rdLe_rfl agg3) rfl ?_
  refine Run.opG wantS_none (ex_add rfl rfl) rfl ?_
  refine Run.opG wantS_none (ex_assign rfl) rfl ?_
  refine Run.opsEnd (Run.seq (Run.region ?_))
  refine Run.opG wantS_none (ex_load1 rfl (hH33.cells (i := 2) rfl 0 rfl) rdLe_rfl agg3) rfl ?_
  refine Run.opG wantS_none (ex_move rfl) rfl ?_
  refine Run.opsEnd (Run.block (Run.loop ?_))
  have hH36 : Has (ro (frozen M)) M33 [.vec 3 1 ([] : List Int).length .nils (([] : List Int).flatMap enc3), .obj b33 (.loop ⟨.ready, none, 28, 24, treeOf [(5, (.ptr b22 0)), (6, .nils), (7, (.ptr b25 0)), (11, (.fn (.func 85) [] [(.ptr b28 0), (.ptr b31 0)]))], [12], (atC Tryz.prog 28 [1, 1, 0, 1, 0, 0]), (atC Tryz.prog 28 [1, 1, 0, 1, 0, 1]), b34⟩), .obj b34 .defd, .obj b31 (.row 3 .whole [(.int .i64 a1)]), .obj b28 (.row 3 .whole [(.int .i64 a0)]), .obj b25 (.row 24 .whole [.nils]), .obj b22 (.row 3 .whole [(.int .i64 a2)])] := hH33.nils 3 1
  exact Run.low (.cons (fle_pick [7] rfl) .nil) (Run.pick [0, 4, 7, 8] (run_noise_1_ok F F (w64 (a0 + (1 : Int))) a1 (0 : Int) a2 a0 a1 ([] : List Int) b33 b22 b25 .nils b28 b31 b34 _ _ _ (hH36.pick [1, 6, 5, 0, 4, 3, 2] rfl rfl) h))

theorem mkk28 : makeK Tryz.prog 28 = none := by kernel_rfl
theorem cal28 : callable Tryz.prog 28 = true := by kernel_rfl
abbrev run_Noise_post (r : (List Int) × Int) : SV → Mem → Prop := fun s Me => ∃ q1, s = (.tuple [q1, (.int .i64 r.2)]) ∧ Has (fun _ => none) Me [.vec 3 1 r.1.length q1 (r.1.flatMap enc3)]

def run_Noise_2 (F : Nat) (v0 : Int) (v1 : Int) (v2 : Int) (v20 : Bool) : Option ((List Int) × Int) :=
  bif v20 then
    some (([] : List Int), (8 : Int))
  else
    bnd (run_noise F v0 v1 v2) fun r31 =>
    some (r31, (0 : Int))

theorem run_Noise_2_ok (F : Nat) : ∀ (v0 : Int) (v1 : Int) (v2 : Int) (v20 : Bool) (Fr : Rd) (M : Mem) (r : (List Int) × Int) (hH : Has Fr M []), run_Noise_2 F v0 v1 v2 v20 = some r → Run Tryz.prog ⟨⟨8, [], none⟩, []⟩ 25 (run_Noise_post r) [(0, (.int .i64 v0)), (1, (.int .i64 v1)), (2, (.int .i64 v2)), (20, (.bool v20))] [codeC Tryz.prog 8 [1, 0, 1], codeC Tryz.prog 8 [1, 1]] M := by
  intro v0 v1 v2 v20 Fr M r hH h
  rw [run_Noise_2] at h
  rcases btf (v20) with hc26 | hc26
  · have h := bif_t hc26 h
    refine Run.condT' rfl hc26 ?_
    refine Run.seq (Run.region ?_)
    refine Run.opG wantS_none (ex_assign rfl) rfl ?_
    refine Run.opG wantS_none (ex_assign rfl) rfl ?_
    refine Run.opsEnd ?_
    have hH28 : Has Fr M [.vec 3 1 ([] : List Int).length .nils (([] : List Int).flatMap enc3)] := hH.nils 3 1
    cases h
    exact Run.ret Tryz.func8 rfl (res_tmp rfl (res_tmp rfl res_nil)) ⟨_, rfl, (hH28.pick [0] rfl rfl).upF (none_le _)⟩
  · have h := bif_f hc26 h
    refine Run.condF' rfl hc26 ?_
    refine Run.skip (Run.seq (Run.region ?_))
    refine Run.opG wantS_none (ex_move rfl) rfl ?_
    refine Run.opG wantS_none (ex_move rfl) rfl ?_
    refine Run.opG wantS_none (ex_move rfl) rfl ?_
    obtain ⟨r31, hr31, h⟩ := bnd_some h
    refine Run.callX wantS_none (ex_call rfl mkk28 cal28) rfl (run_noise_ok F v0 v1 v2 _ _ hr31) ?_
    rintro s31_0 M33 ⟨_, rfl, hN31⟩
    have hH33 : Has Fr M33 [.vec 3 1 r31.length s31_0 (r31.flatMap enc3)] := hN31.1 _ _ hH
    refine Run.opG wantS_none (ex_assign rfl) rfl ?_
    refine Run.opG wantS_none (ex_assign rfl) rfl ?_
    refine Run.opsEnd ?_
    cases h
    exact Run.ret Tryz.func8 rfl (res_tmp rfl (res_tmp rfl res_nil)) ⟨_, rfl, (hH33.pick [0] rfl rfl).upF (none_le _)⟩

def run_Noise_1 (F : Nat) (v0 : Int) (v1 : Int) (v2 : Int) (v15 : Bool) : Option ((List Int) × Int) :=
  bif v15 then
    run_Noise_2 F v0 v1 v2 true
  else
    bnd (run_isFrom F (0 : Int) v2 (4096 : Int)) fun r35 =>
    run_Noise_2 F v0 v1 v2 (!r35)

theorem run_Noise_1_ok (F : Nat) : ∀ (v0 : Int) (v1 : Int) (v2 : Int) (v15 : Bool) (Fr : Rd) (M : Mem) (r : (List Int) × Int) (hH : Has Fr M []), run_Noise_1 F v0 v1 v2 v15 = some r → Run Tryz.prog ⟨⟨8, [], none⟩, []⟩ 25 (run_Noise_post r) [(0, (.int .i64 v0)), (1, (.int .i64 v1)), (2, (.int .i64 v2)), (15, (.bool v15))] [itemC Tryz.prog 8 [1, 0, 0] 8, codeC Tryz.prog 8 [1, 0, 1], codeC Tryz.prog 8 [1, 1]] M := by
  intro v0 v1 v2 v15 Fr M r hH h
  rw [run_Noise_1] at h
  refine Run.opG wantS_none (ex_move rfl) rfl ?_
  rcases btf (v15) with hc25 | hc25
  · have h := bif_t hc25 h
    refine Run.no (wantS_not' rfl rfl hc25) rfl ?_
    refine Run.no (wantS_not' rfl rfl hc25) rfl ?_
    refine Run.no (wantS_not' rfl rfl hc25) rfl ?_
    refine Run.opG wantS_none (ex_pickT' rfl hc25 rfl rfl) rfl ?_
    refine Run.opsEnd ?_
    exact Run.pick [0, 1, 2, 20] (run_Noise_2_ok F v0 v1 v2 true _ _ _ hH h)
  · have h := bif_f hc25 h
    refine Run.opG (wantS_yes' rfl rfl hc25) (ex_move rfl) rfl ?_
    obtain ⟨r35, hr35, h⟩ := bnd_some h
    refine Run.callP (wantS_yes' rfl rfl hc25) (ex_call rfl mkk27 cal27) rfl (run_isFrom_ok F (0 : Int) v2 (4096 : Int) _ _ hr35) ?_
    refine Run.opG (wantS_yes' rfl rfl hc25) (ex_not rfl) rfl ?_
    refine Run.opG wantS_none (ex_pickF' rfl hc25 rfl rfl) rfl ?_
    refine Run.opsEnd ?_
    exact Run.pick [0, 1, 2, 20] (run_Noise_2_ok F v0 v1 v2 (!r35) _ _ _ hH h)

def run_Noise (F : Nat) (a0 : Int) (a1 : Int) (a2 : Int) : Option ((List Int) × Int) :=
  bnd (run_isSeed F a0) fun r22 =>
  bif (!r22) then
    run_Noise_1 F a0 a1 a2 true
  else
    bnd (run_isFrom F (0 : Int) a1 (512 : Int)) fun r38 =>
    run_Noise_1 F a0 a1 a2 (!r38)

theorem run_Noise_ok (F : Nat) (a0 : Int) (a1 : Int) (a2 : Int) (r : (List Int) × Int) (M : Mem) (h : run_Noise F a0 a1 a2 = some r) : CallsM Tryz.prog 8 [(.int .i64 a0), (.int .i64 a1), (.int .i64 a2)] M (fun s M' => ∃ q1, s = (.tuple [q1, (.int .i64 r.2)]) ∧ New M M' [.vec 3 1 r.1.length q1 (r.1.flatMap enc3)]) := by
  refine CallsM.fresh (Q := run_Noise_post r) Tryz.func8 rfl rfl ?_ (by rintro s Me ⟨q1, rfl, hx⟩ ha hw; exact ⟨_, rfl, New.of rfl hx ha hw⟩)
  rw [run_Noise] at h
  have hH := Has.nil (frozen M)
  refine Run.seq (Run.region ?_)
  refine Run.opG wantS_none (ex_assign rfl) rfl ?_
  refine Run.opG wantS_none (ex_assign rfl) rfl ?_
  refine Run.opsEnd (Run.seq (Run.seq (Run.region ?_)))
  refine Run.opG wantS_none (ex_move rfl) rfl ?_
  obtain ⟨r22, hr22, h⟩ := bnd_some h
  refine Run.callP wantS_none (ex_call rfl mkk26 cal26) rfl (run_isSeed_ok F a0 _ _ hr22) ?_
  refine Run.opG wantS_none (ex_not rfl) rfl ?_
  refine Run.opG wantS_none (ex_move rfl) rfl ?_
  rcases btf ((!r22)) with hc24 | hc24
  · have h := bif_t hc24 h
    refine Run.no (wantS_not' rfl rfl hc24) rfl ?_
    refine Run.no (wantS_not' rfl rfl hc24) rfl ?_
    refine Run.no (wantS_not' rfl rfl hc24) rfl ?_
    refine Run.opG wantS_none (ex_pickT' rfl hc24 rfl rfl) rfl ?_
    exact Run.pick [0, 1, 2, 15] (run_Noise_1_ok F a0 a1 a2 true _ _ _ hH h)
  · have h := bif_f hc24 h
    refine Run.opG (wantS_yes' rfl rfl hc24) (ex_move rfl) rfl ?_
    obtain ⟨r38, hr38, h⟩ := bnd_some h
    refine Run.callP (wantS_yes' rfl rfl hc24) (ex_call rfl mkk27 cal27) rfl (run_isFrom_ok F (0 : Int) a1 (512 : Int) _ _ hr38) ?_
    refine Run.opG (wantS_yes' rfl rfl hc24) (ex_not rfl) rfl ?_
    refine Run.opG wantS_none (ex_pickF' rfl hc24 rfl rfl) rfl ?_
    exact Run.pick [0, 1, 2, 15] (run_Noise_1_ok F a0 a1 a2 (!r38) _ _ _ hH h)

theorem mkk8 : makeK Tryz.prog 8 = none := by kernel_rfl
theorem cal8 : callable Tryz.prog 8 = true := by kernel_rfl
theorem lenk24 : lenK Tryz.prog 24 = some .sl := by kernel_rfl
theorem mkk9 : makeK Tryz.prog 9 = none := by kernel_rfl
theorem cal9 : callable Tryz.prog 9 = true := by kernel_rfl
theorem els24 : elems Tryz.prog 24 = some (.sl 1) := by kernel_rfl
abbrev ref00_In_post (r : Bool) : SV → Mem → Prop := fun s _ => s = (.bool r)

def ref00_In_1 (F : Nat) (v14 : Bool) : Option (Bool) :=
  some v14

theorem ref00_In_1_ok (F : Nat) : ∀ (v14 : Bool) (Fr : Rd) (M : Mem) (r : Bool) (hH : Has Fr M []), ref00_In_1 F v14 = some r → Run Tryz.prog ⟨⟨11, [], none⟩, []⟩ 15 (ref00_In_post r) [(14, (.bool v14))] [itemC Tryz.prog 11 [1, 0] 8, codeC Tryz.prog 11 [1, 1]] M := by
  intro v14 Fr M r hH h
  rw [ref00_In_1] at h
  refine Run.opG wantS_none (ex_assign rfl) rfl ?_
  refine Run.opsEnd ?_
  cases h
  exact Run.ret Tryz.func11 rfl (res_tmp rfl res_nil) rfl

def ref00_In (F : Nat) (a0 : Int) (a1 : Int) (a2 : Int) : Option (Bool) :=
  bif (decide (a1 ≤ a0)) then
    ref00_In_1 F (decide (a0 ≤ a2))
  else
    ref00_In_1 F false

theorem ref00_In_ok (F : Nat) (a0 : Int) (a1 : Int) (a2 : Int) (r : Bool) (M : Mem) (h : ref00_In F a0 a1 a2 = some r) : CallsM Tryz.prog 11 [(.int .i64 a0), (.int .i64 a1), (.int .i64 a2)] M (fun s M' => s = (.bool r) ∧ M' = M) := by
  refine CallsM.plain Tryz.func11 rfl rfl rfl (show Run _ _ _ (ref00_In_post r) _ _ _ from ?_)
  rw [ref00_In] at h
  have hH := Has.nil (frozen M)
  refine Run.seq (Run.region ?_)
  refine Run.opG wantS_none (ex_assign rfl) rfl ?_
  refine Run.opsEnd (Run.seq (Run.region ?_))
  refine Run.opG wantS_none (ex_move rfl) rfl ?_
  refine Run.opG wantS_none (ex_move rfl) rfl ?_
  refine Run.opG wantS_none (ex_leq rfl rfl) rfl ?_
  refine Run.opG wantS_none (ex_move rfl) rfl ?_
  rcases btf ((decide (a1 ≤ a0))) with hc21 | hc21
  · have h := bif_t hc21 h
    refine Run.opG (wantS_yes' rfl rfl hc21) (ex_move rfl) rfl ?_
    refine Run.opG (wantS_yes' rfl rfl hc21) (ex_move rfl) rfl ?_
    refine Run.opG (wantS_yes' rfl rfl hc21) (ex_leq rfl rfl) rfl ?_
    refine Run.opG wantS_none (ex_pickT' rfl hc21 rfl rfl) rfl ?_
    exact Run.pick [14] (ref00_In_1_ok F (decide (a0 ≤ a2)) _ _ _ hH h)
  · have h := bif_f hc21 h
    refine Run.no (wantS_not' rfl rfl hc21) rfl ?_
    refine Run.no (wantS_not' rfl rfl hc21) rfl ?_
    refine Run.no (wantS_not' rfl rfl hc21) rfl ?_
    refine Run.opG wantS_none (ex_pickF' rfl hc21 rfl rfl) rfl ?_
    exact Run.pick [14] (ref00_In_1_ok F false _ _ _ hH h)

theorem mkk11 : makeK Tryz.prog 11 = none := by kernel_rfl
theorem cal11 : callable Tryz.prog 11 = true := by kernel_rfl
theorem plan3_1_1_1_1_1_0_1_0_0_1_0_0_0 : planOf Tryz.prog (opsC (atC Tryz.prog 3 [1, 1, 1, 1, 1, 0, 1, 0, 0, 1, 0, 0, 0])) = some [.fl 0, .fl 1, .fl 2, .fl 3, .fl 4, .fl 5, .fl 6, .fl 7, .fl 8, .an 9 [], .fl 10, .sync] := by kernel_rfl
theorem slk24 : slK Tryz.prog 24 = some (.sl 1) := by kernel_rfl
theorem plan10_1_1_0_1_0_0_1_0_0_0 : planOf Tryz.prog (opsC (atC Tryz.prog 10 [1, 1, 0, 1, 0, 0, 1, 0, 0, 0])) = some [.fl 0, .fl 1, .fl 2, .fl 3, .fl 4, .fl 5, .fl 6, .fl 7, .fl 8, .sync] := by kernel_rfl
abbrev ref00_SameInts_post (r : Bool) : SV → Mem → Prop := fun s _ => s = (.bool r)

def ref00_SameInts_1 (F : Nat) : Nat → (List Int) → (List Int) → Int → Option (Bool)
  | 0, _, _, _ => none
  | N + 1, v0, v1, v5 =>
    bif (decide (v5 < (v0.length : Int))) then
      bnd (idx v0 v5) fun x23 =>
      bnd (idx v1 v5) fun x24 =>
      bif (!(x23 == x24)) then
        some false
      else
        (ref00_SameInts_1 F N) v0 v1 (w64 (v5 + (1 : Int)))
    else
      some true

theorem ref00_SameInts_1_ok (F : Nat) : ∀ (N : Nat), ∀ (v0 : (List Int)) (v1 : (List Int)) (v5 : Int) (sv0 : SV) (sv1 : SV) (Fr : Rd) (M : Mem) (r : Bool) (hv0 : Slc Fr 1 (FlatR enc3) sv0 v0) (hv1 : Slc Fr 1 (FlatR enc3) sv1 v1) (hH : Has Fr M []), ref00_SameInts_1 F N v0 v1 v5 = some r → Run Tryz.prog ⟨⟨10, [], none⟩, []⟩ 26 (ref00_SameInts_post r) [(0, sv0), (1, sv1), (5, (.int .i64 v5))] [codeC Tryz.prog 10 [1, 1, 0, 1, 0, 0], loopC Tryz.prog 10 [1, 1, 0, 1, 0, 0], .inBlock 0, codeC Tryz.prog 10 [1, 1, 1]] M := by
  intro N
  induction N with
  | zero =>
    intro v0 v1 v5 sv0 sv1 Fr M r hv0 hv1 hH h
    simp [ref00_SameInts_1] at h
  | succ N ih =>
    intro v0 v1 v5 sv0 sv1 Fr M r hv0 hv1 hH h
    rw [ref00_SameInts_1] at h
    refine Run.seq (Run.seq (Run.region ?_))
    refine Run.opG wantS_none (ex_move rfl) rfl ?_
    refine Run.opG wantS_none (ex_move rfl) rfl ?_
    refine Run.opG wantS_none (ex_len' rfl hv0 lenk24) rfl ?_
    refine Run.opG wantS_none (ex_lss rfl rfl) rfl ?_
    refine Run.opsEnd ?_
    rcases btf ((decide (v5 < (v0.length : Int)))) with hc22 | hc22
    · have h := bif_t hc22 h
      refine Run.condT' rfl hc22 ?_
      refine Run.skip (Run.seq (Run.block (Run.seq ?_)))
      refine Run.drawG plan10_1_1_0_1_0_0_1_0_0_0 ?_
      refine DrawG.fl rfl (ev_ex wantS_none (ex_move rfl)) rfl ?_
      refine DrawG.fl rfl (ev_ex wantS_none (ex_move rfl)) rfl ?_
      obtain ⟨x23, hx23, h⟩ := bnd_some h
      obtain ⟨p23, o23, _, hx23, hp23, rfl⟩ := sl_elem (P := Tryz.prog) (t := 24) (kk := .i64) hv0 hx23 els24
      refine DrawG.fl rfl (ev_ex wantS_none (ex_elX rfl rfl hx23)) rfl ?_
      refine DrawG.fl rfl (ev_ex wantS_none (ex_load1 rfl (hH.ptrF hp23) rdLe_rfl agg3)) rfl ?_
      refine DrawG.fl rfl (ev_ex wantS_none (ex_move rfl)) rfl ?_
      refine DrawG.fl rfl (ev_ex wantS_none (ex_move rfl)) rfl ?_
      obtain ⟨x24, hx24, h⟩ := bnd_some h
      obtain ⟨p24, o24, _, hx24, hp24, rfl⟩ := sl_elem (P := Tryz.prog) (t := 24) (kk := .i64) hv1 hx24 els24
      refine DrawG.fl rfl (ev_ex wantS_none (ex_elX rfl rfl hx24)) rfl ?_
      refine DrawG.fl rfl (ev_ex wantS_none (ex_load1 rfl (hH.ptrF hp24) rdLe_rfl agg3)) rfl ?_
      refine DrawG.fl rfl (ev_ex wantS_none (ex_neq rfl rfl)) rfl ?_
      refine DrawG.sync ?_
      refine DrawG.nil ?_
      rcases btf ((!(x23 == x24))) with hc25 | hc25
      · have h := bif_t hc25 h
        refine Run.condT' rfl hc25 ?_
        refine Run.seq (Run.region ?_)
        refine Run.opG wantS_none (ex_assign rfl) rfl ?_
        refine Run.opsEnd ?_
        cases h
        exact Run.ret Tryz.func10 rfl (res_tmp rfl res_nil) rfl
      · have h := bif_f hc25 h
        refine Run.condF' rfl hc25 ?_
        refine Run.skip (Run.inBlock (Run.region ?_))
        refine Run.opG wantS_none (ex_move rfl) rfl ?_
        refine Run.opG wantS_none (ex_add rfl rfl) rfl ?_
        refine Run.opG wantS_none (ex_assign rfl) rfl ?_
        refine Run.opsEnd (Run.inLoop ?_)
        exact Run.pick [0, 1, 5] (ih v0 v1 (w64 (v5 + (1 : Int))) sv0 sv1 _ _ _ hv0 hv1 hH h)
    · have h := bif_f hc22 h
      refine Run.condF' rfl hc22 ?_
      refine Run.exit rfl (Run.seq (Run.region ?_))
      refine Run.opG wantS_none (ex_assign rfl) rfl ?_
      refine Run.opsEnd ?_
      cases h
      exact Run.ret Tryz.func10 rfl (res_tmp rfl res_nil) rfl

def ref00_SameInts (F : Nat) (a0 : (List Int)) (a1 : (List Int)) : Option (Bool) :=
  bif (!((a0.length : Int) == (a1.length : Int))) then
    some false
  else
    ref00_SameInts_1 F F a0 a1 (0 : Int)

theorem ref00_SameInts_ok (F : Nat) (a0 : (List Int)) (a1 : (List Int)) (s0 s1 : SV) (r : Bool) (M : Mem) (hs0 : Slc (rd M) 1 (FlatR enc3) s0 a0) (hs1 : Slc (rd M) 1 (FlatR enc3) s1 a1) (h : ref00_SameInts F a0 a1 = some r) : CallsM Tryz.prog 10 [s0, s1] M (fun s M' => s = (.bool r) ∧ M' = M) := by
  refine CallsM.plain Tryz.func10 rfl rfl rfl (show Run _ _ _ (ref00_SameInts_post r) _ _ _ from ?_)
  rw [ref00_SameInts] at h
  replace hs0 := hs0.mono (rdLe_frozen M) (fun _ _ h => h)
  replace hs1 := hs1.mono (rdLe_frozen M) (fun _ _ h => h)
  have hH := Has.nil (frozen M)
  refine Run.seq (Run.region ?_)
  refine Run.opG wantS_none (ex_assign rfl) rfl ?_
  refine Run.opsEnd (Run.seq (Run.seq (Run.region ?_)))
  refine Run.opG wantS_none (ex_move rfl) rfl ?_
  refine Run.opG wantS_none (ex_len' rfl hs0 lenk24) rfl ?_
  refine Run.opG wantS_none (ex_move rfl) rfl ?_
  refine Run.opG wantS_none (ex_len' rfl hs1 lenk24) rfl ?_
  refine Run.opG wantS_none (ex_neq rfl rfl) rfl ?_
  refine Run.opsEnd ?_
  rcases btf ((!((a0.length : Int) == (a1.length : Int)))) with hc21 | hc21
  · have h := bif_t hc21 h
    refine Run.condT' rfl hc21 ?_
    refine Run.seq (Run.region ?_)
    refine Run.opG wantS_none (ex_assign rfl) rfl ?_
    refine Run.opsEnd ?_
    cases h
    exact Run.ret Tryz.func10 rfl (res_tmp rfl res_nil) rfl
  · have h := bif_f hc21 h
    refine Run.condF' rfl hc21 ?_
    refine Run.skip (Run.seq (Run.seq (Run.region ?_)))
    refine Run.opG wantS_none (ex_assign rfl) rfl ?_
    refine Run.opsEnd (Run.block (Run.loop ?_))
    exact Run.pick [0, 1, 5] (ref00_SameInts_1_ok F F a0 a1 (0 : Int) s0 s1 _ _ _ hs0 hs1 hH h)

theorem mkk10 : makeK Tryz.prog 10 = none := by kernel_rfl
theorem cal10 : callable Tryz.prog 10 = true := by kernel_rfl
abbrev law11_RunSeeds_post (r : Bool) : SV → Mem → Prop := fun s _ => s = (.bool r)

def law11_RunSeeds_1 (F : Nat) (v24 : Bool) : Option (Bool) :=
  some v24

theorem law11_RunSeeds_1_ok (F : Nat) : ∀ (v24 : Bool) (Fr : Rd) (M : Mem) (r : Bool) (hH : Has Fr M [tb0, tb1, tb2, tb3]), law11_RunSeeds_1 F v24 = some r → Run Tryz.prog ⟨⟨3, [], none⟩, []⟩ 76 (law11_RunSeeds_post r) [(24, (.bool v24))] [itemC Tryz.prog 3 [1, 1, 0, 1, 0, 0] 6, codeC Tryz.prog 3 [1, 1, 0, 1, 0, 1], codeC Tryz.prog 3 [1, 1, 1]] M := by
  intro v24 Fr M r hH h
  rw [law11_RunSeeds_1] at h
  refine Run.opG wantS_none (ex_assign rfl) rfl ?_
  refine Run.opsEnd ?_
  cases h
  exact Run.ret Tryz.func3 rfl (res_tmp rfl res_nil) rfl

def law11_RunSeeds_4 (F : Nat) : Nat → Int → S_ringdownlaw11_Seeds → (List Int) → Option (Bool)
  | 0, _, _, _ => none
  | N + 1, v6, c26, l31 =>
    bif (decide (v6 < (l31.length : Int))) then
      bnd (idx l31 v6) fun x47 =>
      bnd (ref00_In F x47 (w64 (-c26.B)) c26.B) fun r48 =>
      bif (!r48) then
        some false
      else
        (law11_RunSeeds_4 F N) (w64 (v6 + (1 : Int))) c26 l31
    else
      bnd (works F) fun r52 =>
      some r52

theorem law11_RunSeeds_4_ok (F : Nat) : ∀ (N : Nat), ∀ (v6 : Int) (c26 : S_ringdownlaw11_Seeds) (l31 : (List Int)) (b26 : Pos) (s31 : SV) (Fr : Rd) (M : Mem) (r : Bool) (hH : Has Fr M [.obj b26 (.row 23 .whole [(.int .i64 c26.Seed), (.int .i64 c26.A), (.int .i64 c26.B), (.int .i64 c26.C)]), .vec 3 1 l31.length s31 (l31.flatMap enc3), tb0, tb1, tb2, tb3]), law11_RunSeeds_4 F N v6 c26 l31 = some r → Run Tryz.prog ⟨⟨3, [], none⟩, []⟩ 76 (law11_RunSeeds_post r) [(1, (.ptr b26 0)), (3, s31), (6, (.int .i64 v6))] [codeC Tryz.prog 3 [1, 1, 1, 1, 1, 0, 1, 0, 0], loopC Tryz.prog 3 [1, 1, 1, 1, 1, 0, 1, 0, 0], .inBlock 0, codeC Tryz.prog 3 [1, 1, 1, 1, 1, 1]] M := by
  intro N
  induction N with
  | zero =>
    intro v6 c26 l31 b26 s31 Fr M r hH h
    simp [law11_RunSeeds_4] at h
  | succ N ih =>
    intro v6 c26 l31 b26 s31 Fr M r hH h
    rw [law11_RunSeeds_4] at h
    refine Run.seq (Run.seq (Run.region ?_))
    refine Run.opG wantS_none (ex_move rfl) rfl ?_
    refine Run.opG wantS_none (ex_move rfl) rfl ?_
    refine Run.opG wantS_none (ex_len' rfl (hH.slc (i := 1) rfl enc3_len) lenk24) rfl ?_
    refine Run.opG wantS_none (ex_lss rfl rfl) rfl ?_
    refine Run.opsEnd ?_
    rcases btf ((decide (v6 < (l31.length : Int)))) with hc46 | hc46
    · have h := bif_t hc46 h
      refine Run.condT' rfl hc46 ?_
      refine Run.skip (Run.seq (Run.block (Run.seq ?_)))
      refine Run.drawG plan3_1_1_1_1_1_0_1_0_0_1_0_0_0 ?_
      refine DrawG.fl rfl (ev_ex wantS_none (ex_move rfl)) rfl ?_
      refine DrawG.fl rfl (ev_ex wantS_none (ex_move rfl)) rfl ?_
      obtain ⟨x47, hx47, h⟩ := bnd_some h
      obtain ⟨p47, o47, hb47, hx47, he47⟩ := vec_elem (P := Tryz.prog) (t := 24) (kk := .i64) hH (i := 1) rfl hx47 els24
      refine DrawG.fl rfl (ev_ex wantS_none (ex_elX rfl rfl hx47)) rfl ?_
      refine DrawG.fl rfl (ev_ex wantS_none (ex_load1 rfl (hH.at (enc := enc3) (a := x47) (i := 1) rfl hb47 he47 enc3_len) rdLe_rfl agg3)) rfl ?_
      refine DrawG.fl rfl (ev_ex wantS_none (ex_fieldAddr rfl off23_2)) rfl ?_
      refine DrawG.fl rfl (ev_ex wantS_none (ex_load1 rfl (hH.cells (i := 0) rfl 2 rfl) rdLe_rfl agg3)) rfl ?_
      refine DrawG.fl rfl (ev_ex wantS_none (ex_neg rfl)) rfl ?_
      refine DrawG.fl rfl (ev_ex wantS_none (ex_fieldAddr rfl off23_2)) rfl ?_
      refine DrawG.fl rfl (ev_ex wantS_none (ex_load1 rfl (hH.cells (i := 0) rfl 2 rfl) rdLe_rfl agg3)) rfl ?_
      obtain ⟨r48, hr48, h⟩ := bnd_some h
      refine DrawG.callP rfl wantS_none (ex_call rfl mkk11 cal11) rfl (ref00_In_ok F x47 (w64 (-c26.B)) c26.B _ _ hr48) st_nil ?_
      refine DrawG.fl rfl (ev_ex wantS_none (ex_not rfl)) rfl ?_
      refine DrawG.sync ?_
      refine DrawG.nil ?_
      rcases btf ((!r48)) with hc50 | hc50
      · have h := bif_t hc50 h
        refine Run.condT' rfl hc50 ?_
        refine Run.seq (Run.region ?_)
        refine Run.opG wantS_none (ex_assign rfl) rfl ?_
        refine Run.opsEnd ?_
        cases h
        exact Run.ret Tryz.func3 rfl (res_tmp rfl res_nil) rfl
      · have h := bif_f hc50 h
        refine Run.condF' rfl hc50 ?_
        refine Run.skip (Run.inBlock (Run.region ?_))
        refine Run.opG wantS_none (ex_move rfl) rfl ?_
        refine Run.opG wantS_none (ex_add rfl rfl) rfl ?_
        refine Run.opG wantS_none (ex_assign rfl) rfl ?_
        refine Run.opsEnd (Run.inLoop ?_)
        exact Run.pick [1, 3, 6] (ih (w64 (v6 + (1 : Int))) c26 l31 b26 s31 _ _ _ hH h)
    · have h := bif_f hc46 h
      refine Run.condF' rfl hc46 ?_
      refine Run.exit rfl (Run.seq (Run.region ?_))
      obtain ⟨r52, hr52, h⟩ := bnd_some h
      refine Run.callP wantS_none (ex_call rfl mkk9 cal9) rfl (works_ok F r52 _ hH (List.mem_of_getElem? (i := 2) rfl) (List.mem_of_getElem? (i := 3) rfl) (List.mem_of_getElem? (i := 4) rfl) (List.mem_of_getElem? (i := 5) rfl) hr52) ?_
      refine Run.opG wantS_none (ex_assign rfl) rfl ?_
      refine Run.opsEnd ?_
      cases h
      exact Run.ret Tryz.func3 rfl (res_tmp rfl res_nil) rfl

def law11_RunSeeds_3 (F : Nat) (v57 : Bool) (c26 : S_ringdownlaw11_Seeds) (l31 : (List Int)) : Option (Bool) :=
  bif v57 then
    some false
  else
    law11_RunSeeds_4 F F (0 : Int) c26 l31

theorem law11_RunSeeds_3_ok (F : Nat) : ∀ (v57 : Bool) (c26 : S_ringdownlaw11_Seeds) (l31 : (List Int)) (b26 : Pos) (s31 : SV) (Fr : Rd) (M : Mem) (r : Bool) (hH : Has Fr M [.obj b26 (.row 23 .whole [(.int .i64 c26.Seed), (.int .i64 c26.A), (.int .i64 c26.B), (.int .i64 c26.C)]), .vec 3 1 l31.length s31 (l31.flatMap enc3), tb0, tb1, tb2, tb3]), law11_RunSeeds_3 F v57 c26 l31 = some r → Run Tryz.prog ⟨⟨3, [], none⟩, []⟩ 76 (law11_RunSeeds_post r) [(1, (.ptr b26 0)), (3, s31), (57, (.bool v57))] [codeC Tryz.prog 3 [1, 1, 1, 1, 0, 1], codeC Tryz.prog 3 [1, 1, 1, 1, 1]] M := by
  intro v57 c26 l31 b26 s31 Fr M r hH h
  rw [law11_RunSeeds_3] at h
  rcases btf (v57) with hc45 | hc45
  · have h := bif_t hc45 h
    refine Run.condT' rfl hc45 ?_
    refine Run.seq (Run.region ?_)
    refine Run.opG wantS_none (ex_assign rfl) rfl ?_
    refine Run.opsEnd ?_
    cases h
    exact Run.ret Tryz.func3 rfl (res_tmp rfl res_nil) rfl
  · have h := bif_f hc45 h
    refine Run.condF' rfl hc45 ?_
    refine Run.skip (Run.seq (Run.seq (Run.region ?_)))
    refine Run.opG wantS_none (ex_assign rfl) rfl ?_
    refine Run.opsEnd (Run.block (Run.loop ?_))
    exact Run.pick [1, 3, 6] (law11_RunSeeds_4_ok F F (0 : Int) c26 l31 b26 s31 _ _ _ hH h)

def law11_RunSeeds_2 (F : Nat) (v45 : Bool) (c26 : S_ringdownlaw11_Seeds) (l31 : (List Int)) (l41 : (List Int)) : Option (Bool) :=
  bif v45 then
    law11_RunSeeds_3 F true c26 l31
  else
    bnd (subP l41.length 0 (min (l41.length : Int) c26.A)) fun l55 =>
    bnd (parL l41 (0 + l55.1) l55.2) fun l59 =>
    bnd (ref00_SameInts F l59 l31) fun r58 =>
    law11_RunSeeds_3 F (!r58) c26 l31

theorem law11_RunSeeds_2_ok (F : Nat) : ∀ (v45 : Bool) (c26 : S_ringdownlaw11_Seeds) (l31 : (List Int)) (l41 : (List Int)) (b26 : Pos) (s31 : SV) (s41 : SV) (Fr : Rd) (M : Mem) (r : Bool) (hH : Has Fr M [.obj b26 (.row 23 .whole [(.int .i64 c26.Seed), (.int .i64 c26.A), (.int .i64 c26.B), (.int .i64 c26.C)]), .vec 3 1 l31.length s31 (l31.flatMap enc3), .vec 3 1 l41.length s41 (l41.flatMap enc3), tb0, tb1, tb2, tb3]), law11_RunSeeds_2 F v45 c26 l31 l41 = some r → Run Tryz.prog ⟨⟨3, [], none⟩, []⟩ 76 (law11_RunSeeds_post r) [(1, (.ptr b26 0)), (3, s31), (5, s41), (45, (.bool v45))] [itemC Tryz.prog 3 [1, 1, 1, 1, 0, 0] 9, codeC Tryz.prog 3 [1, 1, 1, 1, 0, 1], codeC Tryz.prog 3 [1, 1, 1, 1, 1]] M := by
  intro v45 c26 l31 l41 b26 s31 s41 Fr M r hH h
  rw [law11_RunSeeds_2] at h
  refine Run.opG wantS_none (ex_move rfl) rfl ?_
  rcases btf (v45) with hc44 | hc44
  · have h := bif_t hc44 h
    refine Run.no (wantS_not' rfl rfl hc44) rfl ?_
    refine Run.no (wantS_not' rfl rfl hc44) rfl ?_
    refine Run.no (wantS_not' rfl rfl hc44) rfl ?_
    refine Run.no (wantS_not' rfl rfl hc44) rfl ?_
    refine Run.no (wantS_not' rfl rfl hc44) rfl ?_
    refine Run.no (wantS_not' rfl rfl hc44) rfl ?_
    refine Run.no (wantS_not' rfl rfl hc44) rfl ?_
    refine Run.no (wantS_not' rfl rfl hc44) rfl ?_
    refine Run.no (wantS_not' rfl rfl hc44) rfl ?_
    refine Run.no (wantS_not' rfl rfl hc44) rfl ?_
    refine Run.opG wantS_none (ex_pickT' rfl hc44 rfl rfl) rfl ?_
    refine Run.opsEnd ?_
    exact Run.pick [1, 3, 57] (law11_RunSeeds_3_ok F true c26 l31 b26 s31 _ _ _ (hH.pick [0, 1, 3, 4, 5, 6] rfl rfl) h)
  · have h := bif_f hc44 h
    refine Run.opG (wantS_yes' rfl rfl hc44) (ex_move rfl) rfl ?_
    refine Run.opG (wantS_yes' rfl rfl hc44) (ex_move rfl) rfl ?_
    refine Run.opG (wantS_yes' rfl rfl hc44) (ex_len' rfl (hH.slc (i := 2) rfl enc3_len) lenk24) rfl ?_
    refine Run.opG (wantS_yes' rfl rfl hc44) (ex_fieldAddr rfl off23_1) rfl ?_
    refine Run.opG (wantS_yes' rfl rfl hc44) (ex_load1 rfl (hH.cells (i := 0) rfl 1 rfl) rdLe_rfl agg3) rfl ?_
    refine Run.opG (wantS_yes' rfl rfl hc44) (ex_min rfl rfl) rfl ?_
    obtain ⟨l55, hl55, h⟩ := bnd_some h
    have hq55 := part_all hH (i := 2) rfl
    obtain ⟨s55, hx55, hp55⟩ := part_cutH (P := Tryz.prog) (t := 24) (k0 := .i64) hq55 hl55 slk24
    refine Run.opG (wantS_yes' rfl rfl hc44) (ex_slX rfl (argO_none) (argO_some rfl) hx55) rfl ?_
    refine Run.opG (wantS_yes' rfl rfl hc44) (ex_move rfl) rfl ?_
    obtain ⟨l59, hl59, h⟩ := bnd_some h
    obtain ⟨r58, hr58, h⟩ := bnd_some h
    have hs59 := part_slc hH (i := 2) rfl enc3_len hp55 hl59
    refine Run.callP (wantS_yes' rfl rfl hc44) (ex_call rfl mkk10 cal10) rfl (ref00_SameInts_ok F l59 l31 s55 s31 _ _ hs59 (hH.slc (i := 1) rfl enc3_len) hr58) ?_
    refine Run.opG (wantS_yes' rfl rfl hc44) (ex_not rfl) rfl ?_
    refine Run.opG wantS_none (ex_pickF' rfl hc44 rfl rfl) rfl ?_
    refine Run.opsEnd ?_
    exact Run.pick [1, 3, 57] (law11_RunSeeds_3_ok F (!r58) c26 l31 b26 s31 _ _ _ (hH.pick [0, 1, 3, 4, 5, 6] rfl rfl) h)

def law11_RunSeeds (F : Nat) (a0 : S_ringdownlaw11_Seeds) : Option (Bool) :=
  bnd (run_Noise F a0.Seed a0.A a0.B) fun r30 =>
  bif (!(r30.2 == (0 : Int))) then
    bif ((r30.1.length : Int) == (0 : Int)) then
      bnd (works F) fun r36 =>
      law11_RunSeeds_1 F r36
    else
      law11_RunSeeds_1 F false
  else
    bnd (run_Noise F a0.Seed (min (512 : Int) (w64 (a0.A + (5 : Int)))) a0.B) fun r40 =>
    bif (!(r40.2 == (0 : Int))) then
      law11_RunSeeds_2 F true a0 r30.1 r40.1
    else
      law11_RunSeeds_2 F (!((r30.1.length : Int) == a0.A)) a0 r30.1 r40.1

theorem law11_RunSeeds_run (F : Nat) (a0 : S_ringdownlaw11_Seeds) (r : Bool) (M : Mem) (hfx : FixIn M fixes) (h : law11_RunSeeds F a0 = some r) : Run Tryz.prog (fx0 3) 76 (law11_RunSeeds_post r) [(0, (.agg [(.int .i64 a0.Seed), (.int .i64 a0.A), (.int .i64 a0.B), (.int .i64 a0.C)]))] [codeC Tryz.prog 3 []] (frozen M) := by
  rw [law11_RunSeeds] at h
  have hH : Has (ro (frozen M)) (frozen M) [tb0, tb1, tb2, tb3] := Has.ofFix hfx.frozen
  refine Run.seq (Run.region ?_)
  refine Run.opX wantS_none rfl (ExG.box rfl rfl hH) ?_
  rintro _ M27 ⟨b26, rfl, (hH27 : Has (ro (frozen M)) M27 [.obj b26 (.row 23 .whole [(.int .i64 a0.Seed), (.int .i64 a0.A), (.int .i64 a0.B), (.int .i64 a0.C)]), tb0, tb1, tb2, tb3])⟩
  refine Run.opG wantS_none (ex_assign rfl) rfl ?_
  refine Run.opsEnd (Run.seq (Run.region ?_))
  refine Run.opG wantS_none (ex_fieldAddr rfl off23_0) rfl ?_
  refine Run.opG wantS_none (ex_load1 rfl (hH27.cells (i := 0) rfl 0 rfl) rdLe_rfl agg3) rfl ?_
  refine Run.opG wantS_none (ex_fieldAddr rfl off23_1) rfl ?_
  refine Run.opG wantS_none (ex_load1 rfl (hH27.cells (i := 0) rfl 1 rfl) rdLe_rfl agg3) rfl ?_
  refine Run.opG wantS_none (ex_fieldAddr rfl off23_2) rfl ?_
  refine Run.opG wantS_none (ex_load1 rfl (hH27.cells (i := 0) rfl 2 rfl) rdLe_rfl agg3) rfl ?_
  obtain ⟨r30, hr30, h⟩ := bnd_some h
  refine Run.callX wantS_none (ex_call rfl mkk8 cal8) rfl (run_Noise_ok F a0.Seed a0.A a0.B _ _ hr30) ?_
  rintro _ M32 ⟨s30_0, rfl, hN30⟩
  have hH32 : Has (ro (frozen M)) M32 [.vec 3 1 r30.1.length s30_0 (r30.1.flatMap enc3), .obj b26 (.row 23 .whole [(.int .i64 a0.Seed), (.int .i64 a0.A), (.int .i64 a0.B), (.int .i64 a0.C)]), tb0, tb1, tb2, tb3] := hN30.1 _ _ hH27
  refine Run.opG wantS_none (ex_move rfl) rfl ?_
  refine Run.opG wantS_none (ex_extract rfl rfl) rfl ?_
  refine Run.opG wantS_none (ex_extract rfl rfl) rfl ?_
  refine Run.opG wantS_none (ex_assign rfl) rfl ?_
  refine Run.opG wantS_none (ex_assign rfl) rfl ?_
  refine Run.opsEnd (Run.seq (Run.seq (Run.region ?_)))
  refine Run.opG wantS_none (ex_move rfl) rfl ?_
  refine Run.opG wantS_none (ex_neq rfl rfl) rfl ?_
  refine Run.opsEnd ?_
  rcases btf ((!(r30.2 == (0 : Int)))) with hc33 | hc33
  · have h := bif_t hc33 h
    refine Run.condT' rfl hc33 ?_
    refine Run.seq (Run.region ?_)
    refine Run.opG wantS_none (ex_move rfl) rfl ?_
    refine Run.opG wantS_none (ex_len' rfl (hH32.slc (i := 0) rfl enc3_len) lenk24) rfl ?_
    refine Run.opG wantS_none (ex_eql rfl rfl) rfl ?_
    refine Run.opG wantS_none (ex_move rfl) rfl ?_
    rcases btf (((r30.1.length : Int) == (0 : Int))) with hc34 | hc34
    · have h := bif_t hc34 h
      obtain ⟨r36, hr36, h⟩ := bnd_some h
      refine Run.callP (wantS_yes' rfl rfl hc34) (ex_call rfl mkk9 cal9) rfl (works_ok F r36 _ hH32 (List.mem_of_getElem? (i := 2) rfl) (List.mem_of_getElem? (i := 3) rfl) (List.mem_of_getElem? (i := 4) rfl) (List.mem_of_getElem? (i := 5) rfl) hr36) ?_
      refine Run.opG wantS_none (ex_pickT' rfl hc34 rfl rfl) rfl ?_
      exact Run.pick [24] (law11_RunSeeds_1_ok F r36 _ _ _ (hH32.pick [2, 3, 4, 5] rfl rfl) h)
    · have h := bif_f hc34 h
      refine Run.no (wantS_not' rfl rfl hc34) rfl ?_
      refine Run.opG wantS_none (ex_pickF' rfl hc34 rfl rfl) rfl ?_
      exact Run.pick [24] (law11_RunSeeds_1_ok F false _ _ _ (hH32.pick [2, 3, 4, 5] rfl rfl) h)
  · have h := bif_f hc33 h
    refine Run.condF' rfl hc33 ?_
    refine Run.skip (Run.seq (Run.region ?_))
    refine Run.opG wantS_none (ex_fieldAddr rfl off23_0) rfl ?_
    refine Run.opG wantS_none (ex_load1 rfl (hH32.cells (i := 1) rfl 0 rfl) rdLe_rfl agg3) rfl ?_
    refine Run.opG wantS_none (ex_fieldAddr rfl off23_1) rfl ?_
    refine Run.opG wantS_none (ex_load1 rfl (hH32.cells (i := 1) rfl 1 rfl) rdLe_rfl agg3) rfl ?_
    refine Run.opG wantS_none (ex_add rfl rfl) rfl ?_
    refine Run.opG wantS_none (ex_min rfl rfl) rfl ?_
    refine Run.opG wantS_none (ex_fieldAddr rfl off23_2) rfl ?_
    refine Run.opG wantS_none (ex_load1 rfl (hH32.cells (i := 1) rfl 2 rfl) rdLe_rfl agg3) rfl ?_
    obtain ⟨r40, hr40, h⟩ := bnd_some h
    refine Run.callX wantS_none (ex_call rfl mkk8 cal8) rfl (run_Noise_ok F a0.Seed (min (512 : Int) (w64 (a0.A + (5 : Int)))) a0.B _ _ hr40) ?_
    rintro _ M42 ⟨s40_0, rfl, hN40⟩
    have hH42 : Has (ro (frozen M)) M42 [.vec 3 1 r40.1.length s40_0 (r40.1.flatMap enc3), .vec 3 1 r30.1.length s30_0 (r30.1.flatMap enc3), .obj b26 (.row 23 .whole [(.int .i64 a0.Seed), (.int .i64 a0.A), (.int .i64 a0.B), (.int .i64 a0.C)]), tb0, tb1, tb2, tb3] := hN40.1 _ _ hH32
    refine Run.opG wantS_none (ex_move rfl) rfl ?_
    refine Run.opG wantS_none (ex_extract rfl rfl) rfl ?_
    refine Run.opG wantS_none (ex_extract rfl rfl) rfl ?_
    refine Run.opG wantS_none (ex_assign rfl) rfl ?_
    refine Run.opG wantS_none (ex_assign rfl) rfl ?_
    refine Run.opsEnd (Run.seq (Run.seq (Run.region ?_)))
    refine Run.opG wantS_none (ex_move rfl) rfl ?_
    refine Run.opG wantS_none (ex_neq rfl rfl) rfl ?_
    refine Run.opG wantS_none (ex_move rfl) rfl ?_
    rcases btf ((!(r40.2 == (0 : Int)))) with hc43 | hc43
    · have h := bif_t hc43 h
      refine Run.no (wantS_not' rfl rfl hc43) rfl ?_
      refine Run.no (wantS_not' rfl rfl hc43) rfl ?_
      refine Run.no (wantS_not' rfl rfl hc43) rfl ?_
      refine Run.no (wantS_not' rfl rfl hc43) rfl ?_
      refine Run.no (wantS_not' rfl rfl hc43) rfl ?_
      refine Run.opG wantS_none (ex_pickT' rfl hc43 rfl rfl) rfl ?_
      exact Run.pick [1, 3, 5, 45] (law11_RunSeeds_2_ok F true a0 r30.1 r40.1 b26 s30_0 s40_0 _ _ _ (hH42.pick [2, 1, 0, 3, 4, 5, 6] rfl rfl) h)
    · have h := bif_f hc43 h
      refine Run.opG (wantS_yes' rfl rfl hc43) (ex_move rfl) rfl ?_
      refine Run.opG (wantS_yes' rfl rfl hc43) (ex_len' rfl (hH42.slc (i := 1) rfl enc3_len) lenk24) rfl ?_
      refine Run.opG (wantS_yes' rfl rfl hc43) (ex_fieldAddr rfl off23_1) rfl ?_
      refine Run.opG (wantS_yes' rfl rfl hc43) (ex_load1 rfl (hH42.cells (i := 2) rfl 1 rfl) rdLe_rfl agg3) rfl ?_
      refine Run.opG (wantS_yes' rfl rfl hc43) (ex_neq rfl rfl) rfl ?_
      refine Run.opG wantS_none (ex_pickF' rfl hc43 rfl rfl) rfl ?_
      exact Run.pick [1, 3, 5, 45] (law11_RunSeeds_2_ok F (!((r30.1.length : Int) == a0.A)) a0 r30.1 r40.1 b26 s30_0 s40_0 _ _ _ (hH42.pick [2, 1, 0, 3, 4, 5, 6] rfl rfl) h)

end Go.Ev.RunSeeds
