/- Plain functions that say what functions of the program come to, and proofs of it, written by a program of the verifier's own. -/
import Derived.Test.YtgaofnakcccbkaaSearchAlarmPlain
namespace Go.Ev.SearchAlarm
open Go Go.Ev Go.Proofs
set_option maxRecDepth 100000
set_option linter.unusedVariables false

abbrev search_Slide_post (r : (List S_api_Trigger) × Int) : SV → Mem → Prop := fun s Me => ∃ q1, s = (.tuple [q1, (.int .i64 r.2)]) ∧ Has (fun _ => none) Me [.vec 73 3 r.1.length q1 (r.1.flatMap enc73)]

def search_Slide (F : Nat) (a0 : (List S_api_Trigger)) (a1 a2 : Int) : Option ((List S_api_Trigger) × Int) :=
  bnd (search_clock_check F (S_search_clock.mk a1 0 a1) ([a0] : List (List S_api_Trigger))) fun r29 =>
  bif (!(r29 == (0 : Int))) then
    some (([] : List S_api_Trigger), r29)
  else
    bnd (search_isFrom F (0 : Int) a2 (w64 (a1 - (1 : Int)))) fun r35 =>
    bif (!r35) then
      some (([] : List S_api_Trigger), (8 : Int))
    else
      bnd (search_clock_slide F (S_search_clock.mk a1 0 a1) a0 a2) fun r42 =>
      some (r42, (0 : Int))

theorem search_Slide_ok (F : Nat) (a0 : (List S_api_Trigger)) (a1 a2 : Int) (s0 : SV) (r : (List S_api_Trigger) × Int) (M : Mem) (hs0 : Slc (rd M) 3 (FlatR enc73) s0 a0) (h : search_Slide F a0 a1 a2 = some r) : CallsM Try.prog 18 [s0, (.int .i64 a1), (.int .i64 a2)] M (fun s M' => ∃ q1, s = (.tuple [q1, (.int .i64 r.2)]) ∧ New M M' [.vec 73 3 r.1.length q1 (r.1.flatMap enc73)]) := by
  refine CallsM.fresh (Q := search_Slide_post r) Try.func18 rfl rfl ?_ (by rintro s Me ⟨q1, rfl, hx⟩ ha hw; exact ⟨_, rfl, New.of rfl hx ha hw⟩)
  rw [search_Slide] at h
  replace hs0 := hs0.mono (rdLe_frozen M) (fun _ _ h => h)
  have hH := Has.nil (frozen M)
  refine Run.seq (Run.region ?_)
  refine Run.opG wantS_none (ex_assign rfl) rfl ?_
  refine Run.opG wantS_none (ex_assign rfl) rfl ?_
  refine Run.opsEnd (Run.seq (Run.region ?_))
  refine Run.opG wantS_none (ex_move rfl) rfl ?_
  refine Run.opG wantS_none (ex_move rfl) rfl ?_
  refine Run.opG wantS_none (ex_build (r := [(.int .i64 a1), (.int .i64 0), (.int .i64 a1)]) rfl zer80 pls80 rfl) rfl ?_
  refine Run.opX wantS_none rfl (ExG.new (v := fun b => .ptr b 0) (ex_alloc zer80) hH) ?_
  rintro _ M23 ⟨b22, rfl, hH23⟩
  refine Run.opX wantS_none rfl (ExG.storeC (c' := [(.int .i64 a1), (.int .i64 0), (.int .i64 a1)]) rfl rfl rfl hH23 (i := 0) rfl sz80 rfl rfl rfl rfl rfl) ?_
  rintro _ M24 ⟨rfl, (hH24 : Has (ro (frozen M)) M24 [.obj b22 (.row 80 .whole [(.int .i64 a1), (.int .i64 0), (.int .i64 a1)])])⟩
  refine Run.opsEnd (Run.seq (Run.seq (Run.region ?_)))
  refine Run.opG wantS_none (ex_loadA rfl (hH24.cells (i := 0) rfl 0 rfl) rdLe_rfl agg80 rfl rfl rfl) rfl ?_
  refine Run.opG wantS_none (ex_move rfl) rfl ?_
  have hr26 : Rows (rep33 (ro (frozen M))) 1 [s0] ([a0] : List (List S_api_Trigger)) := (Rows.cons (cs := [s0]) rfl ⟨s0, rfl, hs0⟩ Rows.nil)
  refine Run.opX wantS_none rfl (ExG.builtR (z := 1) (c := [s0]) rfl elt116 rfl (by simp only [fillS, cells_one (slc_one hs0)]; rfl) rfl hH24) ?_
  rintro s26 M27 (hH27 : Has (ro (frozen M)) M27 [.vec 33 1 ([a0] : List (List S_api_Trigger)).length s26 [s0], .obj b22 (.row 80 .whole [(.int .i64 a1), (.int .i64 0), (.int .i64 a1)])])
  obtain ⟨r29, hr29, h⟩ := bnd_some h
  refine Run.callP wantS_none (ex_call rfl mkk38 cal38) rfl (search_clock_check_ok F (S_search_clock.mk a1 0 a1) ([a0] : List (List S_api_Trigger)) s26 _ _ (((hH27.slcR (i := 0) rfl hr26)).mono (fun _ _ h => h) (fun _ _ => rep33_mo hH27.le)) hr29) ?_
  refine Run.opG wantS_none (ex_assign rfl) rfl ?_
  refine Run.opsEnd (Run.block (Run.seq (Run.region ?_)))
  refine Run.opG wantS_none (ex_move rfl) rfl ?_
  refine Run.opG wantS_none (ex_neq rfl rfl) rfl ?_
  refine Run.opG wantS_none (ex_assign rfl) rfl ?_
  refine Run.opsEnd ?_
  rcases btf ((!(r29 == (0 : Int)))) with hc31 | hc31
  · have h := bif_t hc31 h
    refine Run.condT' rfl hc31 ?_
    refine Run.seq (Run.region ?_)
    refine Run.opG wantS_none (ex_move rfl) rfl ?_
    refine Run.opG wantS_none (ex_assign rfl) rfl ?_
    refine Run.opG wantS_none (ex_assign rfl) rfl ?_
    refine Run.opsEnd ?_
    have hH33 : Has (ro (frozen M)) M27 [.vec 73 3 ([] : List S_api_Trigger).length .nils (([] : List S_api_Trigger).flatMap enc73), .vec 33 1 ([a0] : List (List S_api_Trigger)).length s26 [s0], .obj b22 (.row 80 .whole [(.int .i64 a1), (.int .i64 0), (.int .i64 a1)])] := hH27.nils 73 3
    cases h
    exact Run.ret Try.func18 rfl (res_tmp rfl (res_tmp rfl res_nil)) ⟨_, rfl, (hH33.pick [0] rfl rfl).upF (none_le _)⟩
  · have h := bif_f hc31 h
    refine Run.condF' rfl hc31 ?_
    refine Run.seq (Run.region ?_)
    refine Run.opG wantS_none (ex_move rfl) rfl ?_
    refine Run.opG wantS_none (ex_move rfl) rfl ?_
    refine Run.opG wantS_none (ex_sub rfl rfl) rfl ?_
    obtain ⟨r35, hr35, h⟩ := bnd_some h
    refine Run.callP wantS_none (ex_call rfl mkk36 cal36) rfl (search_isFrom_ok F (0 : Int) a2 (w64 (a1 - (1 : Int))) _ _ hr35) ?_
    refine Run.opG wantS_none (ex_not rfl) rfl ?_
    refine Run.opG wantS_none (ex_assign rfl) rfl ?_
    refine Run.opsEnd ?_
    rcases btf ((!r35)) with hc37 | hc37
    · have h := bif_t hc37 h
      refine Run.condT' rfl hc37 ?_
      refine Run.seq (Run.region ?_)
      refine Run.opG wantS_none (ex_assign rfl) rfl ?_
      refine Run.opG wantS_none (ex_assign rfl) rfl ?_
      refine Run.opsEnd ?_
      have hH39 : Has (ro (frozen M)) M27 [.vec 73 3 ([] : List S_api_Trigger).length .nils (([] : List S_api_Trigger).flatMap enc73), .vec 33 1 ([a0] : List (List S_api_Trigger)).length s26 [s0], .obj b22 (.row 80 .whole [(.int .i64 a1), (.int .i64 0), (.int .i64 a1)])] := hH27.nils 73 3
      cases h
      exact Run.ret Try.func18 rfl (res_tmp rfl (res_tmp rfl res_nil)) ⟨_, rfl, (hH39.pick [0] rfl rfl).upF (none_le _)⟩
    · have h := bif_f hc37 h
      refine Run.condF' rfl hc37 ?_
      refine Run.skip (Run.inBlock (Run.seq (Run.region ?_)))
      refine Run.opG wantS_none (ex_loadA rfl (hH27.cells (i := 1) rfl 0 rfl) rdLe_rfl agg80 rfl rfl rfl) rfl ?_
      refine Run.opG wantS_none (ex_move rfl) rfl ?_
      refine Run.opG wantS_none (ex_move rfl) rfl ?_
      obtain ⟨r42, hr42, h⟩ := bnd_some h
      refine Run.callX wantS_none (ex_call rfl mkk49 cal49) rfl (search_clock_slide_ok F (S_search_clock.mk a1 0 a1) a0 a2 s0 _ _ (hH27.slcF hs0) hr42) ?_
      rintro s42_0 M44 ⟨_, rfl, hN42⟩
      have hH44 : Has (ro (frozen M)) M44 [.vec 73 3 r42.length s42_0 (r42.flatMap enc73), .vec 33 1 ([a0] : List (List S_api_Trigger)).length s26 [s0], .obj b22 (.row 80 .whole [(.int .i64 a1), (.int .i64 0), (.int .i64 a1)])] := hN42.1 _ _ hH27
      refine Run.opG wantS_none (ex_assign rfl) rfl ?_
      refine Run.opG wantS_none (ex_assign rfl) rfl ?_
      refine Run.opsEnd ?_
      cases h
      exact Run.ret Try.func18 rfl (res_tmp rfl (res_tmp rfl res_nil)) ⟨_, rfl, (hH44.pick [0] rfl rfl).upF (none_le _)⟩

theorem mkk18 : makeK Try.prog 18 = none := by kernel_rfl
theorem cal18 : callable Try.prog 18 = true := by kernel_rfl
structure S_api_Pair where
  A : Int
  B : Int
  Loud : Int

structure S_api_Chance where
  N : Int
  Of : Int

structure S_api_Candidate where
  Pair : S_api_Pair
  Chance : S_api_Chance

def enc44 (a : S_api_Candidate) : List SV := [(.int .i64 a.Pair.A), (.int .i64 a.Pair.B), (.int .i64 a.Pair.Loud), (.int .i64 a.Chance.N), (.int .i64 a.Chance.Of)]
theorem enc44_len (a : S_api_Candidate) : (enc44 a).length = 5 := rfl
theorem enc44_ones (a : S_api_Candidate) : ones (enc44 a) = true := rfl
theorem mkk43 : makeK Try.prog 43 = none := by kernel_rfl
theorem cal43 : callable Try.prog 43 = true := by kernel_rfl
theorem zer22 : zerosOf Try.prog 22 = some [.nils] := by kernel_rfl
theorem sz22 : szOf Try.prog 22 = some 1 := by kernel_rfl
theorem mkk42 : makeK Try.prog 42 = none := by kernel_rfl
theorem cal42 : callable Try.prog 42 = true := by kernel_rfl
theorem mkk41 : makeK Try.prog 41 = none := by kernel_rfl
theorem cal41 : callable Try.prog 41 = true := by kernel_rfl
theorem mkk71 : makeK Try.prog 71 = none := by kernel_rfl
theorem cal71 : callable Try.prog 71 = true := by kernel_rfl
theorem cal72 : callable Try.prog 72 = true := by kernel_rfl
theorem agg86 : aggSize Try.prog 86 = some none := by kernel_rfl
theorem cal73 : callable Try.prog 73 = true := by kernel_rfl
theorem seqp73_1_1_0_1_0_0 : seqP (opsC (atC Try.prog 73 [1, 1, 0, 1, 0, 0])) = some 7 := by kernel_rfl
theorem agg83 : aggSize Try.prog 83 = some none := by kernel_rfl
theorem agg40 : aggSize Try.prog 40 = some (some 3) := by kernel_rfl
theorem agg22 : aggSize Try.prog 22 = some none := by kernel_rfl
theorem zer42 : zerosOf Try.prog 42 = some [(.int .i64 0), (.int .i64 0)] := by kernel_rfl
theorem els22 : elems Try.prog 22 = some (.sl 1) := by kernel_rfl
theorem pls42 : placesOf Try.prog 42 = some (.st [(0, 1), (1, 1)]) := by kernel_rfl
theorem sz42 : szOf Try.prog 42 = some 2 := by kernel_rfl
theorem agg42 : aggSize Try.prog 42 = some (some 2) := by kernel_rfl
abbrev search_chance_post (r : S_api_Chance) : SV → Mem → Prop := fun s _ => s = (.agg [(.int .i64 r.N), (.int .i64 r.Of)])

def search_chance_2 (F : Nat) (hd1 : (List Int) → Int → Int → (List Int) → Int → Int → S_api_Chance → Option (S_api_Chance)) (v0 : (List Int)) (v1 v5 : Int) (v8 : (List Int)) (v9 v10 : Int) (c22 : S_api_Chance) : Option (S_api_Chance) :=
  hd1 v0 v1 v5 v8 v9 (w64 (v10 + (1 : Int))) c22

theorem search_chance_2_ok (F : Nat) (hd1 : (List Int) → Int → Int → (List Int) → Int → Int → S_api_Chance → Option (S_api_Chance)) (hhd1 : ∀ (v0 : (List Int)) (v1 v5 : Int) (v8 : (List Int)) (v9 v10 : Int) (c22 : S_api_Chance) (sv0 sv8 : SV) (b22 : Pos) (Fr : Rd) (M : Mem) (r : S_api_Chance) (hv0 : Slc Fr 1 (FlatR enc3) sv0 v0) (hv8 : Slc Fr 1 (FlatR enc3) sv8 v8) (hH : Has Fr M [.obj b22 (.row 42 .whole [(.int .i64 c22.N), (.int .i64 c22.Of)])]), hd1 v0 v1 v5 v8 v9 v10 c22 = some r → Run Try.prog ⟨⟨60, [], none⟩, []⟩ 25 (search_chance_post r) [(0, sv0), (1, (.int .i64 v1)), (4, (.ptr b22 0)), (5, (.int .i64 v5)), (8, sv8), (9, (.int .i64 v9)), (10, (.int .i64 v10))] [codeC Try.prog 60 [1, 1, 0, 1, 0, 0], loopC Try.prog 60 [1, 1, 0, 1, 0, 0], .inBlock 0, codeC Try.prog 60 [1, 1, 1]] M) : ∀ (v0 : (List Int)) (v1 v5 : Int) (v8 : (List Int)) (v9 v10 : Int) (c22 : S_api_Chance) (sv0 sv8 : SV) (b22 : Pos) (Fr : Rd) (M : Mem) (r : S_api_Chance) (hv0 : Slc Fr 1 (FlatR enc3) sv0 v0) (hv8 : Slc Fr 1 (FlatR enc3) sv8 v8) (hH : Has Fr M [.obj b22 (.row 42 .whole [(.int .i64 c22.N), (.int .i64 c22.Of)])]), search_chance_2 F hd1 v0 v1 v5 v8 v9 v10 c22 = some r → Run Try.prog ⟨⟨60, [], none⟩, []⟩ 25 (search_chance_post r) [(0, sv0), (1, (.int .i64 v1)), (4, (.ptr b22 0)), (5, (.int .i64 v5)), (8, sv8), (9, (.int .i64 v9)), (10, (.int .i64 v10))] [itemC Try.prog 60 [1, 1, 0, 1, 0, 0, 1, 1, 1] 0, loopC Try.prog 60 [1, 1, 0, 1, 0, 0], .inBlock 0, codeC Try.prog 60 [1, 1, 1]] M := by
  intro v0 v1 v5 v8 v9 v10 c22 sv0 sv8 b22 Fr M r hv0 hv8 hH h
  rw [search_chance_2] at h
  refine Run.opG wantS_none (ex_add rfl rfl) rfl ?_
  refine Run.opG wantS_none (ex_move rfl) rfl ?_
  refine Run.opsEnd (Run.inLoop ?_)
  exact Run.pick [0, 1, 4, 5, 8, 9, 10] (hhd1 v0 v1 v5 v8 v9 (w64 (v10 + (1 : Int))) c22 sv0 sv8 b22 _ _ _ hv0 hv8 hH h)

def search_chance_1 (F : Nat) : Nat → (List Int) → Int → Int → (List Int) → Int → Int → S_api_Chance → Option (S_api_Chance)
  | 0, _, _, _, _, _, _, _ => none
  | N + 1, v0, v1, v5, v8, v9, v10, c22 =>
    bif (decide (v10 < v9)) then
      bnd (idx v8 v10) fun x26 =>
      bif (decide (v1 ≤ x26)) then
        search_chance_2 F (search_chance_1 F N) v0 v1 (w64 (v5 + (1 : Int))) v8 v9 v10 c22
      else
        search_chance_2 F (search_chance_1 F N) v0 v1 v5 v8 v9 v10 c22
    else
      some (S_api_Chance.mk (max v5 (1 : Int)) (v0.length : Int))

theorem search_chance_1_ok (F : Nat) : ∀ (N : Nat), ∀ (v0 : (List Int)) (v1 v5 : Int) (v8 : (List Int)) (v9 v10 : Int) (c22 : S_api_Chance) (sv0 sv8 : SV) (b22 : Pos) (Fr : Rd) (M : Mem) (r : S_api_Chance) (hv0 : Slc Fr 1 (FlatR enc3) sv0 v0) (hv8 : Slc Fr 1 (FlatR enc3) sv8 v8) (hH : Has Fr M [.obj b22 (.row 42 .whole [(.int .i64 c22.N), (.int .i64 c22.Of)])]), search_chance_1 F N v0 v1 v5 v8 v9 v10 c22 = some r → Run Try.prog ⟨⟨60, [], none⟩, []⟩ 25 (search_chance_post r) [(0, sv0), (1, (.int .i64 v1)), (4, (.ptr b22 0)), (5, (.int .i64 v5)), (8, sv8), (9, (.int .i64 v9)), (10, (.int .i64 v10))] [codeC Try.prog 60 [1, 1, 0, 1, 0, 0], loopC Try.prog 60 [1, 1, 0, 1, 0, 0], .inBlock 0, codeC Try.prog 60 [1, 1, 1]] M := by
  intro N
  induction N with
  | zero =>
    intro v0 v1 v5 v8 v9 v10 c22 sv0 sv8 b22 Fr M r hv0 hv8 hH h
    simp [search_chance_1] at h
  | succ N ih =>
    intro v0 v1 v5 v8 v9 v10 c22 sv0 sv8 b22 Fr M r hv0 hv8 hH h
    rw [search_chance_1] at h
    refine Run.seq (Run.region ?_)
    refine Run.opG wantS_none (ex_lss rfl rfl) rfl ?_
    refine Run.opsEnd (Run.seq ?_)
    rcases btf ((decide (v10 < v9))) with hc24 | hc24
    · have h := bif_t hc24 h
      refine Run.condT' rfl hc24 ?_
      refine Run.skip (Run.seq (Run.block (Run.seq (Run.region ?_))))
      obtain ⟨x26, hx26, h⟩ := bnd_some h
      obtain ⟨p26, o26, _, hx26, hp26, rfl⟩ := sl_elem (P := Try.prog) (t := 22) (kk := .i64) hv8 hx26 els22
      refine Run.opG wantS_none (ex_elX rfl rfl hx26) rfl ?_
      refine Run.opG wantS_none (ex_load1 rfl (hH.ptrF hp26) rdLe_rfl agg3) rfl ?_
      refine Run.opG wantS_none (ex_assign rfl) rfl ?_
      refine Run.opsEnd (Run.seq (Run.region ?_))
      refine Run.opG wantS_none (ex_move rfl) rfl ?_
      refine Run.opG wantS_none (ex_move rfl) rfl ?_
      refine Run.opG wantS_none (ex_geq rfl rfl) rfl ?_
      refine Run.opsEnd ?_
      rcases btf ((decide (v1 ≤ x26))) with hc27 | hc27
      · have h := bif_t hc27 h
        refine Run.condT' rfl hc27 ?_
        refine Run.region ?_
        refine Run.opG wantS_none (ex_move rfl) rfl ?_
        refine Run.opG wantS_none (ex_add rfl rfl) rfl ?_
        refine Run.opG wantS_none (ex_assign rfl) rfl ?_
        refine Run.opsEnd (Run.inBlock (Run.region ?_))
        exact Run.pick [0, 1, 4, 5, 8, 9, 10] (search_chance_2_ok F (search_chance_1 F N) ih v0 v1 (w64 (v5 + (1 : Int))) v8 v9 v10 c22 sv0 sv8 b22 _ _ _ hv0 hv8 hH h)
      · have h := bif_f hc27 h
        refine Run.condF' rfl hc27 ?_
        refine Run.skip (Run.inBlock (Run.region ?_))
        exact Run.pick [0, 1, 4, 5, 8, 9, 10] (search_chance_2_ok F (search_chance_1 F N) ih v0 v1 v5 v8 v9 v10 c22 sv0 sv8 b22 _ _ _ hv0 hv8 hH h)
    · have h := bif_f hc24 h
      refine Run.condF' rfl hc24 ?_
      refine Run.exit rfl (Run.seq (Run.region ?_))
      refine Run.opG wantS_none (ex_move rfl) rfl ?_
      refine Run.opG wantS_none (ex_max rfl rfl) rfl ?_
      refine Run.opG wantS_none (ex_move rfl) rfl ?_
      refine Run.opG wantS_none (ex_len' rfl hv0 lenk22) rfl ?_
      refine Run.opG wantS_none (ex_build (r := [(.int .i64 (max v5 (1 : Int))), (.int .i64 (v0.length : Int))]) rfl zer42 pls42 rfl) rfl ?_
      refine Run.opX wantS_none rfl (ExG.storeC (c' := [(.int .i64 (max v5 (1 : Int))), (.int .i64 (v0.length : Int))]) rfl rfl rfl hH (i := 0) rfl sz42 rfl rfl rfl rfl rfl) ?_
      rintro _ M28 ⟨rfl, (hH28 : Has Fr M28 [.obj b22 (.row 42 .whole [(.int .i64 (max v5 (1 : Int))), (.int .i64 (v0.length : Int))])])⟩
      refine Run.opsEnd ?_
      cases h
      exact Run.ret Try.func60 rfl (res_cell rfl (x_load (ex_loadA rfl (hH28.cells (i := 0) rfl 0 rfl) rdLe_rfl agg42 rfl rfl rfl)) res_nil) rfl

def search_chance (F : Nat) (a0 : (List Int)) (a1 : Int) : Option (S_api_Chance) :=
  search_chance_1 F F a0 a1 (0 : Int) a0 (a0.length : Int) (0 : Int) (S_api_Chance.mk 0 0)

theorem search_chance_ok (F : Nat) (a0 : (List Int)) (a1 : Int) (s0 : SV) (r : S_api_Chance) (M : Mem) (hs0 : Slc (rd M) 1 (FlatR enc3) s0 a0) (h : search_chance F a0 a1 = some r) : CallsM Try.prog 60 [s0, (.int .i64 a1)] M (fun s M' => s = (.agg [(.int .i64 r.N), (.int .i64 r.Of)]) ∧ M' = M) := by
  refine CallsM.plain Try.func60 rfl rfl rfl (show Run _ _ _ (search_chance_post r) _ _ _ from ?_)
  rw [search_chance] at h
  replace hs0 := hs0.mono (rdLe_frozen M) (fun _ _ h => h)
  have hH := Has.nil (frozen M)
  refine Run.seq (Run.region ?_)
  refine Run.opX wantS_none rfl (ExG.new (v := fun b => .ptr b 0) (ex_alloc zer42) hH) ?_
  rintro _ M23 ⟨b22, rfl, hH23⟩
  refine Run.opsEnd (Run.seq (Run.region ?_))
  refine Run.opG wantS_none (ex_assign rfl) rfl ?_
  refine Run.opsEnd (Run.seq (Run.seq (Run.region ?_)))
  refine Run.opG wantS_none (ex_move rfl) rfl ?_
  refine Run.opG wantS_none (ex_len' rfl hs0 lenk22) rfl ?_
  refine Run.opG wantS_none (ex_move rfl) rfl ?_
  refine Run.opsEnd (Run.block (Run.loop ?_))
  exact Run.pick [0, 1, 4, 5, 8, 9, 10] (search_chance_1_ok F F a0 a1 (0 : Int) a0 (a0.length : Int) (0 : Int) (S_api_Chance.mk 0 0) s0 s0 b22 _ _ _ hs0 hs0 hH23 h)

theorem mkk60 : makeK Try.prog 60 = none := by kernel_rfl
theorem cal60 : callable Try.prog 60 = true := by kernel_rfl
theorem zer44 : zerosOf Try.prog 44 = some [(.int .i64 0), (.int .i64 0), (.int .i64 0), (.int .i64 0), (.int .i64 0)] := by kernel_rfl
theorem pls44 : placesOf Try.prog 44 = some (.st [(0, 3), (3, 2)]) := by kernel_rfl
theorem sz44 : szOf Try.prog 44 = some 5 := by kernel_rfl
theorem agg44 : aggSize Try.prog 44 = some (some 5) := by kernel_rfl
theorem mkk40 : makeK Try.prog 40 = none := by kernel_rfl
theorem cal40 : callable Try.prog 40 = true := by kernel_rfl
theorem off44_1 : fieldOff Try.prog 44 1 = some 3 := by kernel_rfl
theorem off42_0 : fieldOff Try.prog 42 0 = some 0 := by kernel_rfl
theorem agg36 : aggSize Try.prog 36 = some none := by kernel_rfl
theorem elt36 : sliceElt Try.prog 36 = some (⟨5, 40, [(.int .i64 0), (.int .i64 0), (.int .i64 0), (.int .i64 0), (.int .i64 0)], 44⟩ : Elt) := by kernel_rfl
theorem appt36_36 : appT Try.prog 36 36 = some (⟨5, 40, [(.int .i64 0), (.int .i64 0), (.int .i64 0), (.int .i64 0), (.int .i64 0)], 44⟩ : Elt) := by kernel_rfl
theorem sz36 : szOf Try.prog 36 = some 1 := by kernel_rfl
theorem plan14_1_1_0_1_0_1_1_0 : planOf Try.prog (opsC (atC Try.prog 14 [1, 1, 0, 1, 0, 1, 1, 0])) = some [.fl 0, .fl 1, .an 2 [0], .an 3 [], .fl 4, .fl 5, .sync] := by kernel_rfl
abbrev search_Candidates_post (r : (List S_api_Candidate) × Int) : SV → Mem → Prop := fun s Me => ∃ q1, s = (.tuple [q1, (.int .i64 r.2)]) ∧ Has (fun _ => none) Me [.vec 44 5 r.1.length q1 (r.1.flatMap enc44)]

def search_Candidates_5 (F : Nat) (hd2 : Int → (List S_api_Trigger) → Int → Int → (List S_api_Trigger) → Int → Int → Int → S_search_clock → (List S_api_Trigger) → (List S_api_Trigger) → (List S_api_Trigger) → (List S_api_Trigger) → S_search_clock → S_api_Trigger → (List Int) → (List S_api_Candidate) → Option ((List S_api_Candidate) × Int)) (v5 : Int) (v10 : (List S_api_Trigger)) (v11 v12 : Int) (v17 : (List S_api_Trigger)) (v18 v19 c22_0 : Int) (c45 : S_search_clock) (c48_0 c51_0 c85_0 c88_0 : (List S_api_Trigger)) (c82 : S_search_clock) (c98 : S_api_Trigger) (l56 : (List Int)) (l139 : (List S_api_Candidate)) : Option ((List S_api_Candidate) × Int) :=
  hd2 v5 v10 v11 v12 v17 v18 (w64 (v19 + (1 : Int))) c22_0 c45 c48_0 c51_0 c85_0 c88_0 c82 c98 l56 l139

theorem search_Candidates_5_ok (F : Nat) (hd2 : Int → (List S_api_Trigger) → Int → Int → (List S_api_Trigger) → Int → Int → Int → S_search_clock → (List S_api_Trigger) → (List S_api_Trigger) → (List S_api_Trigger) → (List S_api_Trigger) → S_search_clock → S_api_Trigger → (List Int) → (List S_api_Candidate) → Option ((List S_api_Candidate) × Int)) (hhd2 : ∀ (v5 : Int) (v10 : (List S_api_Trigger)) (v11 v12 : Int) (v17 : (List S_api_Trigger)) (v18 v19 c22_0 : Int) (c45 : S_search_clock) (c48_0 c51_0 c85_0 c88_0 : (List S_api_Trigger)) (c82 : S_search_clock) (c98 : S_api_Trigger) (l56 : (List Int)) (l92 : (List S_api_Candidate)) (sv10 sv17 sc48_0 sc51_0 sc85_0 sc88_0 : SV) (b90 b59 : Pos) (s56 : SV) (b79 b76 b66 b22 b74 b71 b69 : Pos) (s92 : SV) (b63 b45 b48 b51 b72 b77 b85 b88 b82 b91 b98 : Pos) (Fr : Rd) (M : Mem) (r : (List S_api_Candidate) × Int) (hv10 : Slc Fr 3 (FlatR enc73) sv10 v10) (hv17 : Slc Fr 3 (FlatR enc73) sv17 v17) (hc48_0 : Slc Fr 3 (FlatR enc73) sc48_0 c48_0) (hc51_0 : Slc Fr 3 (FlatR enc73) sc51_0 c51_0) (hc85_0 : Slc Fr 3 (FlatR enc73) sc85_0 c85_0) (hc88_0 : Slc Fr 3 (FlatR enc73) sc88_0 c88_0) (hH : Has Fr M [.obj b90 (.loop ⟨.ready, none, 73, 21, treeOf [(4, (.ptr b59 0)), (5, (.ptr b79 0)), (10, (.fn (.func 84) [] [(.ptr b85 0), (.ptr b88 0), (.ptr b82 0)]))], [11], (atC Try.prog 73 [1, 1, 0, 0]), (atC Try.prog 73 [1, 1, 0, 1]), b91⟩), .obj b59 (.row 22 .whole [s56]), .vec 3 1 l56.length s56 (l56.flatMap enc3), .obj b79 (.row 83 .whole [(.yield b76)]), .obj b76 (.loop ⟨.ready, none, 72, 16, treeOf [(2, (.ptr b66 0)), (3, (.ptr b74 0)), (5, (.fn (.func 73) [] [(.ptr b45 0), (.ptr b48 0), (.ptr b51 0), (.ptr b59 0)]))], [6], (atC Try.prog 72 [1, 1, 0, 0]), (atC Try.prog 72 [1, 1, 0, 1]), b77⟩), .obj b66 (.row 83 .whole [(.fn (.func 40) [] [(.ptr b22 0)])]), .obj b22 (.row 3 .whole [(.int .i64 c22_0)]), .obj b74 (.row 83 .whole [(.yield b71)]), .obj b71 (.loop ⟨.ready, none, 71, 13, treeOf [(2, (.ptr b69 0)), (4, .nils), (6, (.fn (.func 72) [] [(.ptr b63 0), (.ptr b66 0)]))], [7], (atC Try.prog 71 [1, 0, 1, 0, 0]), (atC Try.prog 71 [1, 0, 1, 0, 1]), b72⟩), .obj b69 (.row 36 .whole [s92]), .vec 44 5 l92.length s92 (l92.flatMap enc44), .obj b63 (.row 86 .whole [(.fn (.func 73) [] [(.ptr b45 0), (.ptr b48 0), (.ptr b51 0), (.ptr b59 0)])]), .obj b45 (.row 80 .whole [(.int .i64 c45.live), (.int .i64 c45.window), (.int .i64 c45.step)]), .obj b48 (.row 33 .whole [sc48_0]), .obj b51 (.row 33 .whole [sc51_0]), .obj b72 .defd, .obj b77 .defd, .obj b85 (.row 33 .whole [sc85_0]), .obj b88 (.row 33 .whole [sc88_0]), .obj b82 (.row 80 .whole [(.int .i64 c82.live), (.int .i64 c82.window), (.int .i64 c82.step)]), .obj b91 .defd, .obj b98 (.row 73 .whole [(.int .i64 c98.Time), (.int .i64 c98.Loud), (.int .i64 c98.Template)])]), hd2 v5 v10 v11 v12 v17 v18 v19 c22_0 c45 c48_0 c51_0 c85_0 c88_0 c82 c98 l56 l92 = some r → Run Try.prog ⟨⟨84, [], none⟩, [.mk ⟨73, [b91], none⟩ 21 (treeOf []) [.inRange b90, .inBlock 0], .mk ⟨72, [b77], none⟩ 16 (treeOf []) [.inRange b76, .inBlock 0], .mk ⟨71, [b72], none⟩ 13 (treeOf [(2, (.ptr b69 0))]) [.inRange b71, .inBlock 0, codeC Try.prog 71 [1, 1]], .mk ⟨41, [], none⟩ 5 (treeOf []) [itemC Try.prog 41 [1, 0] 1, codeC Try.prog 41 [1, 1]], .mk ⟨14, [], none⟩ 44 (treeOf []) [itemC Try.prog 14 [1, 1, 1, 1, 0] 6, codeC Try.prog 14 [1, 1, 1, 1, 1]]]⟩ 56 (search_Candidates_post r) [(0, (.yield b90)), (2, (.ptr b88 0)), (3, (.ptr b82 0)), (5, (.int .i64 v5)), (6, (.ptr b98 0)), (10, sv10), (11, (.int .i64 v11)), (12, (.int .i64 v12)), (17, sv17), (18, (.int .i64 v18)), (19, (.int .i64 v19))] [codeC Try.prog 84 [1, 0, 0, 1, 1, 0, 0, 1, 1, 0, 0], loopC Try.prog 84 [1, 0, 0, 1, 1, 0, 0, 1, 1, 0, 0], .inBlock 2, .inBlock 1, codeC Try.prog 84 [1, 0, 0, 1, 1, 1], loopC Try.prog 84 [1, 0, 0], .inBlock 0] M) : ∀ (v5 : Int) (v10 : (List S_api_Trigger)) (v11 v12 : Int) (v17 : (List S_api_Trigger)) (v18 v19 c22_0 : Int) (c45 : S_search_clock) (c48_0 c51_0 c85_0 c88_0 : (List S_api_Trigger)) (c82 : S_search_clock) (c98 : S_api_Trigger) (l56 : (List Int)) (l139 : (List S_api_Candidate)) (sv10 sv17 sc48_0 sc51_0 sc85_0 sc88_0 : SV) (b90 b59 : Pos) (s56 : SV) (b79 b76 b66 b22 b74 b71 b69 : Pos) (s139 : SV) (b63 b45 b48 b51 b72 b77 b85 b88 b82 b91 b98 : Pos) (Fr : Rd) (M : Mem) (r : (List S_api_Candidate) × Int) (hv10 : Slc Fr 3 (FlatR enc73) sv10 v10) (hv17 : Slc Fr 3 (FlatR enc73) sv17 v17) (hc48_0 : Slc Fr 3 (FlatR enc73) sc48_0 c48_0) (hc51_0 : Slc Fr 3 (FlatR enc73) sc51_0 c51_0) (hc85_0 : Slc Fr 3 (FlatR enc73) sc85_0 c85_0) (hc88_0 : Slc Fr 3 (FlatR enc73) sc88_0 c88_0) (hH : Has Fr M [.obj b90 (.loop ⟨.ready, none, 73, 21, treeOf [(4, (.ptr b59 0)), (5, (.ptr b79 0)), (10, (.fn (.func 84) [] [(.ptr b85 0), (.ptr b88 0), (.ptr b82 0)]))], [11], (atC Try.prog 73 [1, 1, 0, 0]), (atC Try.prog 73 [1, 1, 0, 1]), b91⟩), .obj b59 (.row 22 .whole [s56]), .vec 3 1 l56.length s56 (l56.flatMap enc3), .obj b79 (.row 83 .whole [(.yield b76)]), .obj b76 (.loop ⟨.ready, none, 72, 16, treeOf [(2, (.ptr b66 0)), (3, (.ptr b74 0)), (5, (.fn (.func 73) [] [(.ptr b45 0), (.ptr b48 0), (.ptr b51 0), (.ptr b59 0)]))], [6], (atC Try.prog 72 [1, 1, 0, 0]), (atC Try.prog 72 [1, 1, 0, 1]), b77⟩), .obj b66 (.row 83 .whole [(.fn (.func 40) [] [(.ptr b22 0)])]), .obj b22 (.row 3 .whole [(.int .i64 c22_0)]), .obj b74 (.row 83 .whole [(.yield b71)]), .obj b71 (.loop ⟨.ready, none, 71, 13, treeOf [(2, (.ptr b69 0)), (4, .nils), (6, (.fn (.func 72) [] [(.ptr b63 0), (.ptr b66 0)]))], [7], (atC Try.prog 71 [1, 0, 1, 0, 0]), (atC Try.prog 71 [1, 0, 1, 0, 1]), b72⟩), .obj b69 (.row 36 .whole [s139]), .vec 44 5 l139.length s139 (l139.flatMap enc44), .obj b63 (.row 86 .whole [(.fn (.func 73) [] [(.ptr b45 0), (.ptr b48 0), (.ptr b51 0), (.ptr b59 0)])]), .obj b45 (.row 80 .whole [(.int .i64 c45.live), (.int .i64 c45.window), (.int .i64 c45.step)]), .obj b48 (.row 33 .whole [sc48_0]), .obj b51 (.row 33 .whole [sc51_0]), .obj b72 .defd, .obj b77 .defd, .obj b85 (.row 33 .whole [sc85_0]), .obj b88 (.row 33 .whole [sc88_0]), .obj b82 (.row 80 .whole [(.int .i64 c82.live), (.int .i64 c82.window), (.int .i64 c82.step)]), .obj b91 .defd, .obj b98 (.row 73 .whole [(.int .i64 c98.Time), (.int .i64 c98.Loud), (.int .i64 c98.Template)])]), search_Candidates_5 F hd2 v5 v10 v11 v12 v17 v18 v19 c22_0 c45 c48_0 c51_0 c85_0 c88_0 c82 c98 l56 l139 = some r → Run Try.prog ⟨⟨84, [], none⟩, [.mk ⟨73, [b91], none⟩ 21 (treeOf []) [.inRange b90, .inBlock 0], .mk ⟨72, [b77], none⟩ 16 (treeOf []) [.inRange b76, .inBlock 0], .mk ⟨71, [b72], none⟩ 13 (treeOf [(2, (.ptr b69 0))]) [.inRange b71, .inBlock 0, codeC Try.prog 71 [1, 1]], .mk ⟨41, [], none⟩ 5 (treeOf []) [itemC Try.prog 41 [1, 0] 1, codeC Try.prog 41 [1, 1]], .mk ⟨14, [], none⟩ 44 (treeOf []) [itemC Try.prog 14 [1, 1, 1, 1, 0] 6, codeC Try.prog 14 [1, 1, 1, 1, 1]]]⟩ 56 (search_Candidates_post r) [(0, (.yield b90)), (2, (.ptr b88 0)), (3, (.ptr b82 0)), (5, (.int .i64 v5)), (6, (.ptr b98 0)), (10, sv10), (11, (.int .i64 v11)), (12, (.int .i64 v12)), (17, sv17), (18, (.int .i64 v18)), (19, (.int .i64 v19)), (53, (.bool false))] [codeC Try.prog 84 [1, 0, 0, 1, 1, 0, 0, 1, 1, 0, 0, 1, 1, 0, 0, 1, 1, 1], .inBlock 3, codeC Try.prog 84 [1, 0, 0, 1, 1, 0, 0, 1, 1, 0, 0, 1, 1, 1], loopC Try.prog 84 [1, 0, 0, 1, 1, 0, 0, 1, 1, 0, 0], .inBlock 2, .inBlock 1, codeC Try.prog 84 [1, 0, 0, 1, 1, 1], loopC Try.prog 84 [1, 0, 0], .inBlock 0] M := by
  intro v5 v10 v11 v12 v17 v18 v19 c22_0 c45 c48_0 c51_0 c85_0 c88_0 c82 c98 l56 l139 sv10 sv17 sc48_0 sc51_0 sc85_0 sc88_0 b90 b59 s56 b79 b76 b66 b22 b74 b71 b69 s139 b63 b45 b48 b51 b72 b77 b85 b88 b82 b91 b98 Fr M r hv10 hv17 hc48_0 hc51_0 hc85_0 hc88_0 hH h
  rw [search_Candidates_5] at h
  refine Run.condF' rfl rfl ?_
  refine Run.skip (Run.inBlock (Run.region ?_))
  refine Run.opG wantS_none (ex_add rfl rfl) rfl ?_
  refine Run.opG wantS_none (ex_move rfl) rfl ?_
  refine Run.opsEnd (Run.inLoop ?_)
  exact Run.low (.cons (fle_pick [] rfl) (.cons (fle_pick [] rfl) (.cons (fle_pick [2] rfl) (.cons (fle_pick [] rfl) (.cons (fle_pick [] rfl) .nil))))) (Run.pick [0, 2, 3, 5, 6, 10, 11, 12, 17, 18, 19] (hhd2 v5 v10 v11 v12 v17 v18 (w64 (v19 + (1 : Int))) c22_0 c45 c48_0 c51_0 c85_0 c88_0 c82 c98 l56 l139 sv10 sv17 sc48_0 sc51_0 sc85_0 sc88_0 b90 b59 s56 b79 b76 b66 b22 b74 b71 b69 s139 b63 b45 b48 b51 b72 b77 b85 b88 b82 b91 b98 _ _ _ hv10 hv17 hc48_0 hc51_0 hc85_0 hc88_0 hH h))

def search_Candidates_4 (F : Nat) (hd2 : Int → (List S_api_Trigger) → Int → Int → (List S_api_Trigger) → Int → Int → Int → S_search_clock → (List S_api_Trigger) → (List S_api_Trigger) → (List S_api_Trigger) → (List S_api_Trigger) → S_search_clock → S_api_Trigger → (List Int) → (List S_api_Candidate) → Option ((List S_api_Candidate) × Int)) (v5_f2 : Int) (v10_f2 : (List S_api_Trigger)) (v11_f2 v12_f2 : Int) (v17_f2 : (List S_api_Trigger)) (v18_f2 v19_f2 : Int) (v41_f2 : Bool) (c22_0 : Int) (c45 : S_search_clock) (c48_0 c51_0 c85_0 c88_0 : (List S_api_Trigger)) (c82 : S_search_clock) (c98 : S_api_Trigger) (l139 : (List S_api_Candidate)) (l56 : (List Int)) : Option ((List S_api_Candidate) × Int) :=
  bif v41_f2 then
    search_Candidates_5 F hd2 v5_f2 v10_f2 v11_f2 v12_f2 v17_f2 v18_f2 v19_f2 c22_0 c45 c48_0 c51_0 c85_0 c88_0 c82 c98 l56 l139
  else
    search_Candidates_5 F hd2 v5_f2 v10_f2 v11_f2 v12_f2 v17_f2 v18_f2 v19_f2 c22_0 c45 c48_0 c51_0 c85_0 c88_0 c82 c98 l56 l139

theorem search_Candidates_4_ok (F : Nat) (hd2 : Int → (List S_api_Trigger) → Int → Int → (List S_api_Trigger) → Int → Int → Int → S_search_clock → (List S_api_Trigger) → (List S_api_Trigger) → (List S_api_Trigger) → (List S_api_Trigger) → S_search_clock → S_api_Trigger → (List Int) → (List S_api_Candidate) → Option ((List S_api_Candidate) × Int)) (hhd2 : ∀ (v5 : Int) (v10 : (List S_api_Trigger)) (v11 v12 : Int) (v17 : (List S_api_Trigger)) (v18 v19 c22_0 : Int) (c45 : S_search_clock) (c48_0 c51_0 c85_0 c88_0 : (List S_api_Trigger)) (c82 : S_search_clock) (c98 : S_api_Trigger) (l56 : (List Int)) (l92 : (List S_api_Candidate)) (sv10 sv17 sc48_0 sc51_0 sc85_0 sc88_0 : SV) (b90 b59 : Pos) (s56 : SV) (b79 b76 b66 b22 b74 b71 b69 : Pos) (s92 : SV) (b63 b45 b48 b51 b72 b77 b85 b88 b82 b91 b98 : Pos) (Fr : Rd) (M : Mem) (r : (List S_api_Candidate) × Int) (hv10 : Slc Fr 3 (FlatR enc73) sv10 v10) (hv17 : Slc Fr 3 (FlatR enc73) sv17 v17) (hc48_0 : Slc Fr 3 (FlatR enc73) sc48_0 c48_0) (hc51_0 : Slc Fr 3 (FlatR enc73) sc51_0 c51_0) (hc85_0 : Slc Fr 3 (FlatR enc73) sc85_0 c85_0) (hc88_0 : Slc Fr 3 (FlatR enc73) sc88_0 c88_0) (hH : Has Fr M [.obj b90 (.loop ⟨.ready, none, 73, 21, treeOf [(4, (.ptr b59 0)), (5, (.ptr b79 0)), (10, (.fn (.func 84) [] [(.ptr b85 0), (.ptr b88 0), (.ptr b82 0)]))], [11], (atC Try.prog 73 [1, 1, 0, 0]), (atC Try.prog 73 [1, 1, 0, 1]), b91⟩), .obj b59 (.row 22 .whole [s56]), .vec 3 1 l56.length s56 (l56.flatMap enc3), .obj b79 (.row 83 .whole [(.yield b76)]), .obj b76 (.loop ⟨.ready, none, 72, 16, treeOf [(2, (.ptr b66 0)), (3, (.ptr b74 0)), (5, (.fn (.func 73) [] [(.ptr b45 0), (.ptr b48 0), (.ptr b51 0), (.ptr b59 0)]))], [6], (atC Try.prog 72 [1, 1, 0, 0]), (atC Try.prog 72 [1, 1, 0, 1]), b77⟩), .obj b66 (.row 83 .whole [(.fn (.func 40) [] [(.ptr b22 0)])]), .obj b22 (.row 3 .whole [(.int .i64 c22_0)]), .obj b74 (.row 83 .whole [(.yield b71)]), .obj b71 (.loop ⟨.ready, none, 71, 13, treeOf [(2, (.ptr b69 0)), (4, .nils), (6, (.fn (.func 72) [] [(.ptr b63 0), (.ptr b66 0)]))], [7], (atC Try.prog 71 [1, 0, 1, 0, 0]), (atC Try.prog 71 [1, 0, 1, 0, 1]), b72⟩), .obj b69 (.row 36 .whole [s92]), .vec 44 5 l92.length s92 (l92.flatMap enc44), .obj b63 (.row 86 .whole [(.fn (.func 73) [] [(.ptr b45 0), (.ptr b48 0), (.ptr b51 0), (.ptr b59 0)])]), .obj b45 (.row 80 .whole [(.int .i64 c45.live), (.int .i64 c45.window), (.int .i64 c45.step)]), .obj b48 (.row 33 .whole [sc48_0]), .obj b51 (.row 33 .whole [sc51_0]), .obj b72 .defd, .obj b77 .defd, .obj b85 (.row 33 .whole [sc85_0]), .obj b88 (.row 33 .whole [sc88_0]), .obj b82 (.row 80 .whole [(.int .i64 c82.live), (.int .i64 c82.window), (.int .i64 c82.step)]), .obj b91 .defd, .obj b98 (.row 73 .whole [(.int .i64 c98.Time), (.int .i64 c98.Loud), (.int .i64 c98.Template)])]), hd2 v5 v10 v11 v12 v17 v18 v19 c22_0 c45 c48_0 c51_0 c85_0 c88_0 c82 c98 l56 l92 = some r → Run Try.prog ⟨⟨84, [], none⟩, [.mk ⟨73, [b91], none⟩ 21 (treeOf []) [.inRange b90, .inBlock 0], .mk ⟨72, [b77], none⟩ 16 (treeOf []) [.inRange b76, .inBlock 0], .mk ⟨71, [b72], none⟩ 13 (treeOf [(2, (.ptr b69 0))]) [.inRange b71, .inBlock 0, codeC Try.prog 71 [1, 1]], .mk ⟨41, [], none⟩ 5 (treeOf []) [itemC Try.prog 41 [1, 0] 1, codeC Try.prog 41 [1, 1]], .mk ⟨14, [], none⟩ 44 (treeOf []) [itemC Try.prog 14 [1, 1, 1, 1, 0] 6, codeC Try.prog 14 [1, 1, 1, 1, 1]]]⟩ 56 (search_Candidates_post r) [(0, (.yield b90)), (2, (.ptr b88 0)), (3, (.ptr b82 0)), (5, (.int .i64 v5)), (6, (.ptr b98 0)), (10, sv10), (11, (.int .i64 v11)), (12, (.int .i64 v12)), (17, sv17), (18, (.int .i64 v18)), (19, (.int .i64 v19))] [codeC Try.prog 84 [1, 0, 0, 1, 1, 0, 0, 1, 1, 0, 0], loopC Try.prog 84 [1, 0, 0, 1, 1, 0, 0, 1, 1, 0, 0], .inBlock 2, .inBlock 1, codeC Try.prog 84 [1, 0, 0, 1, 1, 1], loopC Try.prog 84 [1, 0, 0], .inBlock 0] M) : ∀ (v5_f2 : Int) (v10_f2 : (List S_api_Trigger)) (v11_f2 v12_f2 : Int) (v17_f2 : (List S_api_Trigger)) (v18_f2 v19_f2 : Int) (v41_f2 : Bool) (c22_0 : Int) (c45 : S_search_clock) (c48_0 c51_0 c85_0 c88_0 : (List S_api_Trigger)) (c82 : S_search_clock) (c98 : S_api_Trigger) (l139 : (List S_api_Candidate)) (l56 : (List Int)) (sv10_f2 sv17_f2 sc48_0 sc51_0 sc85_0 sc88_0 : SV) (b76 b66 b22 b74 b71 b69 : Pos) (s139 : SV) (b63 b45 b48 b51 b59 : Pos) (s56 : SV) (b72 b77 b90 b79 b85 b88 b82 b91 b98 : Pos) (Fr : Rd) (M : Mem) (r : (List S_api_Candidate) × Int) (hv10_f2 : Slc Fr 3 (FlatR enc73) sv10_f2 v10_f2) (hv17_f2 : Slc Fr 3 (FlatR enc73) sv17_f2 v17_f2) (hc48_0 : Slc Fr 3 (FlatR enc73) sc48_0 c48_0) (hc51_0 : Slc Fr 3 (FlatR enc73) sc51_0 c51_0) (hc85_0 : Slc Fr 3 (FlatR enc73) sc85_0 c85_0) (hc88_0 : Slc Fr 3 (FlatR enc73) sc88_0 c88_0) (hH : Has Fr M [.obj b76 (.loop ⟨.busy, none, 72, 16, treeOf [(2, (.ptr b66 0)), (3, (.ptr b74 0)), (5, (.fn (.func 73) [] [(.ptr b45 0), (.ptr b48 0), (.ptr b51 0), (.ptr b59 0)]))], [6], (atC Try.prog 72 [1, 1, 0, 0]), (atC Try.prog 72 [1, 1, 0, 1]), b77⟩), .obj b66 (.row 83 .whole [(.fn (.func 40) [] [(.ptr b22 0)])]), .obj b22 (.row 3 .whole [(.int .i64 c22_0)]), .obj b74 (.row 83 .whole [(.yield b71)]), .obj b71 (.loop ⟨.ready, none, 71, 13, treeOf [(2, (.ptr b69 0)), (4, .nils), (6, (.fn (.func 72) [] [(.ptr b63 0), (.ptr b66 0)]))], [7], (atC Try.prog 71 [1, 0, 1, 0, 0]), (atC Try.prog 71 [1, 0, 1, 0, 1]), b72⟩), .obj b69 (.row 36 .whole [s139]), .vec 44 5 l139.length s139 (l139.flatMap enc44), .obj b63 (.row 86 .whole [(.fn (.func 73) [] [(.ptr b45 0), (.ptr b48 0), (.ptr b51 0), (.ptr b59 0)])]), .obj b45 (.row 80 .whole [(.int .i64 c45.live), (.int .i64 c45.window), (.int .i64 c45.step)]), .obj b48 (.row 33 .whole [sc48_0]), .obj b51 (.row 33 .whole [sc51_0]), .obj b59 (.row 22 .whole [s56]), .vec 3 1 l56.length s56 (l56.flatMap enc3), .obj b72 .defd, .obj b77 .defd, .obj b90 (.loop ⟨.busy, none, 73, 21, treeOf [(4, (.ptr b59 0)), (5, (.ptr b79 0)), (10, (.fn (.func 84) [] [(.ptr b85 0), (.ptr b88 0), (.ptr b82 0)]))], [11], (atC Try.prog 73 [1, 1, 0, 0]), (atC Try.prog 73 [1, 1, 0, 1]), b91⟩), .obj b79 (.row 83 .whole [(.yield b76)]), .obj b85 (.row 33 .whole [sc85_0]), .obj b88 (.row 33 .whole [sc88_0]), .obj b82 (.row 80 .whole [(.int .i64 c82.live), (.int .i64 c82.window), (.int .i64 c82.step)]), .obj b91 .defd, .obj b98 (.row 73 .whole [(.int .i64 c98.Time), (.int .i64 c98.Loud), (.int .i64 c98.Template)])]), search_Candidates_4 F hd2 v5_f2 v10_f2 v11_f2 v12_f2 v17_f2 v18_f2 v19_f2 v41_f2 c22_0 c45 c48_0 c51_0 c85_0 c88_0 c82 c98 l139 l56 = some r → Run Try.prog ⟨⟨72, [], some b76⟩, [.mk ⟨73, [], some b90⟩ 21 (treeOf []) [itemC Try.prog 73 [1, 1, 0, 1, 0, 0] 7, codeC Try.prog 73 [1, 1, 0, 1, 0, 1], .inBlock 1], .mk ⟨84, [], none⟩ 56 (treeOf [(0, (.yield b90)), (2, (.ptr b88 0)), (3, (.ptr b82 0)), (5, (.int .i64 v5_f2)), (6, (.ptr b98 0)), (10, sv10_f2), (11, (.int .i64 v11_f2)), (12, (.int .i64 v12_f2)), (17, sv17_f2), (18, (.int .i64 v18_f2)), (19, (.int .i64 v19_f2)), (41, (.bool v41_f2))]) [itemC Try.prog 84 [1, 0, 0, 1, 1, 0, 0, 1, 1, 0, 0, 1, 1, 0, 0, 1, 1, 0] 11, codeC Try.prog 84 [1, 0, 0, 1, 1, 0, 0, 1, 1, 0, 0, 1, 1, 0, 0, 1, 1, 1], .inBlock 3, codeC Try.prog 84 [1, 0, 0, 1, 1, 0, 0, 1, 1, 0, 0, 1, 1, 1], loopC Try.prog 84 [1, 0, 0, 1, 1, 0, 0, 1, 1, 0, 0], .inBlock 2, .inBlock 1, codeC Try.prog 84 [1, 0, 0, 1, 1, 1], loopC Try.prog 84 [1, 0, 0], .inBlock 0], .mk ⟨73, [b91], none⟩ 21 (treeOf []) [.inRange b90, .inBlock 0], .mk ⟨72, [b77], none⟩ 16 (treeOf []) [.inRange b76, .inBlock 0], .mk ⟨71, [b72], none⟩ 13 (treeOf [(2, (.ptr b69 0))]) [.inRange b71, .inBlock 0, codeC Try.prog 71 [1, 1]], .mk ⟨41, [], none⟩ 5 (treeOf []) [itemC Try.prog 41 [1, 0] 1, codeC Try.prog 41 [1, 1]], .mk ⟨14, [], none⟩ 44 (treeOf []) [itemC Try.prog 14 [1, 1, 1, 1, 0] 6, codeC Try.prog 14 [1, 1, 1, 1, 1]]]⟩ 16 (search_Candidates_post r) [(15, (.bool false))] [codeC Try.prog 72 [1, 1, 0, 1, 0, 1], .inBlock 1] M := by
  intro v5_f2 v10_f2 v11_f2 v12_f2 v17_f2 v18_f2 v19_f2 v41_f2 c22_0 c45 c48_0 c51_0 c85_0 c88_0 c82 c98 l139 l56 sv10_f2 sv17_f2 sc48_0 sc51_0 sc85_0 sc88_0 b76 b66 b22 b74 b71 b69 s139 b63 b45 b48 b51 b59 s56 b72 b77 b90 b79 b85 b88 b82 b91 b98 Fr M r hv10_f2 hv17_f2 hc48_0 hc51_0 hc85_0 hc88_0 hH h
  rw [search_Candidates_4] at h
  refine Run.condF' rfl rfl ?_
  refine Run.skip (Run.inBlock ?_)
  refine Run.roundEndX hH (i := 0) rfl rfl ?_
  intro M143 (hH143 : Has Fr M143 [.obj b76 (.loop ⟨.ready, none, 72, 16, treeOf [(2, (.ptr b66 0)), (3, (.ptr b74 0)), (5, (.fn (.func 73) [] [(.ptr b45 0), (.ptr b48 0), (.ptr b51 0), (.ptr b59 0)]))], [6], (atC Try.prog 72 [1, 1, 0, 0]), (atC Try.prog 72 [1, 1, 0, 1]), b77⟩), .obj b66 (.row 83 .whole [(.fn (.func 40) [] [(.ptr b22 0)])]), .obj b22 (.row 3 .whole [(.int .i64 c22_0)]), .obj b74 (.row 83 .whole [(.yield b71)]), .obj b71 (.loop ⟨.ready, none, 71, 13, treeOf [(2, (.ptr b69 0)), (4, .nils), (6, (.fn (.func 72) [] [(.ptr b63 0), (.ptr b66 0)]))], [7], (atC Try.prog 71 [1, 0, 1, 0, 0]), (atC Try.prog 71 [1, 0, 1, 0, 1]), b72⟩), .obj b69 (.row 36 .whole [s139]), .vec 44 5 l139.length s139 (l139.flatMap enc44), .obj b63 (.row 86 .whole [(.fn (.func 73) [] [(.ptr b45 0), (.ptr b48 0), (.ptr b51 0), (.ptr b59 0)])]), .obj b45 (.row 80 .whole [(.int .i64 c45.live), (.int .i64 c45.window), (.int .i64 c45.step)]), .obj b48 (.row 33 .whole [sc48_0]), .obj b51 (.row 33 .whole [sc51_0]), .obj b59 (.row 22 .whole [s56]), .vec 3 1 l56.length s56 (l56.flatMap enc3), .obj b72 .defd, .obj b77 .defd, .obj b90 (.loop ⟨.busy, none, 73, 21, treeOf [(4, (.ptr b59 0)), (5, (.ptr b79 0)), (10, (.fn (.func 84) [] [(.ptr b85 0), (.ptr b88 0), (.ptr b82 0)]))], [11], (atC Try.prog 73 [1, 1, 0, 0]), (atC Try.prog 73 [1, 1, 0, 1]), b91⟩), .obj b79 (.row 83 .whole [(.yield b76)]), .obj b85 (.row 33 .whole [sc85_0]), .obj b88 (.row 33 .whole [sc88_0]), .obj b82 (.row 80 .whole [(.int .i64 c82.live), (.int .i64 c82.window), (.int .i64 c82.step)]), .obj b91 .defd, .obj b98 (.row 73 .whole [(.int .i64 c98.Time), (.int .i64 c98.Loud), (.int .i64 c98.Template)])])
  refine Run.opG wantS_none (ex_not rfl) rfl ?_
  refine Run.opsEnd ?_
  refine Run.condF' rfl rfl ?_
  refine Run.skip (Run.inBlock ?_)
  refine Run.roundEndX hH143 (i := 15) rfl rfl ?_
  intro M144 (hH144 : Has Fr M144 [.obj b76 (.loop ⟨.ready, none, 72, 16, treeOf [(2, (.ptr b66 0)), (3, (.ptr b74 0)), (5, (.fn (.func 73) [] [(.ptr b45 0), (.ptr b48 0), (.ptr b51 0), (.ptr b59 0)]))], [6], (atC Try.prog 72 [1, 1, 0, 0]), (atC Try.prog 72 [1, 1, 0, 1]), b77⟩), .obj b66 (.row 83 .whole [(.fn (.func 40) [] [(.ptr b22 0)])]), .obj b22 (.row 3 .whole [(.int .i64 c22_0)]), .obj b74 (.row 83 .whole [(.yield b71)]), .obj b71 (.loop ⟨.ready, none, 71, 13, treeOf [(2, (.ptr b69 0)), (4, .nils), (6, (.fn (.func 72) [] [(.ptr b63 0), (.ptr b66 0)]))], [7], (atC Try.prog 71 [1, 0, 1, 0, 0]), (atC Try.prog 71 [1, 0, 1, 0, 1]), b72⟩), .obj b69 (.row 36 .whole [s139]), .vec 44 5 l139.length s139 (l139.flatMap enc44), .obj b63 (.row 86 .whole [(.fn (.func 73) [] [(.ptr b45 0), (.ptr b48 0), (.ptr b51 0), (.ptr b59 0)])]), .obj b45 (.row 80 .whole [(.int .i64 c45.live), (.int .i64 c45.window), (.int .i64 c45.step)]), .obj b48 (.row 33 .whole [sc48_0]), .obj b51 (.row 33 .whole [sc51_0]), .obj b59 (.row 22 .whole [s56]), .vec 3 1 l56.length s56 (l56.flatMap enc3), .obj b72 .defd, .obj b77 .defd, .obj b90 (.loop ⟨.ready, none, 73, 21, treeOf [(4, (.ptr b59 0)), (5, (.ptr b79 0)), (10, (.fn (.func 84) [] [(.ptr b85 0), (.ptr b88 0), (.ptr b82 0)]))], [11], (atC Try.prog 73 [1, 1, 0, 0]), (atC Try.prog 73 [1, 1, 0, 1]), b91⟩), .obj b79 (.row 83 .whole [(.yield b76)]), .obj b85 (.row 33 .whole [sc85_0]), .obj b88 (.row 33 .whole [sc88_0]), .obj b82 (.row 80 .whole [(.int .i64 c82.live), (.int .i64 c82.window), (.int .i64 c82.step)]), .obj b91 .defd, .obj b98 (.row 73 .whole [(.int .i64 c98.Time), (.int .i64 c98.Loud), (.int .i64 c98.Template)])])
  rcases btf (v41_f2) with hc145 | hc145
  · have h := bif_t hc145 h
    refine Run.opG (wantS_yes' rfl rfl hc145) (ex_not rfl) rfl ?_
    refine Run.opG wantS_none (ex_pickT' rfl hc145 rfl rfl) rfl ?_
    refine Run.opsEnd ?_
    exact Run.low (.cons (fle_pick [] rfl) (.cons (fle_pick [] rfl) (.cons (fle_pick [2] rfl) (.cons (fle_pick [] rfl) (.cons (fle_pick [] rfl) .nil))))) (Run.pick [0, 2, 3, 5, 6, 10, 11, 12, 17, 18, 19, 53] (search_Candidates_5_ok F hd2 hhd2 v5_f2 v10_f2 v11_f2 v12_f2 v17_f2 v18_f2 v19_f2 c22_0 c45 c48_0 c51_0 c85_0 c88_0 c82 c98 l56 l139 sv10_f2 sv17_f2 sc48_0 sc51_0 sc85_0 sc88_0 b90 b59 s56 b79 b76 b66 b22 b74 b71 b69 s139 b63 b45 b48 b51 b72 b77 b85 b88 b82 b91 b98 _ _ _ hv10_f2 hv17_f2 hc48_0 hc51_0 hc85_0 hc88_0 (hH144.pick [15, 11, 12, 16, 0, 1, 2, 3, 4, 5, 6, 7, 8, 9, 10, 13, 14, 17, 18, 19, 20, 21] rfl rfl) h))
  · have h := bif_f hc145 h
    refine Run.no (wantS_not' rfl rfl hc145) rfl ?_
    refine Run.opG wantS_none (ex_pickF' rfl hc145 rfl rfl) rfl ?_
    refine Run.opsEnd ?_
    exact Run.low (.cons (fle_pick [] rfl) (.cons (fle_pick [] rfl) (.cons (fle_pick [2] rfl) (.cons (fle_pick [] rfl) (.cons (fle_pick [] rfl) .nil))))) (Run.pick [0, 2, 3, 5, 6, 10, 11, 12, 17, 18, 19, 53] (search_Candidates_5_ok F hd2 hhd2 v5_f2 v10_f2 v11_f2 v12_f2 v17_f2 v18_f2 v19_f2 c22_0 c45 c48_0 c51_0 c85_0 c88_0 c82 c98 l56 l139 sv10_f2 sv17_f2 sc48_0 sc51_0 sc85_0 sc88_0 b90 b59 s56 b79 b76 b66 b22 b74 b71 b69 s139 b63 b45 b48 b51 b72 b77 b85 b88 b82 b91 b98 _ _ _ hv10_f2 hv17_f2 hc48_0 hc51_0 hc85_0 hc88_0 (hH144.pick [15, 11, 12, 16, 0, 1, 2, 3, 4, 5, 6, 7, 8, 9, 10, 13, 14, 17, 18, 19, 20, 21] rfl rfl) h))

def search_Candidates_3 (F : Nat) (hd2 : Int → (List S_api_Trigger) → Int → Int → (List S_api_Trigger) → Int → Int → Int → S_search_clock → (List S_api_Trigger) → (List S_api_Trigger) → (List S_api_Trigger) → (List S_api_Trigger) → S_search_clock → S_api_Trigger → (List Int) → (List S_api_Candidate) → Option ((List S_api_Candidate) × Int)) (v5 v7 : Int) (v9 : Bool) (v10 : (List S_api_Trigger)) (v11 v12 : Int) (v17 : (List S_api_Trigger)) (v18 v19 c22_0 : Int) (c45 : S_search_clock) (c48_0 c51_0 c85_0 c88_0 : (List S_api_Trigger)) (c82 : S_search_clock) (c98 c105 : S_api_Trigger) (l56 : (List Int)) (l92 : (List S_api_Candidate)) : Option ((List S_api_Candidate) × Int) :=
  bif v9 then
    bnd (search_chance F l56 (w64 (c98.Loud + c105.Loud))) fun r117 =>
    bif (decide (r117.N ≤ c22_0)) then
      bnd (apd 40 l92 ([(S_api_Candidate.mk (S_api_Pair.mk v5 v7 (w64 (c98.Loud + c105.Loud))) r117)] : List S_api_Candidate)) fun l138 =>
      search_Candidates_4 F hd2 v5 v10 v11 v12 v17 v18 v19 v9 c22_0 c45 c48_0 c51_0 c85_0 c88_0 c82 c98 l138 l56
    else
      search_Candidates_4 F hd2 v5 v10 v11 v12 v17 v18 v19 v9 c22_0 c45 c48_0 c51_0 c85_0 c88_0 c82 c98 l92 l56
  else
    search_Candidates_5 F hd2 v5 v10 v11 v12 v17 v18 v19 c22_0 c45 c48_0 c51_0 c85_0 c88_0 c82 c98 l56 l92

theorem search_Candidates_3_ok (F : Nat) (hd2 : Int → (List S_api_Trigger) → Int → Int → (List S_api_Trigger) → Int → Int → Int → S_search_clock → (List S_api_Trigger) → (List S_api_Trigger) → (List S_api_Trigger) → (List S_api_Trigger) → S_search_clock → S_api_Trigger → (List Int) → (List S_api_Candidate) → Option ((List S_api_Candidate) × Int)) (hhd2 : ∀ (v5 : Int) (v10 : (List S_api_Trigger)) (v11 v12 : Int) (v17 : (List S_api_Trigger)) (v18 v19 c22_0 : Int) (c45 : S_search_clock) (c48_0 c51_0 c85_0 c88_0 : (List S_api_Trigger)) (c82 : S_search_clock) (c98 : S_api_Trigger) (l56 : (List Int)) (l92 : (List S_api_Candidate)) (sv10 sv17 sc48_0 sc51_0 sc85_0 sc88_0 : SV) (b90 b59 : Pos) (s56 : SV) (b79 b76 b66 b22 b74 b71 b69 : Pos) (s92 : SV) (b63 b45 b48 b51 b72 b77 b85 b88 b82 b91 b98 : Pos) (Fr : Rd) (M : Mem) (r : (List S_api_Candidate) × Int) (hv10 : Slc Fr 3 (FlatR enc73) sv10 v10) (hv17 : Slc Fr 3 (FlatR enc73) sv17 v17) (hc48_0 : Slc Fr 3 (FlatR enc73) sc48_0 c48_0) (hc51_0 : Slc Fr 3 (FlatR enc73) sc51_0 c51_0) (hc85_0 : Slc Fr 3 (FlatR enc73) sc85_0 c85_0) (hc88_0 : Slc Fr 3 (FlatR enc73) sc88_0 c88_0) (hH : Has Fr M [.obj b90 (.loop ⟨.ready, none, 73, 21, treeOf [(4, (.ptr b59 0)), (5, (.ptr b79 0)), (10, (.fn (.func 84) [] [(.ptr b85 0), (.ptr b88 0), (.ptr b82 0)]))], [11], (atC Try.prog 73 [1, 1, 0, 0]), (atC Try.prog 73 [1, 1, 0, 1]), b91⟩), .obj b59 (.row 22 .whole [s56]), .vec 3 1 l56.length s56 (l56.flatMap enc3), .obj b79 (.row 83 .whole [(.yield b76)]), .obj b76 (.loop ⟨.ready, none, 72, 16, treeOf [(2, (.ptr b66 0)), (3, (.ptr b74 0)), (5, (.fn (.func 73) [] [(.ptr b45 0), (.ptr b48 0), (.ptr b51 0), (.ptr b59 0)]))], [6], (atC Try.prog 72 [1, 1, 0, 0]), (atC Try.prog 72 [1, 1, 0, 1]), b77⟩), .obj b66 (.row 83 .whole [(.fn (.func 40) [] [(.ptr b22 0)])]), .obj b22 (.row 3 .whole [(.int .i64 c22_0)]), .obj b74 (.row 83 .whole [(.yield b71)]), .obj b71 (.loop ⟨.ready, none, 71, 13, treeOf [(2, (.ptr b69 0)), (4, .nils), (6, (.fn (.func 72) [] [(.ptr b63 0), (.ptr b66 0)]))], [7], (atC Try.prog 71 [1, 0, 1, 0, 0]), (atC Try.prog 71 [1, 0, 1, 0, 1]), b72⟩), .obj b69 (.row 36 .whole [s92]), .vec 44 5 l92.length s92 (l92.flatMap enc44), .obj b63 (.row 86 .whole [(.fn (.func 73) [] [(.ptr b45 0), (.ptr b48 0), (.ptr b51 0), (.ptr b59 0)])]), .obj b45 (.row 80 .whole [(.int .i64 c45.live), (.int .i64 c45.window), (.int .i64 c45.step)]), .obj b48 (.row 33 .whole [sc48_0]), .obj b51 (.row 33 .whole [sc51_0]), .obj b72 .defd, .obj b77 .defd, .obj b85 (.row 33 .whole [sc85_0]), .obj b88 (.row 33 .whole [sc88_0]), .obj b82 (.row 80 .whole [(.int .i64 c82.live), (.int .i64 c82.window), (.int .i64 c82.step)]), .obj b91 .defd, .obj b98 (.row 73 .whole [(.int .i64 c98.Time), (.int .i64 c98.Loud), (.int .i64 c98.Template)])]), hd2 v5 v10 v11 v12 v17 v18 v19 c22_0 c45 c48_0 c51_0 c85_0 c88_0 c82 c98 l56 l92 = some r → Run Try.prog ⟨⟨84, [], none⟩, [.mk ⟨73, [b91], none⟩ 21 (treeOf []) [.inRange b90, .inBlock 0], .mk ⟨72, [b77], none⟩ 16 (treeOf []) [.inRange b76, .inBlock 0], .mk ⟨71, [b72], none⟩ 13 (treeOf [(2, (.ptr b69 0))]) [.inRange b71, .inBlock 0, codeC Try.prog 71 [1, 1]], .mk ⟨41, [], none⟩ 5 (treeOf []) [itemC Try.prog 41 [1, 0] 1, codeC Try.prog 41 [1, 1]], .mk ⟨14, [], none⟩ 44 (treeOf []) [itemC Try.prog 14 [1, 1, 1, 1, 0] 6, codeC Try.prog 14 [1, 1, 1, 1, 1]]]⟩ 56 (search_Candidates_post r) [(0, (.yield b90)), (2, (.ptr b88 0)), (3, (.ptr b82 0)), (5, (.int .i64 v5)), (6, (.ptr b98 0)), (10, sv10), (11, (.int .i64 v11)), (12, (.int .i64 v12)), (17, sv17), (18, (.int .i64 v18)), (19, (.int .i64 v19))] [codeC Try.prog 84 [1, 0, 0, 1, 1, 0, 0, 1, 1, 0, 0], loopC Try.prog 84 [1, 0, 0, 1, 1, 0, 0, 1, 1, 0, 0], .inBlock 2, .inBlock 1, codeC Try.prog 84 [1, 0, 0, 1, 1, 1], loopC Try.prog 84 [1, 0, 0], .inBlock 0] M) : ∀ (v5 v7 : Int) (v9 : Bool) (v10 : (List S_api_Trigger)) (v11 v12 : Int) (v17 : (List S_api_Trigger)) (v18 v19 c22_0 : Int) (c45 : S_search_clock) (c48_0 c51_0 c85_0 c88_0 : (List S_api_Trigger)) (c82 : S_search_clock) (c98 c105 : S_api_Trigger) (l56 : (List Int)) (l92 : (List S_api_Candidate)) (sv10 sv17 sc48_0 sc51_0 sc85_0 sc88_0 : SV) (b90 b59 : Pos) (s56 : SV) (b79 b76 b66 b22 b74 b71 b69 : Pos) (s92 : SV) (b63 b45 b48 b51 b72 b77 b85 b88 b82 b91 b98 b105 : Pos) (Fr : Rd) (M : Mem) (r : (List S_api_Candidate) × Int) (hv10 : Slc Fr 3 (FlatR enc73) sv10 v10) (hv17 : Slc Fr 3 (FlatR enc73) sv17 v17) (hc48_0 : Slc Fr 3 (FlatR enc73) sc48_0 c48_0) (hc51_0 : Slc Fr 3 (FlatR enc73) sc51_0 c51_0) (hc85_0 : Slc Fr 3 (FlatR enc73) sc85_0 c85_0) (hc88_0 : Slc Fr 3 (FlatR enc73) sc88_0 c88_0) (hH : Has Fr M [.obj b90 (.loop ⟨.ready, none, 73, 21, treeOf [(4, (.ptr b59 0)), (5, (.ptr b79 0)), (10, (.fn (.func 84) [] [(.ptr b85 0), (.ptr b88 0), (.ptr b82 0)]))], [11], (atC Try.prog 73 [1, 1, 0, 0]), (atC Try.prog 73 [1, 1, 0, 1]), b91⟩), .obj b59 (.row 22 .whole [s56]), .vec 3 1 l56.length s56 (l56.flatMap enc3), .obj b79 (.row 83 .whole [(.yield b76)]), .obj b76 (.loop ⟨.ready, none, 72, 16, treeOf [(2, (.ptr b66 0)), (3, (.ptr b74 0)), (5, (.fn (.func 73) [] [(.ptr b45 0), (.ptr b48 0), (.ptr b51 0), (.ptr b59 0)]))], [6], (atC Try.prog 72 [1, 1, 0, 0]), (atC Try.prog 72 [1, 1, 0, 1]), b77⟩), .obj b66 (.row 83 .whole [(.fn (.func 40) [] [(.ptr b22 0)])]), .obj b22 (.row 3 .whole [(.int .i64 c22_0)]), .obj b74 (.row 83 .whole [(.yield b71)]), .obj b71 (.loop ⟨.ready, none, 71, 13, treeOf [(2, (.ptr b69 0)), (4, .nils), (6, (.fn (.func 72) [] [(.ptr b63 0), (.ptr b66 0)]))], [7], (atC Try.prog 71 [1, 0, 1, 0, 0]), (atC Try.prog 71 [1, 0, 1, 0, 1]), b72⟩), .obj b69 (.row 36 .whole [s92]), .vec 44 5 l92.length s92 (l92.flatMap enc44), .obj b63 (.row 86 .whole [(.fn (.func 73) [] [(.ptr b45 0), (.ptr b48 0), (.ptr b51 0), (.ptr b59 0)])]), .obj b45 (.row 80 .whole [(.int .i64 c45.live), (.int .i64 c45.window), (.int .i64 c45.step)]), .obj b48 (.row 33 .whole [sc48_0]), .obj b51 (.row 33 .whole [sc51_0]), .obj b72 .defd, .obj b77 .defd, .obj b85 (.row 33 .whole [sc85_0]), .obj b88 (.row 33 .whole [sc88_0]), .obj b82 (.row 80 .whole [(.int .i64 c82.live), (.int .i64 c82.window), (.int .i64 c82.step)]), .obj b91 .defd, .obj b98 (.row 73 .whole [(.int .i64 c98.Time), (.int .i64 c98.Loud), (.int .i64 c98.Template)]), .obj b105 (.row 73 .whole [(.int .i64 c105.Time), (.int .i64 c105.Loud), (.int .i64 c105.Template)])]), search_Candidates_3 F hd2 v5 v7 v9 v10 v11 v12 v17 v18 v19 c22_0 c45 c48_0 c51_0 c85_0 c88_0 c82 c98 c105 l56 l92 = some r → Run Try.prog ⟨⟨84, [], none⟩, [.mk ⟨73, [b91], none⟩ 21 (treeOf []) [.inRange b90, .inBlock 0], .mk ⟨72, [b77], none⟩ 16 (treeOf []) [.inRange b76, .inBlock 0], .mk ⟨71, [b72], none⟩ 13 (treeOf [(2, (.ptr b69 0))]) [.inRange b71, .inBlock 0, codeC Try.prog 71 [1, 1]], .mk ⟨41, [], none⟩ 5 (treeOf []) [itemC Try.prog 41 [1, 0] 1, codeC Try.prog 41 [1, 1]], .mk ⟨14, [], none⟩ 44 (treeOf []) [itemC Try.prog 14 [1, 1, 1, 1, 0] 6, codeC Try.prog 14 [1, 1, 1, 1, 1]]]⟩ 56 (search_Candidates_post r) [(0, (.yield b90)), (2, (.ptr b88 0)), (3, (.ptr b82 0)), (5, (.int .i64 v5)), (6, (.ptr b98 0)), (7, (.int .i64 v7)), (8, (.ptr b105 0)), (9, (.bool v9)), (10, sv10), (11, (.int .i64 v11)), (12, (.int .i64 v12)), (17, sv17), (18, (.int .i64 v18)), (19, (.int .i64 v19))] [itemC Try.prog 84 [1, 0, 0, 1, 1, 0, 0, 1, 1, 0, 0, 1, 1, 0, 0, 1, 1, 0] 0, codeC Try.prog 84 [1, 0, 0, 1, 1, 0, 0, 1, 1, 0, 0, 1, 1, 0, 0, 1, 1, 1], .inBlock 3, codeC Try.prog 84 [1, 0, 0, 1, 1, 0, 0, 1, 1, 0, 0, 1, 1, 1], loopC Try.prog 84 [1, 0, 0, 1, 1, 0, 0, 1, 1, 0, 0], .inBlock 2, .inBlock 1, codeC Try.prog 84 [1, 0, 0, 1, 1, 1], loopC Try.prog 84 [1, 0, 0], .inBlock 0] M := by
  intro v5 v7 v9 v10 v11 v12 v17 v18 v19 c22_0 c45 c48_0 c51_0 c85_0 c88_0 c82 c98 c105 l56 l92 sv10 sv17 sc48_0 sc51_0 sc85_0 sc88_0 b90 b59 s56 b79 b76 b66 b22 b74 b71 b69 s92 b63 b45 b48 b51 b72 b77 b85 b88 b82 b91 b98 b105 Fr M r hv10 hv17 hc48_0 hc51_0 hc85_0 hc88_0 hH h
  rw [search_Candidates_3] at h
  refine Run.opG wantS_none (ex_move rfl) rfl ?_
  refine Run.opG wantS_none (ex_move rfl) rfl ?_
  rcases btf (v9) with hc111 | hc111
  · have h := bif_t hc111 h
    refine Run.opG (wantS_yes' rfl rfl hc111) (ex_move rfl) rfl ?_
    refine Run.opG (wantS_yes' rfl rfl hc111) (ex_move rfl) rfl ?_
    refine Run.opG (wantS_yes' rfl rfl hc111) (ex_move rfl) rfl ?_
    refine Run.opG (wantS_yes' rfl rfl hc111) (ex_fieldAddr rfl off73_1) rfl ?_
    refine Run.opG (wantS_yes' rfl rfl hc111) (ex_load1 rfl (hH.cells (i := 21) rfl 1 rfl) rdLe_rfl agg3) rfl ?_
    refine Run.opG (wantS_yes' rfl rfl hc111) (ex_fieldAddr rfl off73_1) rfl ?_
    refine Run.opG (wantS_yes' rfl rfl hc111) (ex_load1 rfl (hH.cells (i := 22) rfl 1 rfl) rdLe_rfl agg3) rfl ?_
    refine Run.opG (wantS_yes' rfl rfl hc111) (ex_add rfl rfl) rfl ?_
    refine Run.opG (wantS_yes' rfl rfl hc111) (ex_build (r := [(.int .i64 v5), (.int .i64 v7), (.int .i64 (w64 (c98.Loud + c105.Loud)))]) rfl zer40 pls40 rfl) rfl ?_
    refine Run.round (e' := [(11, (.agg [(.int .i64 v5), (.int .i64 v7), (.int .i64 (w64 (c98.Loud + c105.Loud)))])), (4, (.ptr b59 0)), (5, (.ptr b79 0)), (10, (.fn (.func 84) [] [(.ptr b85 0), (.ptr b88 0), (.ptr b82 0)]))]) (wantS_yes' rfl rfl hc111) (ex_yield hH (i := 0) rfl rfl rfl rfl) (hH.loopOf (i := 0) rfl) rfl ?_
    refine Run.region ?_
    refine Run.opX wantS_none rfl (ExG.new (v := fun b => .ptr b 0) (ex_alloc zer40) hH) ?_
    rintro _ M114 ⟨b113, rfl, hH114⟩
    refine Run.opX wantS_none rfl (ExG.storeC (c' := [(.int .i64 v5), (.int .i64 v7), (.int .i64 (w64 (c98.Loud + c105.Loud)))]) rfl rfl rfl hH114 (i := 0) rfl sz40 rfl rfl rfl rfl rfl) ?_
    rintro _ M115 ⟨rfl, (hH115 : Has Fr M115 [.obj b113 (.row 40 .whole [(.int .i64 v5), (.int .i64 v7), (.int .i64 (w64 (c98.Loud + c105.Loud)))]), .obj b90 (.loop ⟨.ready, none, 73, 21, treeOf [(4, (.ptr b59 0)), (5, (.ptr b79 0)), (10, (.fn (.func 84) [] [(.ptr b85 0), (.ptr b88 0), (.ptr b82 0)]))], [11], (atC Try.prog 73 [1, 1, 0, 0]), (atC Try.prog 73 [1, 1, 0, 1]), b91⟩), .obj b59 (.row 22 .whole [s56]), .vec 3 1 l56.length s56 (l56.flatMap enc3), .obj b79 (.row 83 .whole [(.yield b76)]), .obj b76 (.loop ⟨.ready, none, 72, 16, treeOf [(2, (.ptr b66 0)), (3, (.ptr b74 0)), (5, (.fn (.func 73) [] [(.ptr b45 0), (.ptr b48 0), (.ptr b51 0), (.ptr b59 0)]))], [6], (atC Try.prog 72 [1, 1, 0, 0]), (atC Try.prog 72 [1, 1, 0, 1]), b77⟩), .obj b66 (.row 83 .whole [(.fn (.func 40) [] [(.ptr b22 0)])]), .obj b22 (.row 3 .whole [(.int .i64 c22_0)]), .obj b74 (.row 83 .whole [(.yield b71)]), .obj b71 (.loop ⟨.ready, none, 71, 13, treeOf [(2, (.ptr b69 0)), (4, .nils), (6, (.fn (.func 72) [] [(.ptr b63 0), (.ptr b66 0)]))], [7], (atC Try.prog 71 [1, 0, 1, 0, 0]), (atC Try.prog 71 [1, 0, 1, 0, 1]), b72⟩), .obj b69 (.row 36 .whole [s92]), .vec 44 5 l92.length s92 (l92.flatMap enc44), .obj b63 (.row 86 .whole [(.fn (.func 73) [] [(.ptr b45 0), (.ptr b48 0), (.ptr b51 0), (.ptr b59 0)])]), .obj b45 (.row 80 .whole [(.int .i64 c45.live), (.int .i64 c45.window), (.int .i64 c45.step)]), .obj b48 (.row 33 .whole [sc48_0]), .obj b51 (.row 33 .whole [sc51_0]), .obj b72 .defd, .obj b77 .defd, .obj b85 (.row 33 .whole [sc85_0]), .obj b88 (.row 33 .whole [sc88_0]), .obj b82 (.row 80 .whole [(.int .i64 c82.live), (.int .i64 c82.window), (.int .i64 c82.step)]), .obj b91 .defd, .obj b98 (.row 73 .whole [(.int .i64 c98.Time), (.int .i64 c98.Loud), (.int .i64 c98.Template)]), .obj b105 (.row 73 .whole [(.int .i64 c105.Time), (.int .i64 c105.Loud), (.int .i64 c105.Template)])])⟩
    refine Run.opsEnd ?_
    refine Run.beginX hH115 (i := 1) rfl rfl ?_
    intro M116 (hH116 : Has Fr M116 [.obj b113 (.row 40 .whole [(.int .i64 v5), (.int .i64 v7), (.int .i64 (w64 (c98.Loud + c105.Loud)))]), .obj b90 (.loop ⟨.busy, none, 73, 21, treeOf [(4, (.ptr b59 0)), (5, (.ptr b79 0)), (10, (.fn (.func 84) [] [(.ptr b85 0), (.ptr b88 0), (.ptr b82 0)]))], [11], (atC Try.prog 73 [1, 1, 0, 0]), (atC Try.prog 73 [1, 1, 0, 1]), b91⟩), .obj b59 (.row 22 .whole [s56]), .vec 3 1 l56.length s56 (l56.flatMap enc3), .obj b79 (.row 83 .whole [(.yield b76)]), .obj b76 (.loop ⟨.ready, none, 72, 16, treeOf [(2, (.ptr b66 0)), (3, (.ptr b74 0)), (5, (.fn (.func 73) [] [(.ptr b45 0), (.ptr b48 0), (.ptr b51 0), (.ptr b59 0)]))], [6], (atC Try.prog 72 [1, 1, 0, 0]), (atC Try.prog 72 [1, 1, 0, 1]), b77⟩), .obj b66 (.row 83 .whole [(.fn (.func 40) [] [(.ptr b22 0)])]), .obj b22 (.row 3 .whole [(.int .i64 c22_0)]), .obj b74 (.row 83 .whole [(.yield b71)]), .obj b71 (.loop ⟨.ready, none, 71, 13, treeOf [(2, (.ptr b69 0)), (4, .nils), (6, (.fn (.func 72) [] [(.ptr b63 0), (.ptr b66 0)]))], [7], (atC Try.prog 71 [1, 0, 1, 0, 0]), (atC Try.prog 71 [1, 0, 1, 0, 1]), b72⟩), .obj b69 (.row 36 .whole [s92]), .vec 44 5 l92.length s92 (l92.flatMap enc44), .obj b63 (.row 86 .whole [(.fn (.func 73) [] [(.ptr b45 0), (.ptr b48 0), (.ptr b51 0), (.ptr b59 0)])]), .obj b45 (.row 80 .whole [(.int .i64 c45.live), (.int .i64 c45.window), (.int .i64 c45.step)]), .obj b48 (.row 33 .whole [sc48_0]), .obj b51 (.row 33 .whole [sc51_0]), .obj b72 .defd, .obj b77 .defd, .obj b85 (.row 33 .whole [sc85_0]), .obj b88 (.row 33 .whole [sc88_0]), .obj b82 (.row 80 .whole [(.int .i64 c82.live), (.int .i64 c82.window), (.int .i64 c82.step)]), .obj b91 .defd, .obj b98 (.row 73 .whole [(.int .i64 c98.Time), (.int .i64 c98.Loud), (.int .i64 c98.Template)]), .obj b105 (.row 73 .whole [(.int .i64 c105.Time), (.int .i64 c105.Loud), (.int .i64 c105.Template)])])
    refine Run.block (Run.seq ?_)
    refine Run.headG seqp73_1_1_0_1_0_0 rfl rfl ?_
    refine PureG.val wantS_none (ex_load1 rfl (hH116.cells (i := 4) rfl 0 rfl) rdLe_rfl agg83) rfl ?_
    refine PureG.val wantS_none (ex_loadA rfl (hH116.cells (i := 0) rfl 0 rfl) rdLe_rfl agg40 rfl rfl rfl) rfl ?_
    refine PureG.val wantS_none (ex_load1 rfl (hH116.cells (i := 2) rfl 0 rfl) rdLe_rfl agg22) rfl ?_
    refine PureG.val wantS_none (ex_fieldAddr rfl off40_2) rfl ?_
    refine PureG.val wantS_none (ex_load1 rfl (hH116.cells (i := 0) rfl 2 rfl) rdLe_rfl agg3) rfl ?_
    obtain ⟨r117, hr117, h⟩ := bnd_some h
    refine PureG.callP wantS_none (ex_call rfl mkk60 cal60) rfl (search_chance_ok F l56 (w64 (c98.Loud + c105.Loud)) s56 _ _ (hH116.slc (i := 3) rfl enc3_len) hr117) ?_
    refine PureG.val wantS_none (ex_build (r := [(.int .i64 v5), (.int .i64 v7), (.int .i64 (w64 (c98.Loud + c105.Loud))), (.int .i64 r117.N), (.int .i64 r117.Of)]) rfl zer44 pls44 rfl) rfl ?_
    refine PureG.nil ?_
    refine SeqG.nil ?_
    refine Run.round (e' := [(6, (.agg [(.int .i64 v5), (.int .i64 v7), (.int .i64 (w64 (c98.Loud + c105.Loud))), (.int .i64 r117.N), (.int .i64 r117.Of)])), (2, (.ptr b66 0)), (3, (.ptr b74 0)), (5, (.fn (.func 73) [] [(.ptr b45 0), (.ptr b48 0), (.ptr b51 0), (.ptr b59 0)]))]) wantS_none (ex_yield hH116 (i := 5) rfl rfl rfl rfl) (hH116.loopOf (i := 5) rfl) rfl ?_
    refine Run.region ?_
    refine Run.opX wantS_none rfl (ExG.new (v := fun b => .ptr b 0) (ex_alloc zer44) hH116) ?_
    rintro _ M121 ⟨b120, rfl, hH121⟩
    refine Run.opX wantS_none rfl (ExG.storeC (c' := [(.int .i64 v5), (.int .i64 v7), (.int .i64 (w64 (c98.Loud + c105.Loud))), (.int .i64 r117.N), (.int .i64 r117.Of)]) rfl rfl rfl hH121 (i := 0) rfl sz44 rfl rfl rfl rfl rfl) ?_
    rintro _ M122 ⟨rfl, (hH122 : Has Fr M122 [.obj b120 (.row 44 .whole [(.int .i64 v5), (.int .i64 v7), (.int .i64 (w64 (c98.Loud + c105.Loud))), (.int .i64 r117.N), (.int .i64 r117.Of)]), .obj b113 (.row 40 .whole [(.int .i64 v5), (.int .i64 v7), (.int .i64 (w64 (c98.Loud + c105.Loud)))]), .obj b90 (.loop ⟨.busy, none, 73, 21, treeOf [(4, (.ptr b59 0)), (5, (.ptr b79 0)), (10, (.fn (.func 84) [] [(.ptr b85 0), (.ptr b88 0), (.ptr b82 0)]))], [11], (atC Try.prog 73 [1, 1, 0, 0]), (atC Try.prog 73 [1, 1, 0, 1]), b91⟩), .obj b59 (.row 22 .whole [s56]), .vec 3 1 l56.length s56 (l56.flatMap enc3), .obj b79 (.row 83 .whole [(.yield b76)]), .obj b76 (.loop ⟨.ready, none, 72, 16, treeOf [(2, (.ptr b66 0)), (3, (.ptr b74 0)), (5, (.fn (.func 73) [] [(.ptr b45 0), (.ptr b48 0), (.ptr b51 0), (.ptr b59 0)]))], [6], (atC Try.prog 72 [1, 1, 0, 0]), (atC Try.prog 72 [1, 1, 0, 1]), b77⟩), .obj b66 (.row 83 .whole [(.fn (.func 40) [] [(.ptr b22 0)])]), .obj b22 (.row 3 .whole [(.int .i64 c22_0)]), .obj b74 (.row 83 .whole [(.yield b71)]), .obj b71 (.loop ⟨.ready, none, 71, 13, treeOf [(2, (.ptr b69 0)), (4, .nils), (6, (.fn (.func 72) [] [(.ptr b63 0), (.ptr b66 0)]))], [7], (atC Try.prog 71 [1, 0, 1, 0, 0]), (atC Try.prog 71 [1, 0, 1, 0, 1]), b72⟩), .obj b69 (.row 36 .whole [s92]), .vec 44 5 l92.length s92 (l92.flatMap enc44), .obj b63 (.row 86 .whole [(.fn (.func 73) [] [(.ptr b45 0), (.ptr b48 0), (.ptr b51 0), (.ptr b59 0)])]), .obj b45 (.row 80 .whole [(.int .i64 c45.live), (.int .i64 c45.window), (.int .i64 c45.step)]), .obj b48 (.row 33 .whole [sc48_0]), .obj b51 (.row 33 .whole [sc51_0]), .obj b72 .defd, .obj b77 .defd, .obj b85 (.row 33 .whole [sc85_0]), .obj b88 (.row 33 .whole [sc88_0]), .obj b82 (.row 80 .whole [(.int .i64 c82.live), (.int .i64 c82.window), (.int .i64 c82.step)]), .obj b91 .defd, .obj b98 (.row 73 .whole [(.int .i64 c98.Time), (.int .i64 c98.Loud), (.int .i64 c98.Template)]), .obj b105 (.row 73 .whole [(.int .i64 c105.Time), (.int .i64 c105.Loud), (.int .i64 c105.Template)])])⟩
    refine Run.opsEnd ?_
    refine Run.beginX hH122 (i := 6) rfl rfl ?_
    intro M123 (hH123 : Has Fr M123 [.obj b120 (.row 44 .whole [(.int .i64 v5), (.int .i64 v7), (.int .i64 (w64 (c98.Loud + c105.Loud))), (.int .i64 r117.N), (.int .i64 r117.Of)]), .obj b113 (.row 40 .whole [(.int .i64 v5), (.int .i64 v7), (.int .i64 (w64 (c98.Loud + c105.Loud)))]), .obj b90 (.loop ⟨.busy, none, 73, 21, treeOf [(4, (.ptr b59 0)), (5, (.ptr b79 0)), (10, (.fn (.func 84) [] [(.ptr b85 0), (.ptr b88 0), (.ptr b82 0)]))], [11], (atC Try.prog 73 [1, 1, 0, 0]), (atC Try.prog 73 [1, 1, 0, 1]), b91⟩), .obj b59 (.row 22 .whole [s56]), .vec 3 1 l56.length s56 (l56.flatMap enc3), .obj b79 (.row 83 .whole [(.yield b76)]), .obj b76 (.loop ⟨.busy, none, 72, 16, treeOf [(2, (.ptr b66 0)), (3, (.ptr b74 0)), (5, (.fn (.func 73) [] [(.ptr b45 0), (.ptr b48 0), (.ptr b51 0), (.ptr b59 0)]))], [6], (atC Try.prog 72 [1, 1, 0, 0]), (atC Try.prog 72 [1, 1, 0, 1]), b77⟩), .obj b66 (.row 83 .whole [(.fn (.func 40) [] [(.ptr b22 0)])]), .obj b22 (.row 3 .whole [(.int .i64 c22_0)]), .obj b74 (.row 83 .whole [(.yield b71)]), .obj b71 (.loop ⟨.ready, none, 71, 13, treeOf [(2, (.ptr b69 0)), (4, .nils), (6, (.fn (.func 72) [] [(.ptr b63 0), (.ptr b66 0)]))], [7], (atC Try.prog 71 [1, 0, 1, 0, 0]), (atC Try.prog 71 [1, 0, 1, 0, 1]), b72⟩), .obj b69 (.row 36 .whole [s92]), .vec 44 5 l92.length s92 (l92.flatMap enc44), .obj b63 (.row 86 .whole [(.fn (.func 73) [] [(.ptr b45 0), (.ptr b48 0), (.ptr b51 0), (.ptr b59 0)])]), .obj b45 (.row 80 .whole [(.int .i64 c45.live), (.int .i64 c45.window), (.int .i64 c45.step)]), .obj b48 (.row 33 .whole [sc48_0]), .obj b51 (.row 33 .whole [sc51_0]), .obj b72 .defd, .obj b77 .defd, .obj b85 (.row 33 .whole [sc85_0]), .obj b88 (.row 33 .whole [sc88_0]), .obj b82 (.row 80 .whole [(.int .i64 c82.live), (.int .i64 c82.window), (.int .i64 c82.step)]), .obj b91 .defd, .obj b98 (.row 73 .whole [(.int .i64 c98.Time), (.int .i64 c98.Loud), (.int .i64 c98.Template)]), .obj b105 (.row 73 .whole [(.int .i64 c105.Time), (.int .i64 c105.Loud), (.int .i64 c105.Template)])])
    refine Run.block (Run.seq (Run.region ?_))
    refine Run.opG wantS_none (ex_load1 rfl (hH123.cells (i := 7) rfl 0 rfl) rdLe_rfl agg83) rfl ?_
    refine Run.opG wantS_none (ex_loadA rfl (hH123.cells (i := 0) rfl 0 rfl) rdLe_rfl agg44 rfl rfl rfl) rfl ?_
    refine Run.enter wantS_none (ex_closure rfl rfl mkk40 cal40) Try.func40 rfl rfl ?_
    refine Run.seq (Run.region ?_)
    refine Run.opX wantS_none rfl (ExG.box rfl rfl hH123) ?_
    rintro _ M126 ⟨b125, rfl, hH126⟩
    refine Run.opG wantS_none (ex_assign rfl) rfl ?_
    refine Run.opsEnd (Run.seq (Run.region ?_))
    refine Run.opG wantS_none (ex_fieldAddr rfl off44_1) rfl ?_
    refine Run.opG wantS_none (ex_fieldAddr rfl off42_0) rfl ?_
    refine Run.opG wantS_none (ex_load1 rfl (hH126.cells (i := 0) rfl 3 rfl) rdLe_rfl agg3) rfl ?_
    refine Run.opG wantS_none (ex_load1 rfl (hH126.cells (i := 9) rfl 0 rfl) rdLe_rfl agg3) rfl ?_
    refine Run.opG wantS_none (ex_leq rfl rfl) rfl ?_
    refine Run.opG wantS_none (ex_assign rfl) rfl ?_
    refine Run.opsEnd ?_
    refine Run.retTo Try.func40 rfl (res_tmp rfl res_nil) rfl ?_
    refine Run.opG wantS_none (ex_move rfl) rfl ?_
    rcases btf ((decide (r117.N ≤ c22_0))) with hc127 | hc127
    · have h := bif_t hc127 h
      refine Run.opG (wantS_yes' rfl rfl hc127) (ex_load1 rfl (hH126.cells (i := 10) rfl 0 rfl) rdLe_rfl agg83) rfl ?_
      refine Run.opG (wantS_yes' rfl rfl hc127) (ex_loadA rfl (hH126.cells (i := 1) rfl 0 rfl) rdLe_rfl agg44 rfl rfl rfl) rfl ?_
      refine Run.round (e' := [(7, (.agg [(.int .i64 v5), (.int .i64 v7), (.int .i64 (w64 (c98.Loud + c105.Loud))), (.int .i64 r117.N), (.int .i64 r117.Of)])), (2, (.ptr b69 0)), (4, .nils), (6, (.fn (.func 72) [] [(.ptr b63 0), (.ptr b66 0)]))]) (wantS_yes' rfl rfl hc127) (ex_yield hH126 (i := 11) rfl rfl rfl rfl) (hH126.loopOf (i := 11) rfl) rfl ?_
      refine Run.region ?_
      refine Run.opX wantS_none rfl (ExG.new (v := fun b => .ptr b 0) (ex_alloc zer44) hH126) ?_
      rintro _ M130 ⟨b129, rfl, hH130⟩
      refine Run.opX wantS_none rfl (ExG.storeC (c' := [(.int .i64 v5), (.int .i64 v7), (.int .i64 (w64 (c98.Loud + c105.Loud))), (.int .i64 r117.N), (.int .i64 r117.Of)]) rfl rfl rfl hH130 (i := 0) rfl sz44 rfl rfl rfl rfl rfl) ?_
      rintro _ M131 ⟨rfl, (hH131 : Has Fr M131 [.obj b129 (.row 44 .whole [(.int .i64 v5), (.int .i64 v7), (.int .i64 (w64 (c98.Loud + c105.Loud))), (.int .i64 r117.N), (.int .i64 r117.Of)]), .obj b125 (.row 44 .whole [(.int .i64 v5), (.int .i64 v7), (.int .i64 (w64 (c98.Loud + c105.Loud))), (.int .i64 r117.N), (.int .i64 r117.Of)]), .obj b120 (.row 44 .whole [(.int .i64 v5), (.int .i64 v7), (.int .i64 (w64 (c98.Loud + c105.Loud))), (.int .i64 r117.N), (.int .i64 r117.Of)]), .obj b113 (.row 40 .whole [(.int .i64 v5), (.int .i64 v7), (.int .i64 (w64 (c98.Loud + c105.Loud)))]), .obj b90 (.loop ⟨.busy, none, 73, 21, treeOf [(4, (.ptr b59 0)), (5, (.ptr b79 0)), (10, (.fn (.func 84) [] [(.ptr b85 0), (.ptr b88 0), (.ptr b82 0)]))], [11], (atC Try.prog 73 [1, 1, 0, 0]), (atC Try.prog 73 [1, 1, 0, 1]), b91⟩), .obj b59 (.row 22 .whole [s56]), .vec 3 1 l56.length s56 (l56.flatMap enc3), .obj b79 (.row 83 .whole [(.yield b76)]), .obj b76 (.loop ⟨.busy, none, 72, 16, treeOf [(2, (.ptr b66 0)), (3, (.ptr b74 0)), (5, (.fn (.func 73) [] [(.ptr b45 0), (.ptr b48 0), (.ptr b51 0), (.ptr b59 0)]))], [6], (atC Try.prog 72 [1, 1, 0, 0]), (atC Try.prog 72 [1, 1, 0, 1]), b77⟩), .obj b66 (.row 83 .whole [(.fn (.func 40) [] [(.ptr b22 0)])]), .obj b22 (.row 3 .whole [(.int .i64 c22_0)]), .obj b74 (.row 83 .whole [(.yield b71)]), .obj b71 (.loop ⟨.ready, none, 71, 13, treeOf [(2, (.ptr b69 0)), (4, .nils), (6, (.fn (.func 72) [] [(.ptr b63 0), (.ptr b66 0)]))], [7], (atC Try.prog 71 [1, 0, 1, 0, 0]), (atC Try.prog 71 [1, 0, 1, 0, 1]), b72⟩), .obj b69 (.row 36 .whole [s92]), .vec 44 5 l92.length s92 (l92.flatMap enc44), .obj b63 (.row 86 .whole [(.fn (.func 73) [] [(.ptr b45 0), (.ptr b48 0), (.ptr b51 0), (.ptr b59 0)])]), .obj b45 (.row 80 .whole [(.int .i64 c45.live), (.int .i64 c45.window), (.int .i64 c45.step)]), .obj b48 (.row 33 .whole [sc48_0]), .obj b51 (.row 33 .whole [sc51_0]), .obj b72 .defd, .obj b77 .defd, .obj b85 (.row 33 .whole [sc85_0]), .obj b88 (.row 33 .whole [sc88_0]), .obj b82 (.row 80 .whole [(.int .i64 c82.live), (.int .i64 c82.window), (.int .i64 c82.step)]), .obj b91 .defd, .obj b98 (.row 73 .whole [(.int .i64 c98.Time), (.int .i64 c98.Loud), (.int .i64 c98.Template)]), .obj b105 (.row 73 .whole [(.int .i64 c105.Time), (.int .i64 c105.Loud), (.int .i64 c105.Template)])])⟩
      refine Run.opsEnd ?_
      refine Run.beginX hH131 (i := 12) rfl rfl ?_
      intro M132 (hH132 : Has Fr M132 [.obj b129 (.row 44 .whole [(.int .i64 v5), (.int .i64 v7), (.int .i64 (w64 (c98.Loud + c105.Loud))), (.int .i64 r117.N), (.int .i64 r117.Of)]), .obj b125 (.row 44 .whole [(.int .i64 v5), (.int .i64 v7), (.int .i64 (w64 (c98.Loud + c105.Loud))), (.int .i64 r117.N), (.int .i64 r117.Of)]), .obj b120 (.row 44 .whole [(.int .i64 v5), (.int .i64 v7), (.int .i64 (w64 (c98.Loud + c105.Loud))), (.int .i64 r117.N), (.int .i64 r117.Of)]), .obj b113 (.row 40 .whole [(.int .i64 v5), (.int .i64 v7), (.int .i64 (w64 (c98.Loud + c105.Loud)))]), .obj b90 (.loop ⟨.busy, none, 73, 21, treeOf [(4, (.ptr b59 0)), (5, (.ptr b79 0)), (10, (.fn (.func 84) [] [(.ptr b85 0), (.ptr b88 0), (.ptr b82 0)]))], [11], (atC Try.prog 73 [1, 1, 0, 0]), (atC Try.prog 73 [1, 1, 0, 1]), b91⟩), .obj b59 (.row 22 .whole [s56]), .vec 3 1 l56.length s56 (l56.flatMap enc3), .obj b79 (.row 83 .whole [(.yield b76)]), .obj b76 (.loop ⟨.busy, none, 72, 16, treeOf [(2, (.ptr b66 0)), (3, (.ptr b74 0)), (5, (.fn (.func 73) [] [(.ptr b45 0), (.ptr b48 0), (.ptr b51 0), (.ptr b59 0)]))], [6], (atC Try.prog 72 [1, 1, 0, 0]), (atC Try.prog 72 [1, 1, 0, 1]), b77⟩), .obj b66 (.row 83 .whole [(.fn (.func 40) [] [(.ptr b22 0)])]), .obj b22 (.row 3 .whole [(.int .i64 c22_0)]), .obj b74 (.row 83 .whole [(.yield b71)]), .obj b71 (.loop ⟨.busy, none, 71, 13, treeOf [(2, (.ptr b69 0)), (4, .nils), (6, (.fn (.func 72) [] [(.ptr b63 0), (.ptr b66 0)]))], [7], (atC Try.prog 71 [1, 0, 1, 0, 0]), (atC Try.prog 71 [1, 0, 1, 0, 1]), b72⟩), .obj b69 (.row 36 .whole [s92]), .vec 44 5 l92.length s92 (l92.flatMap enc44), .obj b63 (.row 86 .whole [(.fn (.func 73) [] [(.ptr b45 0), (.ptr b48 0), (.ptr b51 0), (.ptr b59 0)])]), .obj b45 (.row 80 .whole [(.int .i64 c45.live), (.int .i64 c45.window), (.int .i64 c45.step)]), .obj b48 (.row 33 .whole [sc48_0]), .obj b51 (.row 33 .whole [sc51_0]), .obj b72 .defd, .obj b77 .defd, .obj b85 (.row 33 .whole [sc85_0]), .obj b88 (.row 33 .whole [sc88_0]), .obj b82 (.row 80 .whole [(.int .i64 c82.live), (.int .i64 c82.window), (.int .i64 c82.step)]), .obj b91 .defd, .obj b98 (.row 73 .whole [(.int .i64 c98.Time), (.int .i64 c98.Loud), (.int .i64 c98.Template)]), .obj b105 (.row 73 .whole [(.int .i64 c105.Time), (.int .i64 c105.Loud), (.int .i64 c105.Template)])])
      refine Run.block (Run.region ?_)
      refine Run.opG wantS_none (ex_load1 rfl (hH132.cells (i := 13) rfl 0 rfl) rdLe_rfl agg36) rfl ?_
      refine Run.opG wantS_none (ex_loadA rfl (hH132.cells (i := 0) rfl 0 rfl) rdLe_rfl agg44 rfl rfl rfl) rfl ?_
      refine Run.opX wantS_none rfl (ExG.built (enc := enc44) (l := ([(S_api_Candidate.mk (S_api_Pair.mk v5 v7 (w64 (c98.Loud + c105.Loud))) r117)] : List S_api_Candidate)) (z := 5) rfl elt36 rfl rfl rfl enc44_len hH132) ?_
      rintro s134 M135 (hH135 : Has Fr M135 [.vec 44 5 ([(S_api_Candidate.mk (S_api_Pair.mk v5 v7 (w64 (c98.Loud + c105.Loud))) r117)] : List S_api_Candidate).length s134 (([(S_api_Candidate.mk (S_api_Pair.mk v5 v7 (w64 (c98.Loud + c105.Loud))) r117)] : List S_api_Candidate).flatMap enc44), .obj b129 (.row 44 .whole [(.int .i64 v5), (.int .i64 v7), (.int .i64 (w64 (c98.Loud + c105.Loud))), (.int .i64 r117.N), (.int .i64 r117.Of)]), .obj b125 (.row 44 .whole [(.int .i64 v5), (.int .i64 v7), (.int .i64 (w64 (c98.Loud + c105.Loud))), (.int .i64 r117.N), (.int .i64 r117.Of)]), .obj b120 (.row 44 .whole [(.int .i64 v5), (.int .i64 v7), (.int .i64 (w64 (c98.Loud + c105.Loud))), (.int .i64 r117.N), (.int .i64 r117.Of)]), .obj b113 (.row 40 .whole [(.int .i64 v5), (.int .i64 v7), (.int .i64 (w64 (c98.Loud + c105.Loud)))]), .obj b90 (.loop ⟨.busy, none, 73, 21, treeOf [(4, (.ptr b59 0)), (5, (.ptr b79 0)), (10, (.fn (.func 84) [] [(.ptr b85 0), (.ptr b88 0), (.ptr b82 0)]))], [11], (atC Try.prog 73 [1, 1, 0, 0]), (atC Try.prog 73 [1, 1, 0, 1]), b91⟩), .obj b59 (.row 22 .whole [s56]), .vec 3 1 l56.length s56 (l56.flatMap enc3), .obj b79 (.row 83 .whole [(.yield b76)]), .obj b76 (.loop ⟨.busy, none, 72, 16, treeOf [(2, (.ptr b66 0)), (3, (.ptr b74 0)), (5, (.fn (.func 73) [] [(.ptr b45 0), (.ptr b48 0), (.ptr b51 0), (.ptr b59 0)]))], [6], (atC Try.prog 72 [1, 1, 0, 0]), (atC Try.prog 72 [1, 1, 0, 1]), b77⟩), .obj b66 (.row 83 .whole [(.fn (.func 40) [] [(.ptr b22 0)])]), .obj b22 (.row 3 .whole [(.int .i64 c22_0)]), .obj b74 (.row 83 .whole [(.yield b71)]), .obj b71 (.loop ⟨.busy, none, 71, 13, treeOf [(2, (.ptr b69 0)), (4, .nils), (6, (.fn (.func 72) [] [(.ptr b63 0), (.ptr b66 0)]))], [7], (atC Try.prog 71 [1, 0, 1, 0, 0]), (atC Try.prog 71 [1, 0, 1, 0, 1]), b72⟩), .obj b69 (.row 36 .whole [s92]), .vec 44 5 l92.length s92 (l92.flatMap enc44), .obj b63 (.row 86 .whole [(.fn (.func 73) [] [(.ptr b45 0), (.ptr b48 0), (.ptr b51 0), (.ptr b59 0)])]), .obj b45 (.row 80 .whole [(.int .i64 c45.live), (.int .i64 c45.window), (.int .i64 c45.step)]), .obj b48 (.row 33 .whole [sc48_0]), .obj b51 (.row 33 .whole [sc51_0]), .obj b72 .defd, .obj b77 .defd, .obj b85 (.row 33 .whole [sc85_0]), .obj b88 (.row 33 .whole [sc88_0]), .obj b82 (.row 80 .whole [(.int .i64 c82.live), (.int .i64 c82.window), (.int .i64 c82.step)]), .obj b91 .defd, .obj b98 (.row 73 .whole [(.int .i64 c98.Time), (.int .i64 c98.Loud), (.int .i64 c98.Template)]), .obj b105 (.row 73 .whole [(.int .i64 c105.Time), (.int .i64 c105.Loud), (.int .i64 c105.Template)])])
      obtain ⟨l138, hl138, h⟩ := bnd_some h
      refine Run.opX wantS_none rfl (ExG.append rfl rfl hH135 (i := 15) rfl enc44_len rfl enc44_ones appt36_36 rfl (len_slc (hH135.slc (i := 0) rfl enc44_len)) (first_slc (hH135.slc (i := 0) rfl enc44_len) (rdLe_rdRow _) enc44_len) hl138) ?_
      rintro s138 M140 (hH140 : Has Fr M140 [.vec 44 5 ([(S_api_Candidate.mk (S_api_Pair.mk v5 v7 (w64 (c98.Loud + c105.Loud))) r117)] : List S_api_Candidate).length s134 (([(S_api_Candidate.mk (S_api_Pair.mk v5 v7 (w64 (c98.Loud + c105.Loud))) r117)] : List S_api_Candidate).flatMap enc44), .obj b129 (.row 44 .whole [(.int .i64 v5), (.int .i64 v7), (.int .i64 (w64 (c98.Loud + c105.Loud))), (.int .i64 r117.N), (.int .i64 r117.Of)]), .obj b125 (.row 44 .whole [(.int .i64 v5), (.int .i64 v7), (.int .i64 (w64 (c98.Loud + c105.Loud))), (.int .i64 r117.N), (.int .i64 r117.Of)]), .obj b120 (.row 44 .whole [(.int .i64 v5), (.int .i64 v7), (.int .i64 (w64 (c98.Loud + c105.Loud))), (.int .i64 r117.N), (.int .i64 r117.Of)]), .obj b113 (.row 40 .whole [(.int .i64 v5), (.int .i64 v7), (.int .i64 (w64 (c98.Loud + c105.Loud)))]), .obj b90 (.loop ⟨.busy, none, 73, 21, treeOf [(4, (.ptr b59 0)), (5, (.ptr b79 0)), (10, (.fn (.func 84) [] [(.ptr b85 0), (.ptr b88 0), (.ptr b82 0)]))], [11], (atC Try.prog 73 [1, 1, 0, 0]), (atC Try.prog 73 [1, 1, 0, 1]), b91⟩), .obj b59 (.row 22 .whole [s56]), .vec 3 1 l56.length s56 (l56.flatMap enc3), .obj b79 (.row 83 .whole [(.yield b76)]), .obj b76 (.loop ⟨.busy, none, 72, 16, treeOf [(2, (.ptr b66 0)), (3, (.ptr b74 0)), (5, (.fn (.func 73) [] [(.ptr b45 0), (.ptr b48 0), (.ptr b51 0), (.ptr b59 0)]))], [6], (atC Try.prog 72 [1, 1, 0, 0]), (atC Try.prog 72 [1, 1, 0, 1]), b77⟩), .obj b66 (.row 83 .whole [(.fn (.func 40) [] [(.ptr b22 0)])]), .obj b22 (.row 3 .whole [(.int .i64 c22_0)]), .obj b74 (.row 83 .whole [(.yield b71)]), .obj b71 (.loop ⟨.busy, none, 71, 13, treeOf [(2, (.ptr b69 0)), (4, .nils), (6, (.fn (.func 72) [] [(.ptr b63 0), (.ptr b66 0)]))], [7], (atC Try.prog 71 [1, 0, 1, 0, 0]), (atC Try.prog 71 [1, 0, 1, 0, 1]), b72⟩), .obj b69 (.row 36 .whole [s92]), .vec 44 5 l138.length s138 (l138.flatMap enc44), .obj b63 (.row 86 .whole [(.fn (.func 73) [] [(.ptr b45 0), (.ptr b48 0), (.ptr b51 0), (.ptr b59 0)])]), .obj b45 (.row 80 .whole [(.int .i64 c45.live), (.int .i64 c45.window), (.int .i64 c45.step)]), .obj b48 (.row 33 .whole [sc48_0]), .obj b51 (.row 33 .whole [sc51_0]), .obj b72 .defd, .obj b77 .defd, .obj b85 (.row 33 .whole [sc85_0]), .obj b88 (.row 33 .whole [sc88_0]), .obj b82 (.row 80 .whole [(.int .i64 c82.live), (.int .i64 c82.window), (.int .i64 c82.step)]), .obj b91 .defd, .obj b98 (.row 73 .whole [(.int .i64 c98.Time), (.int .i64 c98.Loud), (.int .i64 c98.Template)]), .obj b105 (.row 73 .whole [(.int .i64 c105.Time), (.int .i64 c105.Loud), (.int .i64 c105.Template)])])
      refine Run.opX wantS_none rfl (ExG.storeC (c' := [s138]) rfl rfl (cells_one (vec_one hH140 (i := 15) rfl)) hH140 (i := 14) rfl sz36 rfl rfl rfl (ones_cons (vec_one hH140 (i := 15) rfl) ones_nil) rfl) ?_
      rintro _ M141 ⟨rfl, (hH141 : Has Fr M141 [.vec 44 5 ([(S_api_Candidate.mk (S_api_Pair.mk v5 v7 (w64 (c98.Loud + c105.Loud))) r117)] : List S_api_Candidate).length s134 (([(S_api_Candidate.mk (S_api_Pair.mk v5 v7 (w64 (c98.Loud + c105.Loud))) r117)] : List S_api_Candidate).flatMap enc44), .obj b129 (.row 44 .whole [(.int .i64 v5), (.int .i64 v7), (.int .i64 (w64 (c98.Loud + c105.Loud))), (.int .i64 r117.N), (.int .i64 r117.Of)]), .obj b125 (.row 44 .whole [(.int .i64 v5), (.int .i64 v7), (.int .i64 (w64 (c98.Loud + c105.Loud))), (.int .i64 r117.N), (.int .i64 r117.Of)]), .obj b120 (.row 44 .whole [(.int .i64 v5), (.int .i64 v7), (.int .i64 (w64 (c98.Loud + c105.Loud))), (.int .i64 r117.N), (.int .i64 r117.Of)]), .obj b113 (.row 40 .whole [(.int .i64 v5), (.int .i64 v7), (.int .i64 (w64 (c98.Loud + c105.Loud)))]), .obj b90 (.loop ⟨.busy, none, 73, 21, treeOf [(4, (.ptr b59 0)), (5, (.ptr b79 0)), (10, (.fn (.func 84) [] [(.ptr b85 0), (.ptr b88 0), (.ptr b82 0)]))], [11], (atC Try.prog 73 [1, 1, 0, 0]), (atC Try.prog 73 [1, 1, 0, 1]), b91⟩), .obj b59 (.row 22 .whole [s56]), .vec 3 1 l56.length s56 (l56.flatMap enc3), .obj b79 (.row 83 .whole [(.yield b76)]), .obj b76 (.loop ⟨.busy, none, 72, 16, treeOf [(2, (.ptr b66 0)), (3, (.ptr b74 0)), (5, (.fn (.func 73) [] [(.ptr b45 0), (.ptr b48 0), (.ptr b51 0), (.ptr b59 0)]))], [6], (atC Try.prog 72 [1, 1, 0, 0]), (atC Try.prog 72 [1, 1, 0, 1]), b77⟩), .obj b66 (.row 83 .whole [(.fn (.func 40) [] [(.ptr b22 0)])]), .obj b22 (.row 3 .whole [(.int .i64 c22_0)]), .obj b74 (.row 83 .whole [(.yield b71)]), .obj b71 (.loop ⟨.busy, none, 71, 13, treeOf [(2, (.ptr b69 0)), (4, .nils), (6, (.fn (.func 72) [] [(.ptr b63 0), (.ptr b66 0)]))], [7], (atC Try.prog 71 [1, 0, 1, 0, 0]), (atC Try.prog 71 [1, 0, 1, 0, 1]), b72⟩), .obj b69 (.row 36 .whole [s138]), .vec 44 5 l138.length s138 (l138.flatMap enc44), .obj b63 (.row 86 .whole [(.fn (.func 73) [] [(.ptr b45 0), (.ptr b48 0), (.ptr b51 0), (.ptr b59 0)])]), .obj b45 (.row 80 .whole [(.int .i64 c45.live), (.int .i64 c45.window), (.int .i64 c45.step)]), .obj b48 (.row 33 .whole [sc48_0]), .obj b51 (.row 33 .whole [sc51_0]), .obj b72 .defd, .obj b77 .defd, .obj b85 (.row 33 .whole [sc85_0]), .obj b88 (.row 33 .whole [sc88_0]), .obj b82 (.row 80 .whole [(.int .i64 c82.live), (.int .i64 c82.window), (.int .i64 c82.step)]), .obj b91 .defd, .obj b98 (.row 73 .whole [(.int .i64 c98.Time), (.int .i64 c98.Loud), (.int .i64 c98.Template)]), .obj b105 (.row 73 .whole [(.int .i64 c105.Time), (.int .i64 c105.Loud), (.int .i64 c105.Template)])])⟩
      refine Run.opsEnd (Run.inBlock ?_)
      refine Run.roundEndX hH141 (i := 13) rfl rfl ?_
      intro M142 (hH142 : Has Fr M142 [.vec 44 5 ([(S_api_Candidate.mk (S_api_Pair.mk v5 v7 (w64 (c98.Loud + c105.Loud))) r117)] : List S_api_Candidate).length s134 (([(S_api_Candidate.mk (S_api_Pair.mk v5 v7 (w64 (c98.Loud + c105.Loud))) r117)] : List S_api_Candidate).flatMap enc44), .obj b129 (.row 44 .whole [(.int .i64 v5), (.int .i64 v7), (.int .i64 (w64 (c98.Loud + c105.Loud))), (.int .i64 r117.N), (.int .i64 r117.Of)]), .obj b125 (.row 44 .whole [(.int .i64 v5), (.int .i64 v7), (.int .i64 (w64 (c98.Loud + c105.Loud))), (.int .i64 r117.N), (.int .i64 r117.Of)]), .obj b120 (.row 44 .whole [(.int .i64 v5), (.int .i64 v7), (.int .i64 (w64 (c98.Loud + c105.Loud))), (.int .i64 r117.N), (.int .i64 r117.Of)]), .obj b113 (.row 40 .whole [(.int .i64 v5), (.int .i64 v7), (.int .i64 (w64 (c98.Loud + c105.Loud)))]), .obj b90 (.loop ⟨.busy, none, 73, 21, treeOf [(4, (.ptr b59 0)), (5, (.ptr b79 0)), (10, (.fn (.func 84) [] [(.ptr b85 0), (.ptr b88 0), (.ptr b82 0)]))], [11], (atC Try.prog 73 [1, 1, 0, 0]), (atC Try.prog 73 [1, 1, 0, 1]), b91⟩), .obj b59 (.row 22 .whole [s56]), .vec 3 1 l56.length s56 (l56.flatMap enc3), .obj b79 (.row 83 .whole [(.yield b76)]), .obj b76 (.loop ⟨.busy, none, 72, 16, treeOf [(2, (.ptr b66 0)), (3, (.ptr b74 0)), (5, (.fn (.func 73) [] [(.ptr b45 0), (.ptr b48 0), (.ptr b51 0), (.ptr b59 0)]))], [6], (atC Try.prog 72 [1, 1, 0, 0]), (atC Try.prog 72 [1, 1, 0, 1]), b77⟩), .obj b66 (.row 83 .whole [(.fn (.func 40) [] [(.ptr b22 0)])]), .obj b22 (.row 3 .whole [(.int .i64 c22_0)]), .obj b74 (.row 83 .whole [(.yield b71)]), .obj b71 (.loop ⟨.ready, none, 71, 13, treeOf [(2, (.ptr b69 0)), (4, .nils), (6, (.fn (.func 72) [] [(.ptr b63 0), (.ptr b66 0)]))], [7], (atC Try.prog 71 [1, 0, 1, 0, 0]), (atC Try.prog 71 [1, 0, 1, 0, 1]), b72⟩), .obj b69 (.row 36 .whole [s138]), .vec 44 5 l138.length s138 (l138.flatMap enc44), .obj b63 (.row 86 .whole [(.fn (.func 73) [] [(.ptr b45 0), (.ptr b48 0), (.ptr b51 0), (.ptr b59 0)])]), .obj b45 (.row 80 .whole [(.int .i64 c45.live), (.int .i64 c45.window), (.int .i64 c45.step)]), .obj b48 (.row 33 .whole [sc48_0]), .obj b51 (.row 33 .whole [sc51_0]), .obj b72 .defd, .obj b77 .defd, .obj b85 (.row 33 .whole [sc85_0]), .obj b88 (.row 33 .whole [sc88_0]), .obj b82 (.row 80 .whole [(.int .i64 c82.live), (.int .i64 c82.window), (.int .i64 c82.step)]), .obj b91 .defd, .obj b98 (.row 73 .whole [(.int .i64 c98.Time), (.int .i64 c98.Loud), (.int .i64 c98.Template)]), .obj b105 (.row 73 .whole [(.int .i64 c105.Time), (.int .i64 c105.Loud), (.int .i64 c105.Template)])])
      refine Run.opG (wantS_yes' rfl rfl hc127) (ex_not rfl) rfl ?_
      refine Run.opG wantS_none (ex_pickT' rfl hc127 rfl rfl) rfl ?_
      refine Run.opsEnd ?_
      exact Run.low (.cons (fle_pick [] rfl) (.cons (fle_pick [0, 2, 3, 5, 6, 10, 11, 12, 17, 18, 19, 41] rfl) (.cons (fle_pick [] rfl) (.cons (fle_pick [] rfl) (.cons (fle_pick [2] rfl) (.cons (fle_pick [] rfl) (.cons (fle_pick [] rfl) .nil))))))) (Run.pick [15] (search_Candidates_4_ok F hd2 hhd2 v5 v10 v11 v12 v17 v18 v19 v9 c22_0 c45 c48_0 c51_0 c85_0 c88_0 c82 c98 l138 l56 sv10 sv17 sc48_0 sc51_0 sc85_0 sc88_0 b76 b66 b22 b74 b71 b69 s138 b63 b45 b48 b51 b59 s56 b72 b77 b90 b79 b85 b88 b82 b91 b98 _ _ _ hv10 hv17 hc48_0 hc51_0 hc85_0 hc88_0 (hH142.pick [9, 10, 11, 12, 13, 14, 15, 16, 17, 18, 19, 6, 7, 20, 21, 5, 8, 22, 23, 24, 25, 26] rfl rfl) h))
    · have h := bif_f hc127 h
      refine Run.no (wantS_not' rfl rfl hc127) rfl ?_
      refine Run.no (wantS_not' rfl rfl hc127) rfl ?_
      refine Run.no (wantS_not' rfl rfl hc127) rfl ?_
      refine Run.no (wantS_not' rfl rfl hc127) rfl ?_
      refine Run.opG wantS_none (ex_pickF' rfl hc127 rfl rfl) rfl ?_
      refine Run.opsEnd ?_
      exact Run.low (.cons (fle_pick [] rfl) (.cons (fle_pick [0, 2, 3, 5, 6, 10, 11, 12, 17, 18, 19, 41] rfl) (.cons (fle_pick [] rfl) (.cons (fle_pick [] rfl) (.cons (fle_pick [2] rfl) (.cons (fle_pick [] rfl) (.cons (fle_pick [] rfl) .nil))))))) (Run.pick [15] (search_Candidates_4_ok F hd2 hhd2 v5 v10 v11 v12 v17 v18 v19 v9 c22_0 c45 c48_0 c51_0 c85_0 c88_0 c82 c98 l92 l56 sv10 sv17 sc48_0 sc51_0 sc85_0 sc88_0 b76 b66 b22 b74 b71 b69 s92 b63 b45 b48 b51 b59 s56 b72 b77 b90 b79 b85 b88 b82 b91 b98 _ _ _ hv10 hv17 hc48_0 hc51_0 hc85_0 hc88_0 (hH126.pick [7, 8, 9, 10, 11, 12, 13, 14, 15, 16, 17, 4, 5, 18, 19, 3, 6, 20, 21, 22, 23, 24] rfl rfl) h))
  · have h := bif_f hc111 h
    refine Run.no (wantS_not' rfl rfl hc111) rfl ?_
    refine Run.no (wantS_not' rfl rfl hc111) rfl ?_
    refine Run.no (wantS_not' rfl rfl hc111) rfl ?_
    refine Run.no (wantS_not' rfl rfl hc111) rfl ?_
    refine Run.no (wantS_not' rfl rfl hc111) rfl ?_
    refine Run.no (wantS_not' rfl rfl hc111) rfl ?_
    refine Run.no (wantS_not' rfl rfl hc111) rfl ?_
    refine Run.no (wantS_not' rfl rfl hc111) rfl ?_
    refine Run.no (wantS_not' rfl rfl hc111) rfl ?_
    refine Run.no (wantS_not' rfl rfl hc111) rfl ?_
    refine Run.no (wantS_not' rfl rfl hc111) rfl ?_
    refine Run.opG wantS_none (ex_pickF' rfl hc111 rfl rfl) rfl ?_
    refine Run.opsEnd ?_
    exact Run.low (.cons (fle_pick [] rfl) (.cons (fle_pick [] rfl) (.cons (fle_pick [2] rfl) (.cons (fle_pick [] rfl) (.cons (fle_pick [] rfl) .nil))))) (Run.pick [0, 2, 3, 5, 6, 10, 11, 12, 17, 18, 19, 53] (search_Candidates_5_ok F hd2 hhd2 v5 v10 v11 v12 v17 v18 v19 c22_0 c45 c48_0 c51_0 c85_0 c88_0 c82 c98 l56 l92 sv10 sv17 sc48_0 sc51_0 sc85_0 sc88_0 b90 b59 s56 b79 b76 b66 b22 b74 b71 b69 s92 b63 b45 b48 b51 b72 b77 b85 b88 b82 b91 b98 _ _ _ hv10 hv17 hc48_0 hc51_0 hc85_0 hc88_0 (hH.pick [0, 1, 2, 3, 4, 5, 6, 7, 8, 9, 10, 11, 12, 13, 14, 15, 16, 17, 18, 19, 20, 21] rfl rfl) h))

def search_Candidates_2 (F : Nat) (hd1 : (List S_api_Trigger) → Int → Int → Int → S_search_clock → (List S_api_Trigger) → (List S_api_Trigger) → (List S_api_Trigger) → (List S_api_Trigger) → S_search_clock → (List Int) → (List S_api_Candidate) → Option ((List S_api_Candidate) × Int)) : Nat → Int → (List S_api_Trigger) → Int → Int → (List S_api_Trigger) → Int → Int → Int → S_search_clock → (List S_api_Trigger) → (List S_api_Trigger) → (List S_api_Trigger) → (List S_api_Trigger) → S_search_clock → S_api_Trigger → (List Int) → (List S_api_Candidate) → Option ((List S_api_Candidate) × Int)
  | 0, _, _, _, _, _, _, _, _, _, _, _, _, _, _, _, _, _ => none
  | N + 1, v5, v10, v11, v12, v17, v18, v19, c22_0, c45, c48_0, c51_0, c85_0, c88_0, c82, c98, l56, l92 =>
    bif (decide (v19 < v18)) then
      bnd (idx v17 v19) fun x103 =>
      bif (c98.Template == x103.Template) then
        bnd (search_clock_distance F c82 c98.Time x103.Time) fun r109 =>
        search_Candidates_3 F (search_Candidates_2 F hd1 N) v5 v19 (decide (r109 ≤ c82.window)) v10 v11 v12 v17 v18 v19 c22_0 c45 c48_0 c51_0 c85_0 c88_0 c82 c98 x103 l56 l92
      else
        search_Candidates_3 F (search_Candidates_2 F hd1 N) v5 v19 false v10 v11 v12 v17 v18 v19 c22_0 c45 c48_0 c51_0 c85_0 c88_0 c82 c98 x103 l56 l92
    else
      hd1 v10 v11 (w64 (v12 + (1 : Int))) c22_0 c45 c48_0 c51_0 c85_0 c88_0 c82 l56 l92

theorem search_Candidates_2_ok (F : Nat) (hd1 : (List S_api_Trigger) → Int → Int → Int → S_search_clock → (List S_api_Trigger) → (List S_api_Trigger) → (List S_api_Trigger) → (List S_api_Trigger) → S_search_clock → (List Int) → (List S_api_Candidate) → Option ((List S_api_Candidate) × Int)) (hhd1 : ∀ (v10 : (List S_api_Trigger)) (v11 v12 c22_0 : Int) (c45 : S_search_clock) (c48_0 c51_0 c85_0 c88_0 : (List S_api_Trigger)) (c82 : S_search_clock) (l56 : (List Int)) (l92 : (List S_api_Candidate)) (sv10 sc48_0 sc51_0 sc85_0 sc88_0 : SV) (b90 b59 : Pos) (s56 : SV) (b79 b76 b66 b22 b74 b71 b69 : Pos) (s92 : SV) (b63 b45 b48 b51 b72 b77 b85 b88 b82 b91 : Pos) (Fr : Rd) (M : Mem) (r : (List S_api_Candidate) × Int) (hv10 : Slc Fr 3 (FlatR enc73) sv10 v10) (hc48_0 : Slc Fr 3 (FlatR enc73) sc48_0 c48_0) (hc51_0 : Slc Fr 3 (FlatR enc73) sc51_0 c51_0) (hc85_0 : Slc Fr 3 (FlatR enc73) sc85_0 c85_0) (hc88_0 : Slc Fr 3 (FlatR enc73) sc88_0 c88_0) (hH : Has Fr M [.obj b90 (.loop ⟨.ready, none, 73, 21, treeOf [(4, (.ptr b59 0)), (5, (.ptr b79 0)), (10, (.fn (.func 84) [] [(.ptr b85 0), (.ptr b88 0), (.ptr b82 0)]))], [11], (atC Try.prog 73 [1, 1, 0, 0]), (atC Try.prog 73 [1, 1, 0, 1]), b91⟩), .obj b59 (.row 22 .whole [s56]), .vec 3 1 l56.length s56 (l56.flatMap enc3), .obj b79 (.row 83 .whole [(.yield b76)]), .obj b76 (.loop ⟨.ready, none, 72, 16, treeOf [(2, (.ptr b66 0)), (3, (.ptr b74 0)), (5, (.fn (.func 73) [] [(.ptr b45 0), (.ptr b48 0), (.ptr b51 0), (.ptr b59 0)]))], [6], (atC Try.prog 72 [1, 1, 0, 0]), (atC Try.prog 72 [1, 1, 0, 1]), b77⟩), .obj b66 (.row 83 .whole [(.fn (.func 40) [] [(.ptr b22 0)])]), .obj b22 (.row 3 .whole [(.int .i64 c22_0)]), .obj b74 (.row 83 .whole [(.yield b71)]), .obj b71 (.loop ⟨.ready, none, 71, 13, treeOf [(2, (.ptr b69 0)), (4, .nils), (6, (.fn (.func 72) [] [(.ptr b63 0), (.ptr b66 0)]))], [7], (atC Try.prog 71 [1, 0, 1, 0, 0]), (atC Try.prog 71 [1, 0, 1, 0, 1]), b72⟩), .obj b69 (.row 36 .whole [s92]), .vec 44 5 l92.length s92 (l92.flatMap enc44), .obj b63 (.row 86 .whole [(.fn (.func 73) [] [(.ptr b45 0), (.ptr b48 0), (.ptr b51 0), (.ptr b59 0)])]), .obj b45 (.row 80 .whole [(.int .i64 c45.live), (.int .i64 c45.window), (.int .i64 c45.step)]), .obj b48 (.row 33 .whole [sc48_0]), .obj b51 (.row 33 .whole [sc51_0]), .obj b72 .defd, .obj b77 .defd, .obj b85 (.row 33 .whole [sc85_0]), .obj b88 (.row 33 .whole [sc88_0]), .obj b82 (.row 80 .whole [(.int .i64 c82.live), (.int .i64 c82.window), (.int .i64 c82.step)]), .obj b91 .defd]), hd1 v10 v11 v12 c22_0 c45 c48_0 c51_0 c85_0 c88_0 c82 l56 l92 = some r → Run Try.prog ⟨⟨84, [], none⟩, [.mk ⟨73, [b91], none⟩ 21 (treeOf []) [.inRange b90, .inBlock 0], .mk ⟨72, [b77], none⟩ 16 (treeOf []) [.inRange b76, .inBlock 0], .mk ⟨71, [b72], none⟩ 13 (treeOf [(2, (.ptr b69 0))]) [.inRange b71, .inBlock 0, codeC Try.prog 71 [1, 1]], .mk ⟨41, [], none⟩ 5 (treeOf []) [itemC Try.prog 41 [1, 0] 1, codeC Try.prog 41 [1, 1]], .mk ⟨14, [], none⟩ 44 (treeOf []) [itemC Try.prog 14 [1, 1, 1, 1, 0] 6, codeC Try.prog 14 [1, 1, 1, 1, 1]]]⟩ 56 (search_Candidates_post r) [(0, (.yield b90)), (2, (.ptr b88 0)), (3, (.ptr b82 0)), (10, sv10), (11, (.int .i64 v11)), (12, (.int .i64 v12))] [codeC Try.prog 84 [1, 0, 0], loopC Try.prog 84 [1, 0, 0], .inBlock 0] M) : ∀ (N : Nat), ∀ (v5 : Int) (v10 : (List S_api_Trigger)) (v11 v12 : Int) (v17 : (List S_api_Trigger)) (v18 v19 c22_0 : Int) (c45 : S_search_clock) (c48_0 c51_0 c85_0 c88_0 : (List S_api_Trigger)) (c82 : S_search_clock) (c98 : S_api_Trigger) (l56 : (List Int)) (l92 : (List S_api_Candidate)) (sv10 sv17 sc48_0 sc51_0 sc85_0 sc88_0 : SV) (b90 b59 : Pos) (s56 : SV) (b79 b76 b66 b22 b74 b71 b69 : Pos) (s92 : SV) (b63 b45 b48 b51 b72 b77 b85 b88 b82 b91 b98 : Pos) (Fr : Rd) (M : Mem) (r : (List S_api_Candidate) × Int) (hv10 : Slc Fr 3 (FlatR enc73) sv10 v10) (hv17 : Slc Fr 3 (FlatR enc73) sv17 v17) (hc48_0 : Slc Fr 3 (FlatR enc73) sc48_0 c48_0) (hc51_0 : Slc Fr 3 (FlatR enc73) sc51_0 c51_0) (hc85_0 : Slc Fr 3 (FlatR enc73) sc85_0 c85_0) (hc88_0 : Slc Fr 3 (FlatR enc73) sc88_0 c88_0) (hH : Has Fr M [.obj b90 (.loop ⟨.ready, none, 73, 21, treeOf [(4, (.ptr b59 0)), (5, (.ptr b79 0)), (10, (.fn (.func 84) [] [(.ptr b85 0), (.ptr b88 0), (.ptr b82 0)]))], [11], (atC Try.prog 73 [1, 1, 0, 0]), (atC Try.prog 73 [1, 1, 0, 1]), b91⟩), .obj b59 (.row 22 .whole [s56]), .vec 3 1 l56.length s56 (l56.flatMap enc3), .obj b79 (.row 83 .whole [(.yield b76)]), .obj b76 (.loop ⟨.ready, none, 72, 16, treeOf [(2, (.ptr b66 0)), (3, (.ptr b74 0)), (5, (.fn (.func 73) [] [(.ptr b45 0), (.ptr b48 0), (.ptr b51 0), (.ptr b59 0)]))], [6], (atC Try.prog 72 [1, 1, 0, 0]), (atC Try.prog 72 [1, 1, 0, 1]), b77⟩), .obj b66 (.row 83 .whole [(.fn (.func 40) [] [(.ptr b22 0)])]), .obj b22 (.row 3 .whole [(.int .i64 c22_0)]), .obj b74 (.row 83 .whole [(.yield b71)]), .obj b71 (.loop ⟨.ready, none, 71, 13, treeOf [(2, (.ptr b69 0)), (4, .nils), (6, (.fn (.func 72) [] [(.ptr b63 0), (.ptr b66 0)]))], [7], (atC Try.prog 71 [1, 0, 1, 0, 0]), (atC Try.prog 71 [1, 0, 1, 0, 1]), b72⟩), .obj b69 (.row 36 .whole [s92]), .vec 44 5 l92.length s92 (l92.flatMap enc44), .obj b63 (.row 86 .whole [(.fn (.func 73) [] [(.ptr b45 0), (.ptr b48 0), (.ptr b51 0), (.ptr b59 0)])]), .obj b45 (.row 80 .whole [(.int .i64 c45.live), (.int .i64 c45.window), (.int .i64 c45.step)]), .obj b48 (.row 33 .whole [sc48_0]), .obj b51 (.row 33 .whole [sc51_0]), .obj b72 .defd, .obj b77 .defd, .obj b85 (.row 33 .whole [sc85_0]), .obj b88 (.row 33 .whole [sc88_0]), .obj b82 (.row 80 .whole [(.int .i64 c82.live), (.int .i64 c82.window), (.int .i64 c82.step)]), .obj b91 .defd, .obj b98 (.row 73 .whole [(.int .i64 c98.Time), (.int .i64 c98.Loud), (.int .i64 c98.Template)])]), search_Candidates_2 F hd1 N v5 v10 v11 v12 v17 v18 v19 c22_0 c45 c48_0 c51_0 c85_0 c88_0 c82 c98 l56 l92 = some r → Run Try.prog ⟨⟨84, [], none⟩, [.mk ⟨73, [b91], none⟩ 21 (treeOf []) [.inRange b90, .inBlock 0], .mk ⟨72, [b77], none⟩ 16 (treeOf []) [.inRange b76, .inBlock 0], .mk ⟨71, [b72], none⟩ 13 (treeOf [(2, (.ptr b69 0))]) [.inRange b71, .inBlock 0, codeC Try.prog 71 [1, 1]], .mk ⟨41, [], none⟩ 5 (treeOf []) [itemC Try.prog 41 [1, 0] 1, codeC Try.prog 41 [1, 1]], .mk ⟨14, [], none⟩ 44 (treeOf []) [itemC Try.prog 14 [1, 1, 1, 1, 0] 6, codeC Try.prog 14 [1, 1, 1, 1, 1]]]⟩ 56 (search_Candidates_post r) [(0, (.yield b90)), (2, (.ptr b88 0)), (3, (.ptr b82 0)), (5, (.int .i64 v5)), (6, (.ptr b98 0)), (10, sv10), (11, (.int .i64 v11)), (12, (.int .i64 v12)), (17, sv17), (18, (.int .i64 v18)), (19, (.int .i64 v19))] [codeC Try.prog 84 [1, 0, 0, 1, 1, 0, 0, 1, 1, 0, 0], loopC Try.prog 84 [1, 0, 0, 1, 1, 0, 0, 1, 1, 0, 0], .inBlock 2, .inBlock 1, codeC Try.prog 84 [1, 0, 0, 1, 1, 1], loopC Try.prog 84 [1, 0, 0], .inBlock 0] M := by
  intro N
  induction N with
  | zero =>
    intro v5 v10 v11 v12 v17 v18 v19 c22_0 c45 c48_0 c51_0 c85_0 c88_0 c82 c98 l56 l92 sv10 sv17 sc48_0 sc51_0 sc85_0 sc88_0 b90 b59 s56 b79 b76 b66 b22 b74 b71 b69 s92 b63 b45 b48 b51 b72 b77 b85 b88 b82 b91 b98 Fr M r hv10 hv17 hc48_0 hc51_0 hc85_0 hc88_0 hH h
    simp [search_Candidates_2] at h
  | succ N ih =>
    intro v5 v10 v11 v12 v17 v18 v19 c22_0 c45 c48_0 c51_0 c85_0 c88_0 c82 c98 l56 l92 sv10 sv17 sc48_0 sc51_0 sc85_0 sc88_0 b90 b59 s56 b79 b76 b66 b22 b74 b71 b69 s92 b63 b45 b48 b51 b72 b77 b85 b88 b82 b91 b98 Fr M r hv10 hv17 hc48_0 hc51_0 hc85_0 hc88_0 hH h
    rw [search_Candidates_2] at h
    refine Run.seq (Run.region ?_)
    refine Run.opG wantS_none (ex_lss rfl rfl) rfl ?_
    refine Run.opsEnd (Run.seq ?_)
    rcases btf ((decide (v19 < v18))) with hc101 | hc101
    · have h := bif_t hc101 h
      refine Run.condT' rfl hc101 ?_
      refine Run.skip (Run.seq (Run.block (Run.seq (Run.region ?_))))
      refine Run.opG wantS_none (ex_move rfl) rfl ?_
      obtain ⟨x103, hx103, h⟩ := bnd_some h
      obtain ⟨p103, o103, _, hx103, hp103, rfl⟩ := sl_elem (P := Try.prog) (t := 33) (kk := .i64) hv17 hx103 els33
      refine Run.opG wantS_none (ex_elX rfl rfl hx103) rfl ?_
      refine Run.opG wantS_none (ex_loadA rfl (hH.ptrF hp103) rdLe_rfl agg73 rfl rfl rfl) rfl ?_
      refine Run.opX wantS_none rfl (ExG.new (v := fun b => .ptr b 0) (ex_alloc zer73) hH) ?_
      rintro _ M106 ⟨b105, rfl, hH106⟩
      refine Run.opG wantS_none (ex_assign rfl) rfl ?_
      refine Run.opX wantS_none rfl (ExG.storeC (c' := [(.int .i64 x103.Time), (.int .i64 x103.Loud), (.int .i64 x103.Template)]) rfl rfl rfl hH106 (i := 0) rfl sz73 rfl rfl rfl rfl rfl) ?_
      rintro _ M107 ⟨rfl, (hH107 : Has Fr M107 [.obj b105 (.row 73 .whole [(.int .i64 x103.Time), (.int .i64 x103.Loud), (.int .i64 x103.Template)]), .obj b90 (.loop ⟨.ready, none, 73, 21, treeOf [(4, (.ptr b59 0)), (5, (.ptr b79 0)), (10, (.fn (.func 84) [] [(.ptr b85 0), (.ptr b88 0), (.ptr b82 0)]))], [11], (atC Try.prog 73 [1, 1, 0, 0]), (atC Try.prog 73 [1, 1, 0, 1]), b91⟩), .obj b59 (.row 22 .whole [s56]), .vec 3 1 l56.length s56 (l56.flatMap enc3), .obj b79 (.row 83 .whole [(.yield b76)]), .obj b76 (.loop ⟨.ready, none, 72, 16, treeOf [(2, (.ptr b66 0)), (3, (.ptr b74 0)), (5, (.fn (.func 73) [] [(.ptr b45 0), (.ptr b48 0), (.ptr b51 0), (.ptr b59 0)]))], [6], (atC Try.prog 72 [1, 1, 0, 0]), (atC Try.prog 72 [1, 1, 0, 1]), b77⟩), .obj b66 (.row 83 .whole [(.fn (.func 40) [] [(.ptr b22 0)])]), .obj b22 (.row 3 .whole [(.int .i64 c22_0)]), .obj b74 (.row 83 .whole [(.yield b71)]), .obj b71 (.loop ⟨.ready, none, 71, 13, treeOf [(2, (.ptr b69 0)), (4, .nils), (6, (.fn (.func 72) [] [(.ptr b63 0), (.ptr b66 0)]))], [7], (atC Try.prog 71 [1, 0, 1, 0, 0]), (atC Try.prog 71 [1, 0, 1, 0, 1]), b72⟩), .obj b69 (.row 36 .whole [s92]), .vec 44 5 l92.length s92 (l92.flatMap enc44), .obj b63 (.row 86 .whole [(.fn (.func 73) [] [(.ptr b45 0), (.ptr b48 0), (.ptr b51 0), (.ptr b59 0)])]), .obj b45 (.row 80 .whole [(.int .i64 c45.live), (.int .i64 c45.window), (.int .i64 c45.step)]), .obj b48 (.row 33 .whole [sc48_0]), .obj b51 (.row 33 .whole [sc51_0]), .obj b72 .defd, .obj b77 .defd, .obj b85 (.row 33 .whole [sc85_0]), .obj b88 (.row 33 .whole [sc88_0]), .obj b82 (.row 80 .whole [(.int .i64 c82.live), (.int .i64 c82.window), (.int .i64 c82.step)]), .obj b91 .defd, .obj b98 (.row 73 .whole [(.int .i64 c98.Time), (.int .i64 c98.Loud), (.int .i64 c98.Template)])])⟩
      refine Run.opsEnd (Run.seq ?_)
      refine Run.drawG plan84_1_0_0_1_1_0_0_1_1_0_0_1_1_0_0_1_0 ?_
      refine DrawG.fl rfl (ev_ex wantS_none (ex_fieldAddr rfl off73_2)) rfl ?_
      refine DrawG.fl rfl (ev_ex wantS_none (ex_load1 rfl (hH107.cells (i := 22) rfl 2 rfl) rdLe_rfl agg3)) rfl ?_
      refine DrawG.fl rfl (ev_ex wantS_none (ex_fieldAddr rfl off73_2)) rfl ?_
      refine DrawG.fl rfl (ev_ex wantS_none (ex_load1 rfl (hH107.cells (i := 0) rfl 2 rfl) rdLe_rfl agg3)) rfl ?_
      refine DrawG.fl rfl (ev_ex wantS_none (ex_eql rfl rfl)) rfl ?_
      refine DrawG.fl rfl (ev_ex wantS_none (ex_move rfl)) rfl ?_
      rcases btf ((c98.Template == x103.Template)) with hc108 | hc108
      · have h := bif_t hc108 h
        refine DrawG.fl rfl (ev_ex (wantS_yes' rfl rfl hc108) (ex_loadA rfl (hH107.cells (i := 20) rfl 0 rfl) rdLe_rfl agg80 rfl rfl rfl)) rfl ?_
        refine DrawG.fl rfl (ev_ex (wantS_yes' rfl rfl hc108) (ex_fieldAddr rfl off73_0)) rfl ?_
        refine DrawG.fl rfl (ev_ex (wantS_yes' rfl rfl hc108) (ex_load1 rfl (hH107.cells (i := 22) rfl 0 rfl) rdLe_rfl agg3)) rfl ?_
        refine DrawG.fl rfl (ev_ex (wantS_yes' rfl rfl hc108) (ex_fieldAddr rfl off73_0)) rfl ?_
        refine DrawG.fl rfl (ev_ex (wantS_yes' rfl rfl hc108) (ex_load1 rfl (hH107.cells (i := 0) rfl 0 rfl) rdLe_rfl agg3)) rfl ?_
        refine DrawG.fl rfl (ev_ex (wantS_yes' rfl rfl hc108) (ex_fieldAddr rfl off80_1)) rfl ?_
        refine DrawG.fl rfl (ev_ex (wantS_yes' rfl rfl hc108) (ex_load1 rfl (hH107.cells (i := 20) rfl 1 rfl) rdLe_rfl agg3)) rfl ?_
        obtain ⟨r109, hr109, h⟩ := bnd_some h
        refine DrawG.callP rfl (wantS_yes' rfl rfl hc108) (ex_call rfl mkk85 cal85) rfl (search_clock_distance_ok F c82 c98.Time x103.Time _ _ hr109) (st_cons rfl (ev_ex (wantS_yes' rfl rfl hc108) (ex_load1 rfl (hH107.cells (i := 20) rfl 1 rfl) rdLe_rfl agg3)) rfl rfl rfl (st_cons rfl (ev_ex (wantS_yes' rfl rfl hc108) (ex_fieldAddr rfl off80_1)) rfl rfl rfl st_nil)) ?_
        refine DrawG.fl rfl (ev_ex (wantS_yes' rfl rfl hc108) (ex_leq rfl rfl)) rfl ?_
        refine DrawG.fl rfl (ev_ex wantS_none (ex_pickT' rfl hc108 rfl rfl)) rfl ?_
        refine DrawG.fl rfl (ev_ex wantS_none (ex_assign rfl)) rfl ?_
        refine DrawG.sync ?_
        refine DrawG.nil ?_
        refine Run.seq (Run.region ?_)
        exact Run.low (.cons (fle_pick [] rfl) (.cons (fle_pick [] rfl) (.cons (fle_pick [2] rfl) (.cons (fle_pick [] rfl) (.cons (fle_pick [] rfl) .nil))))) (Run.pick [0, 2, 3, 5, 6, 7, 8, 9, 10, 11, 12, 17, 18, 19] (search_Candidates_3_ok F (search_Candidates_2 F hd1 N) ih v5 v19 (decide (r109 ≤ c82.window)) v10 v11 v12 v17 v18 v19 c22_0 c45 c48_0 c51_0 c85_0 c88_0 c82 c98 x103 l56 l92 sv10 sv17 sc48_0 sc51_0 sc85_0 sc88_0 b90 b59 s56 b79 b76 b66 b22 b74 b71 b69 s92 b63 b45 b48 b51 b72 b77 b85 b88 b82 b91 b98 b105 _ _ _ hv10 hv17 hc48_0 hc51_0 hc85_0 hc88_0 (hH107.pick [1, 2, 3, 4, 5, 6, 7, 8, 9, 10, 11, 12, 13, 14, 15, 16, 17, 18, 19, 20, 21, 22, 0] rfl rfl) h))
      · have h := bif_f hc108 h
        refine DrawG.fl rfl (ev_no (wantS_not' rfl rfl hc108)) rfl ?_
        refine DrawG.fl rfl (ev_no (wantS_not' rfl rfl hc108)) rfl ?_
        refine DrawG.fl rfl (ev_no (wantS_not' rfl rfl hc108)) rfl ?_
        refine DrawG.fl rfl (ev_no (wantS_not' rfl rfl hc108)) rfl ?_
        refine DrawG.fl rfl (ev_no (wantS_not' rfl rfl hc108)) rfl ?_
        refine DrawG.fl rfl (ev_no (wantS_not' rfl rfl hc108)) rfl ?_
        refine DrawG.fl rfl (ev_no (wantS_not' rfl rfl hc108)) rfl ?_
        refine DrawG.no rfl (wantS_not' rfl rfl hc108) rfl (st_cons rfl (ev_no (wantS_not' rfl rfl hc108)) rfl rfl rfl (st_cons rfl (ev_no (wantS_not' rfl rfl hc108)) rfl rfl rfl st_nil)) ?_
        refine DrawG.fl rfl (ev_no (wantS_not' rfl rfl hc108)) rfl ?_
        refine DrawG.fl rfl (ev_ex wantS_none (ex_pickF' rfl hc108 rfl rfl)) rfl ?_
        refine DrawG.fl rfl (ev_ex wantS_none (ex_assign rfl)) rfl ?_
        refine DrawG.sync ?_
        refine DrawG.nil ?_
        refine Run.seq (Run.region ?_)
        exact Run.low (.cons (fle_pick [] rfl) (.cons (fle_pick [] rfl) (.cons (fle_pick [2] rfl) (.cons (fle_pick [] rfl) (.cons (fle_pick [] rfl) .nil))))) (Run.pick [0, 2, 3, 5, 6, 7, 8, 9, 10, 11, 12, 17, 18, 19] (search_Candidates_3_ok F (search_Candidates_2 F hd1 N) ih v5 v19 false v10 v11 v12 v17 v18 v19 c22_0 c45 c48_0 c51_0 c85_0 c88_0 c82 c98 x103 l56 l92 sv10 sv17 sc48_0 sc51_0 sc85_0 sc88_0 b90 b59 s56 b79 b76 b66 b22 b74 b71 b69 s92 b63 b45 b48 b51 b72 b77 b85 b88 b82 b91 b98 b105 _ _ _ hv10 hv17 hc48_0 hc51_0 hc85_0 hc88_0 (hH107.pick [1, 2, 3, 4, 5, 6, 7, 8, 9, 10, 11, 12, 13, 14, 15, 16, 17, 18, 19, 20, 21, 22, 0] rfl rfl) h))
    · have h := bif_f hc101 h
      refine Run.condF' rfl hc101 ?_
      refine Run.exit rfl (Run.inBlock (Run.region ?_))
      refine Run.opG wantS_none (ex_add rfl rfl) rfl ?_
      refine Run.opG wantS_none (ex_move rfl) rfl ?_
      refine Run.opsEnd (Run.inLoop ?_)
      exact Run.low (.cons (fle_pick [] rfl) (.cons (fle_pick [] rfl) (.cons (fle_pick [2] rfl) (.cons (fle_pick [] rfl) (.cons (fle_pick [] rfl) .nil))))) (Run.pick [0, 2, 3, 10, 11, 12] (hhd1 v10 v11 (w64 (v12 + (1 : Int))) c22_0 c45 c48_0 c51_0 c85_0 c88_0 c82 l56 l92 sv10 sc48_0 sc51_0 sc85_0 sc88_0 b90 b59 s56 b79 b76 b66 b22 b74 b71 b69 s92 b63 b45 b48 b51 b72 b77 b85 b88 b82 b91 _ _ _ hv10 hc48_0 hc51_0 hc85_0 hc88_0 (hH.pick [0, 1, 2, 3, 4, 5, 6, 7, 8, 9, 10, 11, 12, 13, 14, 15, 16, 17, 18, 19, 20] rfl rfl) h))

def search_Candidates_1 (F : Nat) : Nat → (List S_api_Trigger) → Int → Int → Int → S_search_clock → (List S_api_Trigger) → (List S_api_Trigger) → (List S_api_Trigger) → (List S_api_Trigger) → S_search_clock → (List Int) → (List S_api_Candidate) → Option ((List S_api_Candidate) × Int)
  | 0, _, _, _, _, _, _, _, _, _, _, _, _ => none
  | N + 1, v10, v11, v12, c22_0, c45, c48_0, c51_0, c85_0, c88_0, c82, l56, l92 =>
    bif (decide (v12 < v11)) then
      bnd (idx v10 v12) fun x96 =>
      search_Candidates_2 F (search_Candidates_1 F N) F v12 v10 v11 v12 c88_0 (c88_0.length : Int) (0 : Int) c22_0 c45 c48_0 c51_0 c85_0 c88_0 c82 x96 l56 l92
    else
      some (l92, (0 : Int))

theorem search_Candidates_1_ok (F : Nat) : ∀ (N : Nat), ∀ (v10 : (List S_api_Trigger)) (v11 v12 c22_0 : Int) (c45 : S_search_clock) (c48_0 c51_0 c85_0 c88_0 : (List S_api_Trigger)) (c82 : S_search_clock) (l56 : (List Int)) (l92 : (List S_api_Candidate)) (sv10 sc48_0 sc51_0 sc85_0 sc88_0 : SV) (b90 b59 : Pos) (s56 : SV) (b79 b76 b66 b22 b74 b71 b69 : Pos) (s92 : SV) (b63 b45 b48 b51 b72 b77 b85 b88 b82 b91 : Pos) (Fr : Rd) (M : Mem) (r : (List S_api_Candidate) × Int) (hv10 : Slc Fr 3 (FlatR enc73) sv10 v10) (hc48_0 : Slc Fr 3 (FlatR enc73) sc48_0 c48_0) (hc51_0 : Slc Fr 3 (FlatR enc73) sc51_0 c51_0) (hc85_0 : Slc Fr 3 (FlatR enc73) sc85_0 c85_0) (hc88_0 : Slc Fr 3 (FlatR enc73) sc88_0 c88_0) (hH : Has Fr M [.obj b90 (.loop ⟨.ready, none, 73, 21, treeOf [(4, (.ptr b59 0)), (5, (.ptr b79 0)), (10, (.fn (.func 84) [] [(.ptr b85 0), (.ptr b88 0), (.ptr b82 0)]))], [11], (atC Try.prog 73 [1, 1, 0, 0]), (atC Try.prog 73 [1, 1, 0, 1]), b91⟩), .obj b59 (.row 22 .whole [s56]), .vec 3 1 l56.length s56 (l56.flatMap enc3), .obj b79 (.row 83 .whole [(.yield b76)]), .obj b76 (.loop ⟨.ready, none, 72, 16, treeOf [(2, (.ptr b66 0)), (3, (.ptr b74 0)), (5, (.fn (.func 73) [] [(.ptr b45 0), (.ptr b48 0), (.ptr b51 0), (.ptr b59 0)]))], [6], (atC Try.prog 72 [1, 1, 0, 0]), (atC Try.prog 72 [1, 1, 0, 1]), b77⟩), .obj b66 (.row 83 .whole [(.fn (.func 40) [] [(.ptr b22 0)])]), .obj b22 (.row 3 .whole [(.int .i64 c22_0)]), .obj b74 (.row 83 .whole [(.yield b71)]), .obj b71 (.loop ⟨.ready, none, 71, 13, treeOf [(2, (.ptr b69 0)), (4, .nils), (6, (.fn (.func 72) [] [(.ptr b63 0), (.ptr b66 0)]))], [7], (atC Try.prog 71 [1, 0, 1, 0, 0]), (atC Try.prog 71 [1, 0, 1, 0, 1]), b72⟩), .obj b69 (.row 36 .whole [s92]), .vec 44 5 l92.length s92 (l92.flatMap enc44), .obj b63 (.row 86 .whole [(.fn (.func 73) [] [(.ptr b45 0), (.ptr b48 0), (.ptr b51 0), (.ptr b59 0)])]), .obj b45 (.row 80 .whole [(.int .i64 c45.live), (.int .i64 c45.window), (.int .i64 c45.step)]), .obj b48 (.row 33 .whole [sc48_0]), .obj b51 (.row 33 .whole [sc51_0]), .obj b72 .defd, .obj b77 .defd, .obj b85 (.row 33 .whole [sc85_0]), .obj b88 (.row 33 .whole [sc88_0]), .obj b82 (.row 80 .whole [(.int .i64 c82.live), (.int .i64 c82.window), (.int .i64 c82.step)]), .obj b91 .defd]), search_Candidates_1 F N v10 v11 v12 c22_0 c45 c48_0 c51_0 c85_0 c88_0 c82 l56 l92 = some r → Run Try.prog ⟨⟨84, [], none⟩, [.mk ⟨73, [b91], none⟩ 21 (treeOf []) [.inRange b90, .inBlock 0], .mk ⟨72, [b77], none⟩ 16 (treeOf []) [.inRange b76, .inBlock 0], .mk ⟨71, [b72], none⟩ 13 (treeOf [(2, (.ptr b69 0))]) [.inRange b71, .inBlock 0, codeC Try.prog 71 [1, 1]], .mk ⟨41, [], none⟩ 5 (treeOf []) [itemC Try.prog 41 [1, 0] 1, codeC Try.prog 41 [1, 1]], .mk ⟨14, [], none⟩ 44 (treeOf []) [itemC Try.prog 14 [1, 1, 1, 1, 0] 6, codeC Try.prog 14 [1, 1, 1, 1, 1]]]⟩ 56 (search_Candidates_post r) [(0, (.yield b90)), (2, (.ptr b88 0)), (3, (.ptr b82 0)), (10, sv10), (11, (.int .i64 v11)), (12, (.int .i64 v12))] [codeC Try.prog 84 [1, 0, 0], loopC Try.prog 84 [1, 0, 0], .inBlock 0] M := by
  intro N
  induction N with
  | zero =>
    intro v10 v11 v12 c22_0 c45 c48_0 c51_0 c85_0 c88_0 c82 l56 l92 sv10 sc48_0 sc51_0 sc85_0 sc88_0 b90 b59 s56 b79 b76 b66 b22 b74 b71 b69 s92 b63 b45 b48 b51 b72 b77 b85 b88 b82 b91 Fr M r hv10 hc48_0 hc51_0 hc85_0 hc88_0 hH h
    simp [search_Candidates_1] at h
  | succ N ih =>
    intro v10 v11 v12 c22_0 c45 c48_0 c51_0 c85_0 c88_0 c82 l56 l92 sv10 sc48_0 sc51_0 sc85_0 sc88_0 b90 b59 s56 b79 b76 b66 b22 b74 b71 b69 s92 b63 b45 b48 b51 b72 b77 b85 b88 b82 b91 Fr M r hv10 hc48_0 hc51_0 hc85_0 hc88_0 hH h
    rw [search_Candidates_1] at h
    refine Run.seq (Run.region ?_)
    refine Run.opG wantS_none (ex_lss rfl rfl) rfl ?_
    refine Run.opsEnd (Run.seq ?_)
    rcases btf ((decide (v12 < v11))) with hc94 | hc94
    · have h := bif_t hc94 h
      refine Run.condT' rfl hc94 ?_
      refine Run.skip (Run.seq (Run.block (Run.seq (Run.region ?_))))
      refine Run.opG wantS_none (ex_move rfl) rfl ?_
      obtain ⟨x96, hx96, h⟩ := bnd_some h
      obtain ⟨p96, o96, _, hx96, hp96, rfl⟩ := sl_elem (P := Try.prog) (t := 33) (kk := .i64) hv10 hx96 els33
      refine Run.opG wantS_none (ex_elX rfl rfl hx96) rfl ?_
      refine Run.opG wantS_none (ex_loadA rfl (hH.ptrF hp96) rdLe_rfl agg73 rfl rfl rfl) rfl ?_
      refine Run.opX wantS_none rfl (ExG.new (v := fun b => .ptr b 0) (ex_alloc zer73) hH) ?_
      rintro _ M99 ⟨b98, rfl, hH99⟩
      refine Run.opG wantS_none (ex_assign rfl) rfl ?_
      refine Run.opX wantS_none rfl (ExG.storeC (c' := [(.int .i64 x96.Time), (.int .i64 x96.Loud), (.int .i64 x96.Template)]) rfl rfl rfl hH99 (i := 0) rfl sz73 rfl rfl rfl rfl rfl) ?_
      rintro _ M100 ⟨rfl, (hH100 : Has Fr M100 [.obj b98 (.row 73 .whole [(.int .i64 x96.Time), (.int .i64 x96.Loud), (.int .i64 x96.Template)]), .obj b90 (.loop ⟨.ready, none, 73, 21, treeOf [(4, (.ptr b59 0)), (5, (.ptr b79 0)), (10, (.fn (.func 84) [] [(.ptr b85 0), (.ptr b88 0), (.ptr b82 0)]))], [11], (atC Try.prog 73 [1, 1, 0, 0]), (atC Try.prog 73 [1, 1, 0, 1]), b91⟩), .obj b59 (.row 22 .whole [s56]), .vec 3 1 l56.length s56 (l56.flatMap enc3), .obj b79 (.row 83 .whole [(.yield b76)]), .obj b76 (.loop ⟨.ready, none, 72, 16, treeOf [(2, (.ptr b66 0)), (3, (.ptr b74 0)), (5, (.fn (.func 73) [] [(.ptr b45 0), (.ptr b48 0), (.ptr b51 0), (.ptr b59 0)]))], [6], (atC Try.prog 72 [1, 1, 0, 0]), (atC Try.prog 72 [1, 1, 0, 1]), b77⟩), .obj b66 (.row 83 .whole [(.fn (.func 40) [] [(.ptr b22 0)])]), .obj b22 (.row 3 .whole [(.int .i64 c22_0)]), .obj b74 (.row 83 .whole [(.yield b71)]), .obj b71 (.loop ⟨.ready, none, 71, 13, treeOf [(2, (.ptr b69 0)), (4, .nils), (6, (.fn (.func 72) [] [(.ptr b63 0), (.ptr b66 0)]))], [7], (atC Try.prog 71 [1, 0, 1, 0, 0]), (atC Try.prog 71 [1, 0, 1, 0, 1]), b72⟩), .obj b69 (.row 36 .whole [s92]), .vec 44 5 l92.length s92 (l92.flatMap enc44), .obj b63 (.row 86 .whole [(.fn (.func 73) [] [(.ptr b45 0), (.ptr b48 0), (.ptr b51 0), (.ptr b59 0)])]), .obj b45 (.row 80 .whole [(.int .i64 c45.live), (.int .i64 c45.window), (.int .i64 c45.step)]), .obj b48 (.row 33 .whole [sc48_0]), .obj b51 (.row 33 .whole [sc51_0]), .obj b72 .defd, .obj b77 .defd, .obj b85 (.row 33 .whole [sc85_0]), .obj b88 (.row 33 .whole [sc88_0]), .obj b82 (.row 80 .whole [(.int .i64 c82.live), (.int .i64 c82.window), (.int .i64 c82.step)]), .obj b91 .defd])⟩
      refine Run.opsEnd (Run.seq (Run.region ?_))
      refine Run.opG wantS_none (ex_load1 rfl (hH100.cells (i := 19) rfl 0 rfl) rdLe_rfl agg33) rfl ?_
      refine Run.opG wantS_none (ex_len' rfl hc88_0 lenk33) rfl ?_
      refine Run.opG wantS_none (ex_move rfl) rfl ?_
      refine Run.opsEnd (Run.block (Run.loop ?_))
      exact Run.low (.cons (fle_pick [] rfl) (.cons (fle_pick [] rfl) (.cons (fle_pick [2] rfl) (.cons (fle_pick [] rfl) (.cons (fle_pick [] rfl) .nil))))) (Run.pick [0, 2, 3, 5, 6, 10, 11, 12, 17, 18, 19] (search_Candidates_2_ok F (search_Candidates_1 F N) ih F v12 v10 v11 v12 c88_0 (c88_0.length : Int) (0 : Int) c22_0 c45 c48_0 c51_0 c85_0 c88_0 c82 x96 l56 l92 sv10 sc88_0 sc48_0 sc51_0 sc85_0 sc88_0 b90 b59 s56 b79 b76 b66 b22 b74 b71 b69 s92 b63 b45 b48 b51 b72 b77 b85 b88 b82 b91 b98 _ _ _ hv10 hc88_0 hc48_0 hc51_0 hc85_0 hc88_0 (hH100.pick [1, 2, 3, 4, 5, 6, 7, 8, 9, 10, 11, 12, 13, 14, 15, 16, 17, 18, 19, 20, 21, 0] rfl rfl) h))
    · have h := bif_f hc94 h
      refine Run.condF' rfl hc94 ?_
      refine Run.exit rfl ?_
      refine Run.fallRange Try.func84 rfl res_nil ?_
      refine Run.endX hH (i := 0) rfl (fun hc => by cases hc) ?_
      intro M146 (hH146 : Has Fr M146 [.obj b90 (.loop ⟨.exhausted, none, 73, 21, treeOf [(4, (.ptr b59 0)), (5, (.ptr b79 0)), (10, (.fn (.func 84) [] [(.ptr b85 0), (.ptr b88 0), (.ptr b82 0)]))], [11], (atC Try.prog 73 [1, 1, 0, 0]), (atC Try.prog 73 [1, 1, 0, 1]), b91⟩), .obj b59 (.row 22 .whole [s56]), .vec 3 1 l56.length s56 (l56.flatMap enc3), .obj b79 (.row 83 .whole [(.yield b76)]), .obj b76 (.loop ⟨.ready, none, 72, 16, treeOf [(2, (.ptr b66 0)), (3, (.ptr b74 0)), (5, (.fn (.func 73) [] [(.ptr b45 0), (.ptr b48 0), (.ptr b51 0), (.ptr b59 0)]))], [6], (atC Try.prog 72 [1, 1, 0, 0]), (atC Try.prog 72 [1, 1, 0, 1]), b77⟩), .obj b66 (.row 83 .whole [(.fn (.func 40) [] [(.ptr b22 0)])]), .obj b22 (.row 3 .whole [(.int .i64 c22_0)]), .obj b74 (.row 83 .whole [(.yield b71)]), .obj b71 (.loop ⟨.ready, none, 71, 13, treeOf [(2, (.ptr b69 0)), (4, .nils), (6, (.fn (.func 72) [] [(.ptr b63 0), (.ptr b66 0)]))], [7], (atC Try.prog 71 [1, 0, 1, 0, 0]), (atC Try.prog 71 [1, 0, 1, 0, 1]), b72⟩), .obj b69 (.row 36 .whole [s92]), .vec 44 5 l92.length s92 (l92.flatMap enc44), .obj b63 (.row 86 .whole [(.fn (.func 73) [] [(.ptr b45 0), (.ptr b48 0), (.ptr b51 0), (.ptr b59 0)])]), .obj b45 (.row 80 .whole [(.int .i64 c45.live), (.int .i64 c45.window), (.int .i64 c45.step)]), .obj b48 (.row 33 .whole [sc48_0]), .obj b51 (.row 33 .whole [sc51_0]), .obj b72 .defd, .obj b77 .defd, .obj b85 (.row 33 .whole [sc85_0]), .obj b88 (.row 33 .whole [sc88_0]), .obj b82 (.row 80 .whole [(.int .i64 c82.live), (.int .i64 c82.window), (.int .i64 c82.step)]), .obj b91 .defd])
      refine Run.inBlock ?_
      obtain ⟨hH147x, hS147⟩ := hH146.shut (i := 20) (ds := []) rfl
      have hH147 : Has Fr (setT M146 b91 none) [.obj b90 (.loop ⟨.exhausted, none, 73, 21, treeOf [(4, (.ptr b59 0)), (5, (.ptr b79 0)), (10, (.fn (.func 84) [] [(.ptr b85 0), (.ptr b88 0), (.ptr b82 0)]))], [11], (atC Try.prog 73 [1, 1, 0, 0]), (atC Try.prog 73 [1, 1, 0, 1]), b91⟩), .obj b59 (.row 22 .whole [s56]), .vec 3 1 l56.length s56 (l56.flatMap enc3), .obj b79 (.row 83 .whole [(.yield b76)]), .obj b76 (.loop ⟨.ready, none, 72, 16, treeOf [(2, (.ptr b66 0)), (3, (.ptr b74 0)), (5, (.fn (.func 73) [] [(.ptr b45 0), (.ptr b48 0), (.ptr b51 0), (.ptr b59 0)]))], [6], (atC Try.prog 72 [1, 1, 0, 0]), (atC Try.prog 72 [1, 1, 0, 1]), b77⟩), .obj b66 (.row 83 .whole [(.fn (.func 40) [] [(.ptr b22 0)])]), .obj b22 (.row 3 .whole [(.int .i64 c22_0)]), .obj b74 (.row 83 .whole [(.yield b71)]), .obj b71 (.loop ⟨.ready, none, 71, 13, treeOf [(2, (.ptr b69 0)), (4, .nils), (6, (.fn (.func 72) [] [(.ptr b63 0), (.ptr b66 0)]))], [7], (atC Try.prog 71 [1, 0, 1, 0, 0]), (atC Try.prog 71 [1, 0, 1, 0, 1]), b72⟩), .obj b69 (.row 36 .whole [s92]), .vec 44 5 l92.length s92 (l92.flatMap enc44), .obj b63 (.row 86 .whole [(.fn (.func 73) [] [(.ptr b45 0), (.ptr b48 0), (.ptr b51 0), (.ptr b59 0)])]), .obj b45 (.row 80 .whole [(.int .i64 c45.live), (.int .i64 c45.window), (.int .i64 c45.step)]), .obj b48 (.row 33 .whole [sc48_0]), .obj b51 (.row 33 .whole [sc51_0]), .obj b72 .defd, .obj b77 .defd, .obj b85 (.row 33 .whole [sc85_0]), .obj b88 (.row 33 .whole [sc88_0]), .obj b82 (.row 80 .whole [(.int .i64 c82.live), (.int .i64 c82.window), (.int .i64 c82.step)]), .vec 0 0 0 .nils []] := hH147x
      refine Run.fallRange Try.func73 (hS147 _ rfl) res_nil ?_
      refine Run.endX hH147 (i := 4) rfl (fun hc => by cases hc) ?_
      intro M149 (hH149 : Has Fr M149 [.obj b90 (.loop ⟨.exhausted, none, 73, 21, treeOf [(4, (.ptr b59 0)), (5, (.ptr b79 0)), (10, (.fn (.func 84) [] [(.ptr b85 0), (.ptr b88 0), (.ptr b82 0)]))], [11], (atC Try.prog 73 [1, 1, 0, 0]), (atC Try.prog 73 [1, 1, 0, 1]), b91⟩), .obj b59 (.row 22 .whole [s56]), .vec 3 1 l56.length s56 (l56.flatMap enc3), .obj b79 (.row 83 .whole [(.yield b76)]), .obj b76 (.loop ⟨.exhausted, none, 72, 16, treeOf [(2, (.ptr b66 0)), (3, (.ptr b74 0)), (5, (.fn (.func 73) [] [(.ptr b45 0), (.ptr b48 0), (.ptr b51 0), (.ptr b59 0)]))], [6], (atC Try.prog 72 [1, 1, 0, 0]), (atC Try.prog 72 [1, 1, 0, 1]), b77⟩), .obj b66 (.row 83 .whole [(.fn (.func 40) [] [(.ptr b22 0)])]), .obj b22 (.row 3 .whole [(.int .i64 c22_0)]), .obj b74 (.row 83 .whole [(.yield b71)]), .obj b71 (.loop ⟨.ready, none, 71, 13, treeOf [(2, (.ptr b69 0)), (4, .nils), (6, (.fn (.func 72) [] [(.ptr b63 0), (.ptr b66 0)]))], [7], (atC Try.prog 71 [1, 0, 1, 0, 0]), (atC Try.prog 71 [1, 0, 1, 0, 1]), b72⟩), .obj b69 (.row 36 .whole [s92]), .vec 44 5 l92.length s92 (l92.flatMap enc44), .obj b63 (.row 86 .whole [(.fn (.func 73) [] [(.ptr b45 0), (.ptr b48 0), (.ptr b51 0), (.ptr b59 0)])]), .obj b45 (.row 80 .whole [(.int .i64 c45.live), (.int .i64 c45.window), (.int .i64 c45.step)]), .obj b48 (.row 33 .whole [sc48_0]), .obj b51 (.row 33 .whole [sc51_0]), .obj b72 .defd, .obj b77 .defd, .obj b85 (.row 33 .whole [sc85_0]), .obj b88 (.row 33 .whole [sc88_0]), .obj b82 (.row 80 .whole [(.int .i64 c82.live), (.int .i64 c82.window), (.int .i64 c82.step)]), .vec 0 0 0 .nils []])
      refine Run.inBlock ?_
      obtain ⟨hH150x, hS150⟩ := hH149.shut (i := 16) (ds := []) rfl
      have hH150 : Has Fr (setT M149 b77 none) [.obj b90 (.loop ⟨.exhausted, none, 73, 21, treeOf [(4, (.ptr b59 0)), (5, (.ptr b79 0)), (10, (.fn (.func 84) [] [(.ptr b85 0), (.ptr b88 0), (.ptr b82 0)]))], [11], (atC Try.prog 73 [1, 1, 0, 0]), (atC Try.prog 73 [1, 1, 0, 1]), b91⟩), .obj b59 (.row 22 .whole [s56]), .vec 3 1 l56.length s56 (l56.flatMap enc3), .obj b79 (.row 83 .whole [(.yield b76)]), .obj b76 (.loop ⟨.exhausted, none, 72, 16, treeOf [(2, (.ptr b66 0)), (3, (.ptr b74 0)), (5, (.fn (.func 73) [] [(.ptr b45 0), (.ptr b48 0), (.ptr b51 0), (.ptr b59 0)]))], [6], (atC Try.prog 72 [1, 1, 0, 0]), (atC Try.prog 72 [1, 1, 0, 1]), b77⟩), .obj b66 (.row 83 .whole [(.fn (.func 40) [] [(.ptr b22 0)])]), .obj b22 (.row 3 .whole [(.int .i64 c22_0)]), .obj b74 (.row 83 .whole [(.yield b71)]), .obj b71 (.loop ⟨.ready, none, 71, 13, treeOf [(2, (.ptr b69 0)), (4, .nils), (6, (.fn (.func 72) [] [(.ptr b63 0), (.ptr b66 0)]))], [7], (atC Try.prog 71 [1, 0, 1, 0, 0]), (atC Try.prog 71 [1, 0, 1, 0, 1]), b72⟩), .obj b69 (.row 36 .whole [s92]), .vec 44 5 l92.length s92 (l92.flatMap enc44), .obj b63 (.row 86 .whole [(.fn (.func 73) [] [(.ptr b45 0), (.ptr b48 0), (.ptr b51 0), (.ptr b59 0)])]), .obj b45 (.row 80 .whole [(.int .i64 c45.live), (.int .i64 c45.window), (.int .i64 c45.step)]), .obj b48 (.row 33 .whole [sc48_0]), .obj b51 (.row 33 .whole [sc51_0]), .obj b72 .defd, .vec 0 0 0 .nils [], .obj b85 (.row 33 .whole [sc85_0]), .obj b88 (.row 33 .whole [sc88_0]), .obj b82 (.row 80 .whole [(.int .i64 c82.live), (.int .i64 c82.window), (.int .i64 c82.step)]), .vec 0 0 0 .nils []] := hH150x
      refine Run.fallRange Try.func72 (hS150 _ rfl) res_nil ?_
      refine Run.endX hH150 (i := 8) rfl (fun hc => by cases hc) ?_
      intro M152 (hH152 : Has Fr M152 [.obj b90 (.loop ⟨.exhausted, none, 73, 21, treeOf [(4, (.ptr b59 0)), (5, (.ptr b79 0)), (10, (.fn (.func 84) [] [(.ptr b85 0), (.ptr b88 0), (.ptr b82 0)]))], [11], (atC Try.prog 73 [1, 1, 0, 0]), (atC Try.prog 73 [1, 1, 0, 1]), b91⟩), .obj b59 (.row 22 .whole [s56]), .vec 3 1 l56.length s56 (l56.flatMap enc3), .obj b79 (.row 83 .whole [(.yield b76)]), .obj b76 (.loop ⟨.exhausted, none, 72, 16, treeOf [(2, (.ptr b66 0)), (3, (.ptr b74 0)), (5, (.fn (.func 73) [] [(.ptr b45 0), (.ptr b48 0), (.ptr b51 0), (.ptr b59 0)]))], [6], (atC Try.prog 72 [1, 1, 0, 0]), (atC Try.prog 72 [1, 1, 0, 1]), b77⟩), .obj b66 (.row 83 .whole [(.fn (.func 40) [] [(.ptr b22 0)])]), .obj b22 (.row 3 .whole [(.int .i64 c22_0)]), .obj b74 (.row 83 .whole [(.yield b71)]), .obj b71 (.loop ⟨.exhausted, none, 71, 13, treeOf [(2, (.ptr b69 0)), (4, .nils), (6, (.fn (.func 72) [] [(.ptr b63 0), (.ptr b66 0)]))], [7], (atC Try.prog 71 [1, 0, 1, 0, 0]), (atC Try.prog 71 [1, 0, 1, 0, 1]), b72⟩), .obj b69 (.row 36 .whole [s92]), .vec 44 5 l92.length s92 (l92.flatMap enc44), .obj b63 (.row 86 .whole [(.fn (.func 73) [] [(.ptr b45 0), (.ptr b48 0), (.ptr b51 0), (.ptr b59 0)])]), .obj b45 (.row 80 .whole [(.int .i64 c45.live), (.int .i64 c45.window), (.int .i64 c45.step)]), .obj b48 (.row 33 .whole [sc48_0]), .obj b51 (.row 33 .whole [sc51_0]), .obj b72 .defd, .vec 0 0 0 .nils [], .obj b85 (.row 33 .whole [sc85_0]), .obj b88 (.row 33 .whole [sc88_0]), .obj b82 (.row 80 .whole [(.int .i64 c82.live), (.int .i64 c82.window), (.int .i64 c82.step)]), .vec 0 0 0 .nils []])
      refine Run.inBlock (Run.seq (Run.region ?_))
      refine Run.opG wantS_none (ex_load1 rfl (hH152.cells (i := 9) rfl 0 rfl) rdLe_rfl agg36) rfl ?_
      refine Run.opG wantS_none (ex_assign rfl) rfl ?_
      refine Run.opsEnd ?_
      obtain ⟨hH153x, hS153⟩ := hH152.shut (i := 15) (ds := []) rfl
      have hH153 : Has Fr (setT M152 b72 none) [.obj b90 (.loop ⟨.exhausted, none, 73, 21, treeOf [(4, (.ptr b59 0)), (5, (.ptr b79 0)), (10, (.fn (.func 84) [] [(.ptr b85 0), (.ptr b88 0), (.ptr b82 0)]))], [11], (atC Try.prog 73 [1, 1, 0, 0]), (atC Try.prog 73 [1, 1, 0, 1]), b91⟩), .obj b59 (.row 22 .whole [s56]), .vec 3 1 l56.length s56 (l56.flatMap enc3), .obj b79 (.row 83 .whole [(.yield b76)]), .obj b76 (.loop ⟨.exhausted, none, 72, 16, treeOf [(2, (.ptr b66 0)), (3, (.ptr b74 0)), (5, (.fn (.func 73) [] [(.ptr b45 0), (.ptr b48 0), (.ptr b51 0), (.ptr b59 0)]))], [6], (atC Try.prog 72 [1, 1, 0, 0]), (atC Try.prog 72 [1, 1, 0, 1]), b77⟩), .obj b66 (.row 83 .whole [(.fn (.func 40) [] [(.ptr b22 0)])]), .obj b22 (.row 3 .whole [(.int .i64 c22_0)]), .obj b74 (.row 83 .whole [(.yield b71)]), .obj b71 (.loop ⟨.exhausted, none, 71, 13, treeOf [(2, (.ptr b69 0)), (4, .nils), (6, (.fn (.func 72) [] [(.ptr b63 0), (.ptr b66 0)]))], [7], (atC Try.prog 71 [1, 0, 1, 0, 0]), (atC Try.prog 71 [1, 0, 1, 0, 1]), b72⟩), .obj b69 (.row 36 .whole [s92]), .vec 44 5 l92.length s92 (l92.flatMap enc44), .obj b63 (.row 86 .whole [(.fn (.func 73) [] [(.ptr b45 0), (.ptr b48 0), (.ptr b51 0), (.ptr b59 0)])]), .obj b45 (.row 80 .whole [(.int .i64 c45.live), (.int .i64 c45.window), (.int .i64 c45.step)]), .obj b48 (.row 33 .whole [sc48_0]), .obj b51 (.row 33 .whole [sc51_0]), .vec 0 0 0 .nils [], .vec 0 0 0 .nils [], .obj b85 (.row 33 .whole [sc85_0]), .obj b88 (.row 33 .whole [sc88_0]), .obj b82 (.row 80 .whole [(.int .i64 c82.live), (.int .i64 c82.window), (.int .i64 c82.step)]), .vec 0 0 0 .nils []] := hH153x
      refine Run.retTo Try.func71 (hS153 _ rfl) (res_tmp rfl res_nil) rfl ?_
      refine Run.opG wantS_none (ex_assign rfl) rfl ?_
      refine Run.opsEnd ?_
      refine Run.retTo Try.func41 rfl (res_tmp rfl res_nil) rfl ?_
      refine Run.opG wantS_none (ex_assign rfl) rfl ?_
      refine Run.opG wantS_none (ex_assign rfl) rfl ?_
      refine Run.opsEnd ?_
      cases h
      exact Run.ret Try.func14 rfl (res_tmp rfl (res_tmp rfl res_nil)) ⟨_, rfl, (hH153.pick [10] rfl rfl).upF (none_le _)⟩

def search_Candidates (F : Nat) (a0 a1 : (List S_api_Trigger)) (a2 a3 a4 a5 : Int) : Option ((List S_api_Candidate) × Int) :=
  bnd (search_clock_check F (S_search_clock.mk a2 a3 a4) ([a0, a1] : List (List S_api_Trigger))) fun r32 =>
  bif (!(r32 == (0 : Int))) then
    some (([] : List S_api_Candidate), r32)
  else
    bnd (search_clock_slides F (S_search_clock.mk a2 a3 a4)) fun r37 =>
    bnd (search_isFrom F (0 : Int) a5 r37) fun r39 =>
    bif (!r39) then
      some (([] : List S_api_Candidate), (8 : Int))
    else
      bnd (search_clock_statistics F (S_search_clock.mk a2 a3 a4) a0 a1) fun r55 =>
      search_Candidates_1 F F a0 (a0.length : Int) (0 : Int) a5 (S_search_clock.mk a2 a3 a4) a0 a1 a0 a1 (S_search_clock.mk a2 a3 a4) r55 ([] : List S_api_Candidate)

theorem search_Candidates_ok (F : Nat) (a0 a1 : (List S_api_Trigger)) (a2 a3 a4 a5 : Int) (s0 s1 : SV) (r : (List S_api_Candidate) × Int) (M : Mem) (hs0 : Slc (rd M) 3 (FlatR enc73) s0 a0) (hs1 : Slc (rd M) 3 (FlatR enc73) s1 a1) (h : search_Candidates F a0 a1 a2 a3 a4 a5 = some r) : CallsM Try.prog 14 [s0, s1, (.int .i64 a2), (.int .i64 a3), (.int .i64 a4), (.int .i64 a5)] M (fun s M' => ∃ q1, s = (.tuple [q1, (.int .i64 r.2)]) ∧ New M M' [.vec 44 5 r.1.length q1 (r.1.flatMap enc44)]) := by
  refine CallsM.fresh (Q := search_Candidates_post r) Try.func14 rfl rfl ?_ (by rintro s Me ⟨q1, rfl, hx⟩ ha hw; exact ⟨_, rfl, New.of rfl hx ha hw⟩)
  rw [search_Candidates] at h
  replace hs0 := hs0.mono (rdLe_frozen M) (fun _ _ h => h)
  replace hs1 := hs1.mono (rdLe_frozen M) (fun _ _ h => h)
  have hH := Has.nil (frozen M)
  refine Run.seq (Run.region ?_)
  refine Run.opX wantS_none rfl (ExG.box rfl rfl hH) ?_
  rintro _ M23 ⟨b22, rfl, hH23⟩
  refine Run.opG wantS_none (ex_assign rfl) rfl ?_
  refine Run.opG wantS_none (ex_assign rfl) rfl ?_
  refine Run.opsEnd (Run.seq (Run.region ?_))
  refine Run.opG wantS_none (ex_move rfl) rfl ?_
  refine Run.opG wantS_none (ex_move rfl) rfl ?_
  refine Run.opG wantS_none (ex_move rfl) rfl ?_
  refine Run.opG wantS_none (ex_build (r := [(.int .i64 a2), (.int .i64 a3), (.int .i64 a4)]) rfl zer80 pls80 rfl) rfl ?_
  refine Run.opX wantS_none rfl (ExG.new (v := fun b => .ptr b 0) (ex_alloc zer80) hH23) ?_
  rintro _ M26 ⟨b25, rfl, hH26⟩
  refine Run.opX wantS_none rfl (ExG.storeC (c' := [(.int .i64 a2), (.int .i64 a3), (.int .i64 a4)]) rfl rfl rfl hH26 (i := 0) rfl sz80 rfl rfl rfl rfl rfl) ?_
  rintro _ M27 ⟨rfl, (hH27 : Has (ro (frozen M)) M27 [.obj b25 (.row 80 .whole [(.int .i64 a2), (.int .i64 a3), (.int .i64 a4)]), .obj b22 (.row 3 .whole [(.int .i64 a5)])])⟩
  refine Run.opsEnd (Run.seq (Run.seq (Run.region ?_)))
  refine Run.opG wantS_none (ex_loadA rfl (hH27.cells (i := 0) rfl 0 rfl) rdLe_rfl agg80 rfl rfl rfl) rfl ?_
  refine Run.opG wantS_none (ex_move rfl) rfl ?_
  refine Run.opG wantS_none (ex_move rfl) rfl ?_
  have hr29 : Rows (rep33 (ro (frozen M))) 1 [s0, s1] ([a0, a1] : List (List S_api_Trigger)) := (Rows.cons (cs := [s0]) rfl ⟨s0, rfl, hs0⟩ (Rows.cons (cs := [s1]) rfl ⟨s1, rfl, hs1⟩ Rows.nil))
  refine Run.opX wantS_none rfl (ExG.builtR (z := 1) (c := [s0, s1]) rfl elt116 rfl (by simp only [fillS, cells_one (slc_one hs0), cells_one (slc_one hs1)]; rfl) rfl hH27) ?_
  rintro s29 M30 (hH30 : Has (ro (frozen M)) M30 [.vec 33 1 ([a0, a1] : List (List S_api_Trigger)).length s29 [s0, s1], .obj b25 (.row 80 .whole [(.int .i64 a2), (.int .i64 a3), (.int .i64 a4)]), .obj b22 (.row 3 .whole [(.int .i64 a5)])])
  obtain ⟨r32, hr32, h⟩ := bnd_some h
  refine Run.callP wantS_none (ex_call rfl mkk38 cal38) rfl (search_clock_check_ok F (S_search_clock.mk a2 a3 a4) ([a0, a1] : List (List S_api_Trigger)) s29 _ _ (((hH30.slcR (i := 0) rfl hr29)).mono (fun _ _ h => h) (fun _ _ => rep33_mo hH30.le)) hr32) ?_
  refine Run.opG wantS_none (ex_assign rfl) rfl ?_
  refine Run.opsEnd (Run.block (Run.seq (Run.region ?_)))
  refine Run.opG wantS_none (ex_move rfl) rfl ?_
  refine Run.opG wantS_none (ex_neq rfl rfl) rfl ?_
  refine Run.opG wantS_none (ex_assign rfl) rfl ?_
  refine Run.opsEnd ?_
  rcases btf ((!(r32 == (0 : Int)))) with hc34 | hc34
  · have h := bif_t hc34 h
    refine Run.condT' rfl hc34 ?_
    refine Run.seq (Run.region ?_)
    refine Run.opG wantS_none (ex_move rfl) rfl ?_
    refine Run.opG wantS_none (ex_assign rfl) rfl ?_
    refine Run.opG wantS_none (ex_assign rfl) rfl ?_
    refine Run.opsEnd ?_
    have hH36 : Has (ro (frozen M)) M30 [.vec 44 5 ([] : List S_api_Candidate).length .nils (([] : List S_api_Candidate).flatMap enc44), .vec 33 1 ([a0, a1] : List (List S_api_Trigger)).length s29 [s0, s1], .obj b25 (.row 80 .whole [(.int .i64 a2), (.int .i64 a3), (.int .i64 a4)]), .obj b22 (.row 3 .whole [(.int .i64 a5)])] := hH30.nils 44 5
    cases h
    exact Run.ret Try.func14 rfl (res_tmp rfl (res_tmp rfl res_nil)) ⟨_, rfl, (hH36.pick [0] rfl rfl).upF (none_le _)⟩
  · have h := bif_f hc34 h
    refine Run.condF' rfl hc34 ?_
    refine Run.seq ?_
    refine Run.drawG plan14_1_1_0_1_0_1_1_0 ?_
    refine DrawG.fl rfl (ev_ex wantS_none (ex_load1 rfl (hH30.cells (i := 2) rfl 0 rfl) rdLe_rfl agg3)) rfl ?_
    refine DrawG.fl rfl (ev_ex wantS_none (ex_loadA rfl (hH30.cells (i := 1) rfl 0 rfl) rdLe_rfl agg80 rfl rfl rfl)) rfl ?_
    obtain ⟨r37, hr37, h⟩ := bnd_some h
    refine DrawG.callP rfl wantS_none (ex_call rfl mkk39 cal39) rfl (search_clock_slides_ok F (S_search_clock.mk a2 a3 a4) _ _ hr37) (st_cons rfl (ev_ex wantS_none (ex_load1 rfl (hH30.cells (i := 2) rfl 0 rfl) rdLe_rfl agg3)) rfl rfl rfl st_nil) ?_
    obtain ⟨r39, hr39, h⟩ := bnd_some h
    refine DrawG.callP rfl wantS_none (ex_call rfl mkk36 cal36) rfl (search_isFrom_ok F (0 : Int) a5 r37 _ _ hr39) st_nil ?_
    refine DrawG.fl rfl (ev_ex wantS_none (ex_not rfl)) rfl ?_
    refine DrawG.fl rfl (ev_ex wantS_none (ex_assign rfl)) rfl ?_
    refine DrawG.sync ?_
    refine DrawG.nil ?_
    rcases btf ((!r39)) with hc41 | hc41
    · have h := bif_t hc41 h
      refine Run.condT' rfl hc41 ?_
      refine Run.seq (Run.region ?_)
      refine Run.opG wantS_none (ex_assign rfl) rfl ?_
      refine Run.opG wantS_none (ex_assign rfl) rfl ?_
      refine Run.opsEnd ?_
      have hH43 : Has (ro (frozen M)) M30 [.vec 44 5 ([] : List S_api_Candidate).length .nils (([] : List S_api_Candidate).flatMap enc44), .vec 33 1 ([a0, a1] : List (List S_api_Trigger)).length s29 [s0, s1], .obj b25 (.row 80 .whole [(.int .i64 a2), (.int .i64 a3), (.int .i64 a4)]), .obj b22 (.row 3 .whole [(.int .i64 a5)])] := hH30.nils 44 5
      cases h
      exact Run.ret Try.func14 rfl (res_tmp rfl (res_tmp rfl res_nil)) ⟨_, rfl, (hH43.pick [0] rfl rfl).upF (none_le _)⟩
    · have h := bif_f hc41 h
      refine Run.condF' rfl hc41 ?_
      refine Run.skip (Run.inBlock (Run.seq (Run.region ?_)))
      refine Run.opG wantS_none (ex_makeFunc rfl rfl) rfl ?_
      refine Run.opG wantS_none (ex_assign rfl) rfl ?_
      refine Run.opsEnd (Run.seq (Run.region ?_))
      refine Run.opG wantS_none (ex_loadA rfl (hH30.cells (i := 1) rfl 0 rfl) rdLe_rfl agg80 rfl rfl rfl) rfl ?_
      refine Run.opG wantS_none (ex_move rfl) rfl ?_
      refine Run.opG wantS_none (ex_move rfl) rfl ?_
      refine Run.enter wantS_none (ex_call rfl mkk43 cal43) Try.func43 rfl rfl ?_
      refine Run.seq (Run.region ?_)
      refine Run.opX wantS_none rfl (ExG.box rfl rfl hH30) ?_
      rintro _ M46 ⟨b45, rfl, hH46⟩
      refine Run.opX wantS_none rfl (ExG.box rfl (cells_one (slc_one hs0)) hH46) ?_
      rintro _ M49 ⟨b48, rfl, hH49⟩
      refine Run.opX wantS_none rfl (ExG.box rfl (cells_one (slc_one hs1)) hH49) ?_
      rintro _ M52 ⟨b51, rfl, hH52⟩
      refine Run.opG wantS_none (ex_assign rfl) rfl ?_
      refine Run.opsEnd (Run.seq (Run.region ?_))
      refine Run.opG wantS_none (ex_loadA rfl (hH52.cells (i := 2) rfl 0 rfl) rdLe_rfl agg80 rfl rfl rfl) rfl ?_
      refine Run.opG wantS_none (ex_load1 rfl (hH52.cells (i := 1) rfl 0 rfl) rdLe_rfl agg33) rfl ?_
      refine Run.opG wantS_none (ex_load1 rfl (hH52.cells (i := 0) rfl 0 rfl) rdLe_rfl agg33) rfl ?_
      obtain ⟨r55, hr55, h⟩ := bnd_some h
      refine Run.callX wantS_none (ex_call rfl mkk48 cal48) rfl (search_clock_statistics_ok F (S_search_clock.mk a2 a3 a4) a0 a1 s0 s1 _ _ (hH52.slcF hs0) (hH52.slcF hs1) hr55) ?_
      rintro s55_0 M57 ⟨_, rfl, hN55⟩
      have hH57 : Has (ro (frozen M)) M57 [.vec 3 1 r55.length s55_0 (r55.flatMap enc3), .obj b51 (.row 33 .whole [s1]), .obj b48 (.row 33 .whole [s0]), .obj b45 (.row 80 .whole [(.int .i64 a2), (.int .i64 a3), (.int .i64 a4)]), .vec 33 1 ([a0, a1] : List (List S_api_Trigger)).length s29 [s0, s1], .obj b25 (.row 80 .whole [(.int .i64 a2), (.int .i64 a3), (.int .i64 a4)]), .obj b22 (.row 3 .whole [(.int .i64 a5)])] := hN55.1 _ _ hH52
      refine Run.opX wantS_none rfl (ExG.new (v := fun b => .ptr b 0) (ex_alloc zer22) hH57) ?_
      rintro _ M60 ⟨b59, rfl, hH60⟩
      refine Run.opX wantS_none rfl (ExG.storeC (c' := [s55_0]) rfl rfl (cells_one (vec_one hH60 (i := 1) rfl)) hH60 (i := 0) rfl sz22 rfl rfl rfl (ones_cons (vec_one hH60 (i := 1) rfl) ones_nil) rfl) ?_
      rintro _ M61 ⟨rfl, (hH61 : Has (ro (frozen M)) M61 [.obj b59 (.row 22 .whole [s55_0]), .vec 3 1 r55.length s55_0 (r55.flatMap enc3), .obj b51 (.row 33 .whole [s1]), .obj b48 (.row 33 .whole [s0]), .obj b45 (.row 80 .whole [(.int .i64 a2), (.int .i64 a3), (.int .i64 a4)]), .vec 33 1 ([a0, a1] : List (List S_api_Trigger)).length s29 [s0, s1], .obj b25 (.row 80 .whole [(.int .i64 a2), (.int .i64 a3), (.int .i64 a4)]), .obj b22 (.row 3 .whole [(.int .i64 a5)])])⟩
      refine Run.opsEnd (Run.seq (Run.region ?_))
      refine Run.opG wantS_none (ex_makeFunc rfl rfl) rfl ?_
      refine Run.opG wantS_none (ex_assign rfl) rfl ?_
      refine Run.opsEnd ?_
      refine Run.retTo Try.func43 rfl (res_tmp rfl res_nil) rfl ?_
      refine Run.opG wantS_none (ex_move rfl) rfl ?_
      refine Run.enter wantS_none (ex_call rfl mkk42 cal42) Try.func42 rfl rfl ?_
      refine Run.seq (Run.region ?_)
      refine Run.opX wantS_none rfl (ExG.box rfl rfl hH61) ?_
      rintro _ M64 ⟨b63, rfl, hH64⟩
      refine Run.opX wantS_none rfl (ExG.box rfl rfl hH64) ?_
      rintro _ M67 ⟨b66, rfl, hH67⟩
      refine Run.opG wantS_none (ex_assign rfl) rfl ?_
      refine Run.opsEnd (Run.seq (Run.region ?_))
      refine Run.opG wantS_none (ex_makeFunc rfl rfl) rfl ?_
      refine Run.opG wantS_none (ex_assign rfl) rfl ?_
      refine Run.opsEnd ?_
      refine Run.retTo Try.func42 rfl (res_tmp rfl res_nil) rfl ?_
      refine Run.enter wantS_none (ex_call rfl mkk41 cal41) Try.func41 rfl rfl ?_
      refine Run.seq (Run.region ?_)
      refine Run.opG wantS_none (ex_assign rfl) rfl ?_
      refine Run.opsEnd (Run.seq (Run.region ?_))
      refine Run.opG wantS_none (ex_move rfl) rfl ?_
      refine Run.enter wantS_none (ex_call rfl mkk71 cal71) Try.func71 rfl rfl ?_
      refine Run.seq (Run.region ?_)
      refine Run.opX wantS_none rfl (ExG.box rfl rfl hH67) ?_
      rintro _ M70 ⟨b69, rfl, hH70⟩
      refine Run.opG wantS_none (ex_assign rfl) rfl ?_
      refine Run.opsEnd (Run.seq (Run.seq (Run.region ?_)))
      refine Run.opG wantS_none (ex_move rfl) rfl ?_
      refine Run.opsEnd (Run.block ?_)
      refine Run.pick [2, 4, 6] ?_
      refine Run.rangeX rfl cal72 Try.func72 rfl rfl hH70 ?_
      intro b72 b71 M71 (hH71 : Has (ro (frozen M)) M71 [.obj b71 (.loop ⟨.ready, none, 71, 13, treeOf [(2, (.ptr b69 0)), (4, .nils), (6, (.fn (.func 72) [] [(.ptr b63 0), (.ptr b66 0)]))], [7], (atC Try.prog 71 [1, 0, 1, 0, 0]), (atC Try.prog 71 [1, 0, 1, 0, 1]), b72⟩), .obj b72 .defd, .obj b69 (.row 36 .whole [.nils]), .obj b66 (.row 83 .whole [(.fn (.func 40) [] [(.ptr b22 0)])]), .obj b63 (.row 86 .whole [(.fn (.func 73) [] [(.ptr b45 0), (.ptr b48 0), (.ptr b51 0), (.ptr b59 0)])]), .obj b59 (.row 22 .whole [s55_0]), .vec 3 1 r55.length s55_0 (r55.flatMap enc3), .obj b51 (.row 33 .whole [s1]), .obj b48 (.row 33 .whole [s0]), .obj b45 (.row 80 .whole [(.int .i64 a2), (.int .i64 a3), (.int .i64 a4)]), .vec 33 1 ([a0, a1] : List (List S_api_Trigger)).length s29 [s0, s1], .obj b25 (.row 80 .whole [(.int .i64 a2), (.int .i64 a3), (.int .i64 a4)]), .obj b22 (.row 3 .whole [(.int .i64 a5)])])
      refine Run.seq (Run.region ?_)
      refine Run.opX wantS_none rfl (ExG.box rfl rfl hH71) ?_
      rintro _ M75 ⟨b74, rfl, hH75⟩
      refine Run.opsEnd (Run.seq (Run.region ?_))
      refine Run.opG wantS_none (ex_load1 rfl (hH75.cells (i := 5) rfl 0 rfl) rdLe_rfl agg86) rfl ?_
      refine Run.opsEnd (Run.block ?_)
      refine Run.pick [2, 3, 5] ?_
      refine Run.rangeX rfl cal73 Try.func73 rfl rfl hH75 ?_
      intro b77 b76 M76 (hH76 : Has (ro (frozen M)) M76 [.obj b76 (.loop ⟨.ready, none, 72, 16, treeOf [(2, (.ptr b66 0)), (3, (.ptr b74 0)), (5, (.fn (.func 73) [] [(.ptr b45 0), (.ptr b48 0), (.ptr b51 0), (.ptr b59 0)]))], [6], (atC Try.prog 72 [1, 1, 0, 0]), (atC Try.prog 72 [1, 1, 0, 1]), b77⟩), .obj b77 .defd, .obj b74 (.row 83 .whole [(.yield b71)]), .obj b71 (.loop ⟨.ready, none, 71, 13, treeOf [(2, (.ptr b69 0)), (4, .nils), (6, (.fn (.func 72) [] [(.ptr b63 0), (.ptr b66 0)]))], [7], (atC Try.prog 71 [1, 0, 1, 0, 0]), (atC Try.prog 71 [1, 0, 1, 0, 1]), b72⟩), .obj b72 .defd, .obj b69 (.row 36 .whole [.nils]), .obj b66 (.row 83 .whole [(.fn (.func 40) [] [(.ptr b22 0)])]), .obj b63 (.row 86 .whole [(.fn (.func 73) [] [(.ptr b45 0), (.ptr b48 0), (.ptr b51 0), (.ptr b59 0)])]), .obj b59 (.row 22 .whole [s55_0]), .vec 3 1 r55.length s55_0 (r55.flatMap enc3), .obj b51 (.row 33 .whole [s1]), .obj b48 (.row 33 .whole [s0]), .obj b45 (.row 80 .whole [(.int .i64 a2), (.int .i64 a3), (.int .i64 a4)]), .vec 33 1 ([a0, a1] : List (List S_api_Trigger)).length s29 [s0, s1], .obj b25 (.row 80 .whole [(.int .i64 a2), (.int .i64 a3), (.int .i64 a4)]), .obj b22 (.row 3 .whole [(.int .i64 a5)])])
      refine Run.seq (Run.region ?_)
      refine Run.opX wantS_none rfl (ExG.box rfl rfl hH76) ?_
      rintro _ M80 ⟨b79, rfl, hH80⟩
      refine Run.opsEnd (Run.seq (Run.region ?_))
      refine Run.opG wantS_none (ex_loadA rfl (hH80.cells (i := 13) rfl 0 rfl) rdLe_rfl agg80 rfl rfl rfl) rfl ?_
      refine Run.opG wantS_none (ex_load1 rfl (hH80.cells (i := 12) rfl 0 rfl) rdLe_rfl agg33) rfl ?_
      refine Run.opG wantS_none (ex_load1 rfl (hH80.cells (i := 11) rfl 0 rfl) rdLe_rfl agg33) rfl ?_
      refine Run.enter wantS_none (ex_call rfl mkk51 cal51) Try.func51 rfl rfl ?_
      refine Run.seq (Run.region ?_)
      refine Run.opX wantS_none rfl (ExG.box rfl rfl hH80) ?_
      rintro _ M83 ⟨b82, rfl, hH83⟩
      refine Run.opX wantS_none rfl (ExG.box rfl (cells_one (slc_one hs0)) hH83) ?_
      rintro _ M86 ⟨b85, rfl, hH86⟩
      refine Run.opX wantS_none rfl (ExG.box rfl (cells_one (slc_one hs1)) hH86) ?_
      rintro _ M89 ⟨b88, rfl, hH89⟩
      refine Run.opG wantS_none (ex_assign rfl) rfl ?_
      refine Run.opsEnd (Run.seq (Run.region ?_))
      refine Run.opG wantS_none (ex_makeFunc rfl rfl) rfl ?_
      refine Run.opG wantS_none (ex_assign rfl) rfl ?_
      refine Run.opsEnd ?_
      refine Run.retTo Try.func51 rfl (res_tmp rfl res_nil) rfl ?_
      refine Run.opsEnd (Run.block ?_)
      refine Run.pick [4, 5, 10] ?_
      refine Run.rangeX rfl cal84 Try.func84 rfl rfl hH89 ?_
      intro b91 b90 M90 (hH90 : Has (ro (frozen M)) M90 [.obj b90 (.loop ⟨.ready, none, 73, 21, treeOf [(4, (.ptr b59 0)), (5, (.ptr b79 0)), (10, (.fn (.func 84) [] [(.ptr b85 0), (.ptr b88 0), (.ptr b82 0)]))], [11], (atC Try.prog 73 [1, 1, 0, 0]), (atC Try.prog 73 [1, 1, 0, 1]), b91⟩), .obj b91 .defd, .obj b88 (.row 33 .whole [s1]), .obj b85 (.row 33 .whole [s0]), .obj b82 (.row 80 .whole [(.int .i64 a2), (.int .i64 a3), (.int .i64 a4)]), .obj b79 (.row 83 .whole [(.yield b76)]), .obj b76 (.loop ⟨.ready, none, 72, 16, treeOf [(2, (.ptr b66 0)), (3, (.ptr b74 0)), (5, (.fn (.func 73) [] [(.ptr b45 0), (.ptr b48 0), (.ptr b51 0), (.ptr b59 0)]))], [6], (atC Try.prog 72 [1, 1, 0, 0]), (atC Try.prog 72 [1, 1, 0, 1]), b77⟩), .obj b77 .defd, .obj b74 (.row 83 .whole [(.yield b71)]), .obj b71 (.loop ⟨.ready, none, 71, 13, treeOf [(2, (.ptr b69 0)), (4, .nils), (6, (.fn (.func 72) [] [(.ptr b63 0), (.ptr b66 0)]))], [7], (atC Try.prog 71 [1, 0, 1, 0, 0]), (atC Try.prog 71 [1, 0, 1, 0, 1]), b72⟩), .obj b72 .defd, .obj b69 (.row 36 .whole [.nils]), .obj b66 (.row 83 .whole [(.fn (.func 40) [] [(.ptr b22 0)])]), .obj b63 (.row 86 .whole [(.fn (.func 73) [] [(.ptr b45 0), (.ptr b48 0), (.ptr b51 0), (.ptr b59 0)])]), .obj b59 (.row 22 .whole [s55_0]), .vec 3 1 r55.length s55_0 (r55.flatMap enc3), .obj b51 (.row 33 .whole [s1]), .obj b48 (.row 33 .whole [s0]), .obj b45 (.row 80 .whole [(.int .i64 a2), (.int .i64 a3), (.int .i64 a4)]), .vec 33 1 ([a0, a1] : List (List S_api_Trigger)).length s29 [s0, s1], .obj b25 (.row 80 .whole [(.int .i64 a2), (.int .i64 a3), (.int .i64 a4)]), .obj b22 (.row 3 .whole [(.int .i64 a5)])])
      refine Run.seq (Run.region ?_)
      refine Run.opG wantS_none (ex_load1 rfl (hH90.cells (i := 3) rfl 0 rfl) rdLe_rfl agg33) rfl ?_
      refine Run.opG wantS_none (ex_len' rfl hs0 lenk33) rfl ?_
      refine Run.opG wantS_none (ex_move rfl) rfl ?_
      refine Run.opsEnd (Run.block (Run.loop ?_))
      have hH93 : Has (ro (frozen M)) M90 [.vec 44 5 ([] : List S_api_Candidate).length .nils (([] : List S_api_Candidate).flatMap enc44), .obj b90 (.loop ⟨.ready, none, 73, 21, treeOf [(4, (.ptr b59 0)), (5, (.ptr b79 0)), (10, (.fn (.func 84) [] [(.ptr b85 0), (.ptr b88 0), (.ptr b82 0)]))], [11], (atC Try.prog 73 [1, 1, 0, 0]), (atC Try.prog 73 [1, 1, 0, 1]), b91⟩), .obj b91 .defd, .obj b88 (.row 33 .whole [s1]), .obj b85 (.row 33 .whole [s0]), .obj b82 (.row 80 .whole [(.int .i64 a2), (.int .i64 a3), (.int .i64 a4)]), .obj b79 (.row 83 .whole [(.yield b76)]), .obj b76 (.loop ⟨.ready, none, 72, 16, treeOf [(2, (.ptr b66 0)), (3, (.ptr b74 0)), (5, (.fn (.func 73) [] [(.ptr b45 0), (.ptr b48 0), (.ptr b51 0), (.ptr b59 0)]))], [6], (atC Try.prog 72 [1, 1, 0, 0]), (atC Try.prog 72 [1, 1, 0, 1]), b77⟩), .obj b77 .defd, .obj b74 (.row 83 .whole [(.yield b71)]), .obj b71 (.loop ⟨.ready, none, 71, 13, treeOf [(2, (.ptr b69 0)), (4, .nils), (6, (.fn (.func 72) [] [(.ptr b63 0), (.ptr b66 0)]))], [7], (atC Try.prog 71 [1, 0, 1, 0, 0]), (atC Try.prog 71 [1, 0, 1, 0, 1]), b72⟩), .obj b72 .defd, .obj b69 (.row 36 .whole [.nils]), .obj b66 (.row 83 .whole [(.fn (.func 40) [] [(.ptr b22 0)])]), .obj b63 (.row 86 .whole [(.fn (.func 73) [] [(.ptr b45 0), (.ptr b48 0), (.ptr b51 0), (.ptr b59 0)])]), .obj b59 (.row 22 .whole [s55_0]), .vec 3 1 r55.length s55_0 (r55.flatMap enc3), .obj b51 (.row 33 .whole [s1]), .obj b48 (.row 33 .whole [s0]), .obj b45 (.row 80 .whole [(.int .i64 a2), (.int .i64 a3), (.int .i64 a4)]), .vec 33 1 ([a0, a1] : List (List S_api_Trigger)).length s29 [s0, s1], .obj b25 (.row 80 .whole [(.int .i64 a2), (.int .i64 a3), (.int .i64 a4)]), .obj b22 (.row 3 .whole [(.int .i64 a5)])] := hH90.nils 44 5
      exact Run.low (.cons (fle_pick [] rfl) (.cons (fle_pick [] rfl) (.cons (fle_pick [2] rfl) (.cons (fle_pick [] rfl) (.cons (fle_pick [] rfl) .nil))))) (Run.pick [0, 2, 3, 10, 11, 12] (search_Candidates_1_ok F F a0 (a0.length : Int) (0 : Int) a5 (S_search_clock.mk a2 a3 a4) a0 a1 a0 a1 (S_search_clock.mk a2 a3 a4) r55 ([] : List S_api_Candidate) s0 s0 s1 s0 s1 b90 b59 s55_0 b79 b76 b66 b22 b74 b71 b69 .nils b63 b45 b48 b51 b72 b77 b85 b88 b82 b91 _ _ _ hs0 hs0 hs1 hs0 hs1 (hH93.pick [1, 15, 16, 6, 7, 13, 22, 9, 10, 12, 0, 14, 19, 18, 17, 11, 8, 4, 3, 5, 2] rfl rfl) h))

theorem mkk14 : makeK Try.prog 14 = none := by kernel_rfl
theorem cal14 : callable Try.prog 14 = true := by kernel_rfl
theorem lenk36 : lenK Try.prog 36 = some .sl := by kernel_rfl
abbrev law08_SearchAlarm_post (r : Bool) : SV → Mem → Prop := fun s _ => s = (.bool r)

def law08_SearchAlarm_3 (F : Nat) (hd2 : (List S_api_Trigger) → (List S_api_Trigger) → Int → Int → Int → S_ringdownlaw08_Clock → (List Int) → Option (Bool)) (v0 v1 : (List S_api_Trigger)) (v9 v10 v11 : Int) (c22 : S_ringdownlaw08_Clock) (l27 : (List Int)) : Option (Bool) :=
  hd2 v0 v1 v9 v10 (w64 (v11 + (1 : Int))) c22 l27

theorem law08_SearchAlarm_3_ok (F : Nat) (hd2 : (List S_api_Trigger) → (List S_api_Trigger) → Int → Int → Int → S_ringdownlaw08_Clock → (List Int) → Option (Bool)) (hhd2 : ∀ (v0 v1 : (List S_api_Trigger)) (v9 v10 v11 : Int) (c22 : S_ringdownlaw08_Clock) (l27 : (List Int)) (sv0 sv1 : SV) (b22 : Pos) (s27 : SV) (Fr : Rd) (M : Mem) (r : Bool) (hv0 : Slc Fr 3 (FlatR enc73) sv0 v0) (hv1 : Slc Fr 3 (FlatR enc73) sv1 v1) (hH : Has Fr M [.obj b22 (.row 35 .whole [(.int .i64 c22.Live), (.int .i64 c22.Window), (.int .i64 c22.Step), (.int .i64 c22.Limit)]), .vec 3 1 l27.length s27 (l27.flatMap enc3)]), hd2 v0 v1 v9 v10 v11 c22 l27 = some r → Run Try.prog ⟨⟨6, [], none⟩, []⟩ 86 (law08_SearchAlarm_post r) [(0, sv0), (1, sv1), (5, (.ptr b22 0)), (7, s27), (9, (.int .i64 v9)), (10, (.int .i64 v10)), (11, (.int .i64 v11))] [codeC Try.prog 6 [1, 1, 1, 1, 1, 0, 1, 0, 0], loopC Try.prog 6 [1, 1, 1, 1, 1, 0, 1, 0, 0], .inBlock 0, codeC Try.prog 6 [1, 1, 1, 1, 1, 1]] M) : ∀ (v0 v1 : (List S_api_Trigger)) (v9 v10 v11 : Int) (c22 : S_ringdownlaw08_Clock) (l27 : (List Int)) (sv0 sv1 : SV) (b22 : Pos) (s27 : SV) (Fr : Rd) (M : Mem) (r : Bool) (hv0 : Slc Fr 3 (FlatR enc73) sv0 v0) (hv1 : Slc Fr 3 (FlatR enc73) sv1 v1) (hH : Has Fr M [.obj b22 (.row 35 .whole [(.int .i64 c22.Live), (.int .i64 c22.Window), (.int .i64 c22.Step), (.int .i64 c22.Limit)]), .vec 3 1 l27.length s27 (l27.flatMap enc3)]), law08_SearchAlarm_3 F hd2 v0 v1 v9 v10 v11 c22 l27 = some r → Run Try.prog ⟨⟨6, [], none⟩, []⟩ 86 (law08_SearchAlarm_post r) [(0, sv0), (1, sv1), (5, (.ptr b22 0)), (7, s27), (9, (.int .i64 v9)), (10, (.int .i64 v10)), (11, (.int .i64 v11))] [itemC Try.prog 6 [1, 1, 1, 1, 1, 0, 1, 0, 0, 1, 1] 0, loopC Try.prog 6 [1, 1, 1, 1, 1, 0, 1, 0, 0], .inBlock 0, codeC Try.prog 6 [1, 1, 1, 1, 1, 1]] M := by
  intro v0 v1 v9 v10 v11 c22 l27 sv0 sv1 b22 s27 Fr M r hv0 hv1 hH h
  rw [law08_SearchAlarm_3] at h
  refine Run.opG wantS_none (ex_move rfl) rfl ?_
  refine Run.opG wantS_none (ex_add rfl rfl) rfl ?_
  refine Run.opG wantS_none (ex_assign rfl) rfl ?_
  refine Run.opsEnd (Run.inLoop ?_)
  exact Run.pick [0, 1, 5, 7, 9, 10, 11] (hhd2 v0 v1 v9 v10 (w64 (v11 + (1 : Int))) c22 l27 sv0 sv1 b22 s27 _ _ _ hv0 hv1 hH h)

def law08_SearchAlarm_4 (F : Nat) (v85 : Bool) : Option (Bool) :=
  some v85

theorem law08_SearchAlarm_4_ok (F : Nat) : ∀ (v85 : Bool) (Fr : Rd) (M : Mem) (r : Bool) (hH : Has Fr M []), law08_SearchAlarm_4 F v85 = some r → Run Try.prog ⟨⟨6, [], none⟩, []⟩ 86 (law08_SearchAlarm_post r) [(85, (.bool v85))] [itemC Try.prog 6 [1, 1, 1, 1, 1, 1, 0] 6, codeC Try.prog 6 [1, 1, 1, 1, 1, 1, 1]] M := by
  intro v85 Fr M r hH h
  rw [law08_SearchAlarm_4] at h
  refine Run.opG wantS_none (ex_assign rfl) rfl ?_
  refine Run.opsEnd ?_
  cases h
  exact Run.ret Try.func6 rfl (res_tmp rfl res_nil) rfl

def law08_SearchAlarm_2 (F : Nat) : Nat → (List S_api_Trigger) → (List S_api_Trigger) → Int → Int → Int → S_ringdownlaw08_Clock → (List Int) → Option (Bool)
  | 0, _, _, _, _, _, _, _ => none
  | N + 1, v0, v1, v9, v10, v11, c22, l27 =>
    bif (decide (v11 < (l27.length : Int))) then
      bnd (search_Slide F v1 c22.Live (w64 (v11 * c22.Step))) fun r40 =>
      bif (!(r40.2 == (0 : Int))) then
        some false
      else
        bnd (search_Candidates F v0 r40.1 c22.Live c22.Window c22.Step v9) fun r46 =>
        bif (!(r46.2 == (0 : Int))) then
          some false
        else
          bif (decide ((0 : Int) < (r46.1.length : Int))) then
            law08_SearchAlarm_3 F (law08_SearchAlarm_2 F N) v0 v1 v9 (w64 (v10 + (1 : Int))) v11 c22 l27
          else
            law08_SearchAlarm_3 F (law08_SearchAlarm_2 F N) v0 v1 v9 v10 v11 c22 l27
    else
      bif (decide (v10 ≤ v9)) then
        bnd (works F) fun r53 =>
        law08_SearchAlarm_4 F r53
      else
        law08_SearchAlarm_4 F false

theorem law08_SearchAlarm_2_ok (F : Nat) : ∀ (N : Nat), ∀ (v0 v1 : (List S_api_Trigger)) (v9 v10 v11 : Int) (c22 : S_ringdownlaw08_Clock) (l27 : (List Int)) (sv0 sv1 : SV) (b22 : Pos) (s27 : SV) (Fr : Rd) (M : Mem) (r : Bool) (hv0 : Slc Fr 3 (FlatR enc73) sv0 v0) (hv1 : Slc Fr 3 (FlatR enc73) sv1 v1) (hH : Has Fr M [.obj b22 (.row 35 .whole [(.int .i64 c22.Live), (.int .i64 c22.Window), (.int .i64 c22.Step), (.int .i64 c22.Limit)]), .vec 3 1 l27.length s27 (l27.flatMap enc3)]), law08_SearchAlarm_2 F N v0 v1 v9 v10 v11 c22 l27 = some r → Run Try.prog ⟨⟨6, [], none⟩, []⟩ 86 (law08_SearchAlarm_post r) [(0, sv0), (1, sv1), (5, (.ptr b22 0)), (7, s27), (9, (.int .i64 v9)), (10, (.int .i64 v10)), (11, (.int .i64 v11))] [codeC Try.prog 6 [1, 1, 1, 1, 1, 0, 1, 0, 0], loopC Try.prog 6 [1, 1, 1, 1, 1, 0, 1, 0, 0], .inBlock 0, codeC Try.prog 6 [1, 1, 1, 1, 1, 1]] M := by
  intro N
  induction N with
  | zero =>
    intro v0 v1 v9 v10 v11 c22 l27 sv0 sv1 b22 s27 Fr M r hv0 hv1 hH h
    simp [law08_SearchAlarm_2] at h
  | succ N ih =>
    intro v0 v1 v9 v10 v11 c22 l27 sv0 sv1 b22 s27 Fr M r hv0 hv1 hH h
    rw [law08_SearchAlarm_2] at h
    refine Run.seq (Run.seq (Run.region ?_))
    refine Run.opG wantS_none (ex_move rfl) rfl ?_
    refine Run.opG wantS_none (ex_move rfl) rfl ?_
    refine Run.opG wantS_none (ex_len' rfl (hH.slc (i := 1) rfl enc3_len) lenk22) rfl ?_
    refine Run.opG wantS_none (ex_lss rfl rfl) rfl ?_
    refine Run.opsEnd ?_
    rcases btf ((decide (v11 < (l27.length : Int)))) with hc37 | hc37
    · have h := bif_t hc37 h
      refine Run.condT' rfl hc37 ?_
      refine Run.skip (Run.seq (Run.block (Run.seq (Run.region ?_))))
      refine Run.opG wantS_none (ex_move rfl) rfl ?_
      refine Run.opG wantS_none (ex_fieldAddr rfl off35_0) rfl ?_
      refine Run.opG wantS_none (ex_load1 rfl (hH.cells (i := 0) rfl 0 rfl) rdLe_rfl agg3) rfl ?_
      refine Run.opG wantS_none (ex_move rfl) rfl ?_
      refine Run.opG wantS_none (ex_fieldAddr rfl off35_2) rfl ?_
      refine Run.opG wantS_none (ex_load1 rfl (hH.cells (i := 0) rfl 2 rfl) rdLe_rfl agg3) rfl ?_
      refine Run.opG wantS_none (ex_mul rfl rfl) rfl ?_
      obtain ⟨r40, hr40, h⟩ := bnd_some h
      refine Run.callX wantS_none (ex_call rfl mkk18 cal18) rfl (search_Slide_ok F v1 c22.Live (w64 (v11 * c22.Step)) sv1 _ _ (hH.slcF hv1) hr40) ?_
      rintro _ M42 ⟨s40_0, rfl, hN40⟩
      have hH42 : Has Fr M42 [.vec 73 3 r40.1.length s40_0 (r40.1.flatMap enc73), .obj b22 (.row 35 .whole [(.int .i64 c22.Live), (.int .i64 c22.Window), (.int .i64 c22.Step), (.int .i64 c22.Limit)]), .vec 3 1 l27.length s27 (l27.flatMap enc3)] := hN40.1 _ _ hH
      refine Run.opG wantS_none (ex_move rfl) rfl ?_
      refine Run.opG wantS_none (ex_extract rfl rfl) rfl ?_
      refine Run.opG wantS_none (ex_extract rfl rfl) rfl ?_
      refine Run.opG wantS_none (ex_assign rfl) rfl ?_
      refine Run.opG wantS_none (ex_assign rfl) rfl ?_
      refine Run.opsEnd (Run.seq (Run.seq (Run.region ?_)))
      refine Run.opG wantS_none (ex_move rfl) rfl ?_
      refine Run.opG wantS_none (ex_neq rfl rfl) rfl ?_
      refine Run.opsEnd ?_
      rcases btf ((!(r40.2 == (0 : Int)))) with hc43 | hc43
      · have h := bif_t hc43 h
        refine Run.condT' rfl hc43 ?_
        refine Run.seq (Run.region ?_)
        refine Run.opG wantS_none (ex_assign rfl) rfl ?_
        refine Run.opsEnd ?_
        cases h
        exact Run.ret Try.func6 rfl (res_tmp rfl res_nil) rfl
      · have h := bif_f hc43 h
        refine Run.condF' rfl hc43 ?_
        refine Run.skip (Run.seq (Run.region ?_))
        refine Run.opG wantS_none (ex_move rfl) rfl ?_
        refine Run.opG wantS_none (ex_move rfl) rfl ?_
        refine Run.opG wantS_none (ex_fieldAddr rfl off35_0) rfl ?_
        refine Run.opG wantS_none (ex_load1 rfl (hH42.cells (i := 1) rfl 0 rfl) rdLe_rfl agg3) rfl ?_
        refine Run.opG wantS_none (ex_fieldAddr rfl off35_1) rfl ?_
        refine Run.opG wantS_none (ex_load1 rfl (hH42.cells (i := 1) rfl 1 rfl) rdLe_rfl agg3) rfl ?_
        refine Run.opG wantS_none (ex_fieldAddr rfl off35_2) rfl ?_
        refine Run.opG wantS_none (ex_load1 rfl (hH42.cells (i := 1) rfl 2 rfl) rdLe_rfl agg3) rfl ?_
        refine Run.opG wantS_none (ex_move rfl) rfl ?_
        obtain ⟨r46, hr46, h⟩ := bnd_some h
        refine Run.callX wantS_none (ex_call rfl mkk14 cal14) rfl (search_Candidates_ok F v0 r40.1 c22.Live c22.Window c22.Step v9 sv0 s40_0 _ _ (hH42.slcF hv0) (hH42.slc (i := 0) rfl enc73_len) hr46) ?_
        rintro _ M48 ⟨s46_0, rfl, hN46⟩
        have hH48 : Has Fr M48 [.vec 44 5 r46.1.length s46_0 (r46.1.flatMap enc44), .vec 73 3 r40.1.length s40_0 (r40.1.flatMap enc73), .obj b22 (.row 35 .whole [(.int .i64 c22.Live), (.int .i64 c22.Window), (.int .i64 c22.Step), (.int .i64 c22.Limit)]), .vec 3 1 l27.length s27 (l27.flatMap enc3)] := hN46.1 _ _ hH42
        refine Run.opG wantS_none (ex_move rfl) rfl ?_
        refine Run.opG wantS_none (ex_extract rfl rfl) rfl ?_
        refine Run.opG wantS_none (ex_extract rfl rfl) rfl ?_
        refine Run.opG wantS_none (ex_assign rfl) rfl ?_
        refine Run.opG wantS_none (ex_assign rfl) rfl ?_
        refine Run.opsEnd (Run.seq (Run.seq (Run.region ?_)))
        refine Run.opG wantS_none (ex_move rfl) rfl ?_
        refine Run.opG wantS_none (ex_neq rfl rfl) rfl ?_
        refine Run.opsEnd ?_
        rcases btf ((!(r46.2 == (0 : Int)))) with hc49 | hc49
        · have h := bif_t hc49 h
          refine Run.condT' rfl hc49 ?_
          refine Run.seq (Run.region ?_)
          refine Run.opG wantS_none (ex_assign rfl) rfl ?_
          refine Run.opsEnd ?_
          cases h
          exact Run.ret Try.func6 rfl (res_tmp rfl res_nil) rfl
        · have h := bif_f hc49 h
          refine Run.condF' rfl hc49 ?_
          refine Run.skip (Run.seq (Run.region ?_))
          refine Run.opG wantS_none (ex_move rfl) rfl ?_
          refine Run.opG wantS_none (ex_len' rfl (hH48.slc (i := 0) rfl enc44_len) lenk36) rfl ?_
          refine Run.opG wantS_none (ex_gtr rfl rfl) rfl ?_
          refine Run.opsEnd ?_
          rcases btf ((decide ((0 : Int) < (r46.1.length : Int)))) with hc50 | hc50
          · have h := bif_t hc50 h
            refine Run.condT' rfl hc50 ?_
            refine Run.region ?_
            refine Run.opG wantS_none (ex_move rfl) rfl ?_
            refine Run.opG wantS_none (ex_add rfl rfl) rfl ?_
            refine Run.opG wantS_none (ex_assign rfl) rfl ?_
            refine Run.opsEnd (Run.inBlock (Run.region ?_))
            exact Run.pick [0, 1, 5, 7, 9, 10, 11] (law08_SearchAlarm_3_ok F (law08_SearchAlarm_2 F N) ih v0 v1 v9 (w64 (v10 + (1 : Int))) v11 c22 l27 sv0 sv1 b22 s27 _ _ _ hv0 hv1 (hH48.pick [2, 3] rfl rfl) h)
          · have h := bif_f hc50 h
            refine Run.condF' rfl hc50 ?_
            refine Run.skip (Run.inBlock (Run.region ?_))
            exact Run.pick [0, 1, 5, 7, 9, 10, 11] (law08_SearchAlarm_3_ok F (law08_SearchAlarm_2 F N) ih v0 v1 v9 v10 v11 c22 l27 sv0 sv1 b22 s27 _ _ _ hv0 hv1 (hH48.pick [2, 3] rfl rfl) h)
    · have h := bif_f hc37 h
      refine Run.condF' rfl hc37 ?_
      refine Run.exit rfl (Run.seq (Run.region ?_))
      refine Run.opG wantS_none (ex_move rfl) rfl ?_
      refine Run.opG wantS_none (ex_move rfl) rfl ?_
      refine Run.opG wantS_none (ex_leq rfl rfl) rfl ?_
      refine Run.opG wantS_none (ex_move rfl) rfl ?_
      rcases btf ((decide (v10 ≤ v9))) with hc51 | hc51
      · have h := bif_t hc51 h
        obtain ⟨r53, hr53, h⟩ := bnd_some h
        refine Run.callP (wantS_yes' rfl rfl hc51) (ex_call rfl mkk12 cal12) rfl (works_ok F r53 _ hH  hr53) ?_
        refine Run.opG wantS_none (ex_pickT' rfl hc51 rfl rfl) rfl ?_
        exact Run.pick [85] (law08_SearchAlarm_4_ok F r53 _ _ _ (hH.pick [] rfl rfl) h)
      · have h := bif_f hc51 h
        refine Run.no (wantS_not' rfl rfl hc51) rfl ?_
        refine Run.opG wantS_none (ex_pickF' rfl hc51 rfl rfl) rfl ?_
        exact Run.pick [85] (law08_SearchAlarm_4_ok F false _ _ _ (hH.pick [] rfl rfl) h)

def law08_SearchAlarm_1 (F : Nat) (v0 v1 : (List S_api_Trigger)) (v33 : Bool) (c22 : S_ringdownlaw08_Clock) (l27 : (List Int)) : Option (Bool) :=
  bif v33 then
    bnd (works F) fun r32 =>
    some r32
  else
    bnd (ref00_Mod F c22.Limit (w64 ((l27.length : Int) + (1 : Int)))) fun r35 =>
    law08_SearchAlarm_2 F F v0 v1 r35 (0 : Int) (0 : Int) c22 l27

theorem law08_SearchAlarm_1_ok (F : Nat) : ∀ (v0 v1 : (List S_api_Trigger)) (v33 : Bool) (c22 : S_ringdownlaw08_Clock) (l27 : (List Int)) (sv0 sv1 : SV) (b22 : Pos) (s27 : SV) (Fr : Rd) (M : Mem) (r : Bool) (hv0 : Slc Fr 3 (FlatR enc73) sv0 v0) (hv1 : Slc Fr 3 (FlatR enc73) sv1 v1) (hH : Has Fr M [.obj b22 (.row 35 .whole [(.int .i64 c22.Live), (.int .i64 c22.Window), (.int .i64 c22.Step), (.int .i64 c22.Limit)]), .vec 3 1 l27.length s27 (l27.flatMap enc3)]), law08_SearchAlarm_1 F v0 v1 v33 c22 l27 = some r → Run Try.prog ⟨⟨6, [], none⟩, []⟩ 86 (law08_SearchAlarm_post r) [(0, sv0), (1, sv1), (5, (.ptr b22 0)), (7, s27), (33, (.bool v33))] [codeC Try.prog 6 [1, 1, 0, 1], codeC Try.prog 6 [1, 1, 1]] M := by
  intro v0 v1 v33 c22 l27 sv0 sv1 b22 s27 Fr M r hv0 hv1 hH h
  rw [law08_SearchAlarm_1] at h
  rcases btf (v33) with hc30 | hc30
  · have h := bif_t hc30 h
    refine Run.condT' rfl hc30 ?_
    refine Run.seq (Run.region ?_)
    obtain ⟨r32, hr32, h⟩ := bnd_some h
    refine Run.callP wantS_none (ex_call rfl mkk12 cal12) rfl (works_ok F r32 _ hH  hr32) ?_
    refine Run.opG wantS_none (ex_assign rfl) rfl ?_
    refine Run.opsEnd ?_
    cases h
    exact Run.ret Try.func6 rfl (res_tmp rfl res_nil) rfl
  · have h := bif_f hc30 h
    refine Run.condF' rfl hc30 ?_
    refine Run.skip (Run.seq (Run.region ?_))
    refine Run.opG wantS_none (ex_fieldAddr rfl off35_3) rfl ?_
    refine Run.opG wantS_none (ex_load1 rfl (hH.cells (i := 0) rfl 3 rfl) rdLe_rfl agg3) rfl ?_
    refine Run.opG wantS_none (ex_move rfl) rfl ?_
    refine Run.opG wantS_none (ex_len' rfl (hH.slc (i := 1) rfl enc3_len) lenk22) rfl ?_
    refine Run.opG wantS_none (ex_add rfl rfl) rfl ?_
    obtain ⟨r35, hr35, h⟩ := bnd_some h
    refine Run.callP wantS_none (ex_call rfl mkk17 cal17) rfl (ref00_Mod_ok F c22.Limit (w64 ((l27.length : Int) + (1 : Int))) _ _ hr35) ?_
    refine Run.opG wantS_none (ex_assign rfl) rfl ?_
    refine Run.opsEnd (Run.seq (Run.region ?_))
    refine Run.opG wantS_none (ex_assign rfl) rfl ?_
    refine Run.opsEnd (Run.seq (Run.seq (Run.region ?_)))
    refine Run.opG wantS_none (ex_assign rfl) rfl ?_
    refine Run.opsEnd (Run.block (Run.loop ?_))
    exact Run.pick [0, 1, 5, 7, 9, 10, 11] (law08_SearchAlarm_2_ok F F v0 v1 r35 (0 : Int) (0 : Int) c22 l27 sv0 sv1 b22 s27 _ _ _ hv0 hv1 hH h)

def law08_SearchAlarm (F : Nat) (a0 a1 : (List S_api_Trigger)) (a2 : S_ringdownlaw08_Clock) : Option (Bool) :=
  bnd (search_Statistics F a0 a1 a2.Live a2.Window a2.Step) fun r26 =>
  bif (!(r26.2 == (0 : Int))) then
    law08_SearchAlarm_1 F a0 a1 true a2 r26.1
  else
    law08_SearchAlarm_1 F a0 a1 (decide ((24 : Int) < (r26.1.length : Int))) a2 r26.1

theorem law08_SearchAlarm_run (F : Nat) (a0 a1 : (List S_api_Trigger)) (a2 : S_ringdownlaw08_Clock) (s0 s1 : SV) (r : Bool) (M : Mem) (hs0 : Slc (rd M) 3 (FlatR enc73) s0 a0) (hs1 : Slc (rd M) 3 (FlatR enc73) s1 a1) (hfx : FixIn M fixes) (h : law08_SearchAlarm F a0 a1 a2 = some r) : Run Try.prog (fx0 6) 86 (law08_SearchAlarm_post r) [(0, s0), (1, s1), (2, (.agg [(.int .i64 a2.Live), (.int .i64 a2.Window), (.int .i64 a2.Step), (.int .i64 a2.Limit)]))] [codeC Try.prog 6 []] (frozen M) := by
  rw [law08_SearchAlarm] at h
  replace hs0 := hs0.mono (rdLe_frozen M) (fun _ _ h => h)
  replace hs1 := hs1.mono (rdLe_frozen M) (fun _ _ h => h)
  have hH : Has (ro (frozen M)) (frozen M) [] := Has.ofFix hfx.frozen
  refine Run.seq (Run.region ?_)
  refine Run.opX wantS_none rfl (ExG.box rfl rfl hH) ?_
  rintro _ M23 ⟨b22, rfl, hH23⟩
  refine Run.opG wantS_none (ex_assign rfl) rfl ?_
  refine Run.opsEnd (Run.seq (Run.region ?_))
  refine Run.opG wantS_none (ex_move rfl) rfl ?_
  refine Run.opG wantS_none (ex_move rfl) rfl ?_
  refine Run.opG wantS_none (ex_fieldAddr rfl off35_0) rfl ?_
  refine Run.opG wantS_none (ex_load1 rfl (hH23.cells (i := 0) rfl 0 rfl) rdLe_rfl agg3) rfl ?_
  refine Run.opG wantS_none (ex_fieldAddr rfl off35_1) rfl ?_
  refine Run.opG wantS_none (ex_load1 rfl (hH23.cells (i := 0) rfl 1 rfl) rdLe_rfl agg3) rfl ?_
  refine Run.opG wantS_none (ex_fieldAddr rfl off35_2) rfl ?_
  refine Run.opG wantS_none (ex_load1 rfl (hH23.cells (i := 0) rfl 2 rfl) rdLe_rfl agg3) rfl ?_
  obtain ⟨r26, hr26, h⟩ := bnd_some h
  refine Run.callX wantS_none (ex_call rfl mkk16 cal16) rfl (search_Statistics_ok F a0 a1 a2.Live a2.Window a2.Step s0 s1 _ _ (hH23.slcF hs0) (hH23.slcF hs1) hr26) ?_
  rintro _ M28 ⟨s26_0, rfl, hN26⟩
  have hH28 : Has (ro (frozen M)) M28 [.vec 3 1 r26.1.length s26_0 (r26.1.flatMap enc3), .obj b22 (.row 35 .whole [(.int .i64 a2.Live), (.int .i64 a2.Window), (.int .i64 a2.Step), (.int .i64 a2.Limit)])] := hN26.1 _ _ hH23
  refine Run.opG wantS_none (ex_move rfl) rfl ?_
  refine Run.opG wantS_none (ex_extract rfl rfl) rfl ?_
  refine Run.opG wantS_none (ex_extract rfl rfl) rfl ?_
  refine Run.opG wantS_none (ex_assign rfl) rfl ?_
  refine Run.opG wantS_none (ex_assign rfl) rfl ?_
  refine Run.opsEnd (Run.seq (Run.seq (Run.region ?_)))
  refine Run.opG wantS_none (ex_move rfl) rfl ?_
  refine Run.opG wantS_none (ex_neq rfl rfl) rfl ?_
  refine Run.opG wantS_none (ex_move rfl) rfl ?_
  rcases btf ((!(r26.2 == (0 : Int)))) with hc29 | hc29
  · have h := bif_t hc29 h
    refine Run.no (wantS_not' rfl rfl hc29) rfl ?_
    refine Run.no (wantS_not' rfl rfl hc29) rfl ?_
    refine Run.no (wantS_not' rfl rfl hc29) rfl ?_
    refine Run.opG wantS_none (ex_pickT' rfl hc29 rfl rfl) rfl ?_
    refine Run.opsEnd ?_
    exact Run.pick [0, 1, 5, 7, 33] (law08_SearchAlarm_1_ok F a0 a1 true a2 r26.1 s0 s1 b22 s26_0 _ _ _ hs0 hs1 (hH28.pick [1, 0] rfl rfl) h)
  · have h := bif_f hc29 h
    refine Run.opG (wantS_yes' rfl rfl hc29) (ex_move rfl) rfl ?_
    refine Run.opG (wantS_yes' rfl rfl hc29) (ex_len' rfl (hH28.slc (i := 0) rfl enc3_len) lenk22) rfl ?_
    refine Run.opG (wantS_yes' rfl rfl hc29) (ex_gtr rfl rfl) rfl ?_
    refine Run.opG wantS_none (ex_pickF' rfl hc29 rfl rfl) rfl ?_
    refine Run.opsEnd ?_
    exact Run.pick [0, 1, 5, 7, 33] (law08_SearchAlarm_1_ok F a0 a1 (decide ((24 : Int) < (r26.1.length : Int))) a2 r26.1 s0 s1 b22 s26_0 _ _ _ hs0 hs1 (hH28.pick [1, 0] rfl rfl) h)

end Go.Ev.SearchAlarm
