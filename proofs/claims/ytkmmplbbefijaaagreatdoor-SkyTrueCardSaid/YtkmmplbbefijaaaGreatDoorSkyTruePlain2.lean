/- Plain functions that say what functions of the program come to, and proofs of it, written by a program of the verifier's own. -/
import Derived.Test.YtkmmplbbefijaaaGreatDoorSkyTruePlain
namespace Go.Ev.SkyTrue
open Go Go.Ev Go.Proofs
set_option maxRecDepth 100000
set_option linter.unusedVariables false

abbrev ref00_Mod_post (r : Int) : SV → Mem → Prop := fun s _ => s = (.int .i64 r)

def ref00_Mod_1 (F : Nat) (v0 : Int) : Option (Int) :=
  some v0

theorem ref00_Mod_1_ok (F : Nat) : ∀ (v0 : Int) (Fr : Rd) (M : Mem) (r : Int) (hH : Has Fr M []), ref00_Mod_1 F v0 = some r → Run Tryz.prog ⟨⟨35, [], none⟩, []⟩ 16 (ref00_Mod_post r) [(0, (.int .i64 v0))] [itemC Tryz.prog 35 [1, 1, 1, 1, 0] 0, codeC Tryz.prog 35 [1, 1, 1, 1, 1]] M := by
  intro v0 Fr M r hH h
  rw [ref00_Mod_1] at h
  refine Run.opG wantS_none (ex_move rfl) rfl ?_
  refine Run.opG wantS_none (ex_assign rfl) rfl ?_
  refine Run.opsEnd ?_
  cases h
  exact Run.ret Tryz.func35 rfl (res_tmp rfl res_nil) rfl

def ref00_Mod (F : Nat) (a0 a1 : Int) : Option (Int) :=
  bif (decide (a1 < (1 : Int))) then
    some (0 : Int)
  else
    bnd (nz a1) fun z23 =>
    bif (decide ((Int.tmod a0 a1) < (0 : Int))) then
      ref00_Mod_1 F (w64 ((Int.tmod a0 a1) + a1))
    else
      ref00_Mod_1 F (Int.tmod a0 a1)

theorem ref00_Mod_ok (F : Nat) (a0 a1 r : Int) (M : Mem) (h : ref00_Mod F a0 a1 = some r) : CallsM Tryz.prog 35 [(.int .i64 a0), (.int .i64 a1)] M (fun s M' => s = (.int .i64 r) ∧ M' = M) := by
  refine CallsM.plain Tryz.func35 rfl rfl rfl (show Run _ _ _ (ref00_Mod_post r) _ _ _ from ?_)
  rw [ref00_Mod] at h
  have hH := Has.nil (frozen M)
  refine Run.seq (Run.region ?_)
  refine Run.opG wantS_none (ex_assign rfl) rfl ?_
  refine Run.opsEnd (Run.seq (Run.seq (Run.region ?_)))
  refine Run.opG wantS_none (ex_move rfl) rfl ?_
  refine Run.opG wantS_none (ex_lss rfl rfl) rfl ?_
  refine Run.opsEnd ?_
  rcases btf ((decide (a1 < (1 : Int)))) with hc21 | hc21
  · have h := bif_t hc21 h
    refine Run.condT' rfl hc21 ?_
    refine Run.seq (Run.region ?_)
    refine Run.opG wantS_none (ex_assign rfl) rfl ?_
    refine Run.opsEnd ?_
    cases h
    exact Run.ret Tryz.func35 rfl (res_tmp rfl res_nil) rfl
  · have h := bif_f hc21 h
    refine Run.condF' rfl hc21 ?_
    refine Run.skip (Run.seq (Run.region ?_))
    refine Run.opG wantS_none (ex_move rfl) rfl ?_
    refine Run.opG wantS_none (ex_move rfl) rfl ?_
    obtain ⟨z23, hz23, h⟩ := bnd_some h
    refine Run.opG wantS_none (ex_rem' rfl rfl hz23) rfl ?_
    refine Run.opG wantS_none (ex_assign rfl) rfl ?_
    refine Run.opsEnd (Run.seq (Run.seq (Run.region ?_)))
    refine Run.opG wantS_none (ex_move rfl) rfl ?_
    refine Run.opG wantS_none (ex_lss rfl rfl) rfl ?_
    refine Run.opsEnd ?_
    rcases btf ((decide ((Int.tmod a0 a1) < (0 : Int)))) with hc24 | hc24
    · have h := bif_t hc24 h
      refine Run.condT' rfl hc24 ?_
      refine Run.region ?_
      refine Run.opG wantS_none (ex_move rfl) rfl ?_
      refine Run.opG wantS_none (ex_move rfl) rfl ?_
      refine Run.opG wantS_none (ex_add rfl rfl) rfl ?_
      refine Run.opG wantS_none (ex_assign rfl) rfl ?_
      refine Run.opsEnd (Run.seq (Run.region ?_))
      exact Run.pick [0] (ref00_Mod_1_ok F (w64 ((Int.tmod a0 a1) + a1)) _ _ _ hH h)
    · have h := bif_f hc24 h
      refine Run.condF' rfl hc24 ?_
      refine Run.skip (Run.seq (Run.region ?_))
      exact Run.pick [0] (ref00_Mod_1_ok F (Int.tmod a0 a1) _ _ _ hH h)

theorem mkk35 : makeK Tryz.prog 35 = none := by kernel_rfl
theorem cal35 : callable Tryz.prog 35 = true := by kernel_rfl
theorem off62_2 : fieldOff Tryz.prog 62 2 = some 4 := by kernel_rfl
theorem off62_1 : fieldOff Tryz.prog 62 1 = some 3 := by kernel_rfl
theorem zer67 : zerosOf Tryz.prog 67 = some [(.int .i64 0), (.int .i64 0), (.int .i64 0)] := by kernel_rfl
theorem pls67 : placesOf Tryz.prog 67 = some (.st [(0, 1), (1, 1), (2, 1)]) := by kernel_rfl
theorem elt35 : sliceElt Tryz.prog 35 = some (⟨3, 24, [(.int .i64 0), (.int .i64 0), (.int .i64 0)], 67⟩ : Elt) := by kernel_rfl
theorem appt35_35 : appT Tryz.prog 35 35 = some (⟨3, 24, [(.int .i64 0), (.int .i64 0), (.int .i64 0)], 67⟩ : Elt) := by kernel_rfl
theorem plan38_1_1_0_1_0_0_1_0_0_1_1_1 : planOf Tryz.prog (opsC (atC Tryz.prog 38 [1, 1, 0, 1, 0, 0, 1, 0, 0, 1, 1, 1])) = some [.fl 0, .fl 1, .fl 2, .fl 3, .fl 4, .fl 5, .fl 6, .fl 7, .fl 10, .fl 12, .an 8 [12, 10, 5, 4, 3, 2, 1, 0], .fl 9, .fl 11, .fl 13, .an 14 [0], .an 15 [], .an 16 [], .sync] := by kernel_rfl
abbrev law09_heard_post (r : (List S_api_Arrival)) : SV → Mem → Prop := fun s Me => ∃ q1, s = q1 ∧ Has (fun _ => none) Me [.vec 67 3 r.length q1 (r.flatMap enc67)]

def law09_heard_4 (F : Nat) (hd1 : (List Int) → Int → Int → (List S_api_Site) → Int → Int → Int → (List Int) → (List Int) → (List S_api_Arrival) → Option ((List S_api_Arrival))) (v1 : (List Int)) (v2 v8 v9 v10 : Int) (c22_0 : (List S_api_Site)) (c22_1 c22_2 c22_3 : Int) (c22_4 c22_5 : (List Int)) (l24 : (List S_api_Arrival)) : Option ((List S_api_Arrival)) :=
  bnd (idx v1 v8) fun x40 =>
  bnd (ref00_Mod F c22_3 (1073741824 : Int)) fun r41 =>
  bnd (apd 24 l24 ([(S_api_Arrival.mk v8 (w64 ((w64 (x40 + r41)) + v10)) v9)] : List S_api_Arrival)) fun l45 =>
  hd1 v1 v2 (w64 (v8 + (1 : Int))) c22_0 c22_1 c22_2 c22_3 c22_4 c22_5 l45

theorem law09_heard_4_ok (F : Nat) (hd1 : (List Int) → Int → Int → (List S_api_Site) → Int → Int → Int → (List Int) → (List Int) → (List S_api_Arrival) → Option ((List S_api_Arrival))) (hhd1 : ∀ (v1 : (List Int)) (v2 v8 : Int) (c22_0 : (List S_api_Site)) (c22_1 c22_2 c22_3 : Int) (c22_4 c22_5 : (List Int)) (l24 : (List S_api_Arrival)) (sv1 sc22_0 sc22_4 sc22_5 : SV) (b22 : Pos) (s24 : SV) (Fr : Rd) (M : Mem) (r : (List S_api_Arrival)) (hv1 : Slc Fr 1 (FlatR enc3) sv1 v1) (hc22_0 : Slc Fr 10 (FlatR enc105) sc22_0 c22_0) (hc22_4 : Slc Fr 1 (FlatR enc3) sc22_4 c22_4) (hc22_5 : Slc Fr 1 (FlatR enc3) sc22_5 c22_5) (hH : Has Fr M [.obj b22 (.row 62 .whole [sc22_0, (.int .i64 c22_1), (.int .i64 c22_2), (.int .i64 c22_3), sc22_4, sc22_5]), .vec 67 3 l24.length s24 (l24.flatMap enc67)]), hd1 v1 v2 v8 c22_0 c22_1 c22_2 c22_3 c22_4 c22_5 l24 = some r → Run Tryz.prog ⟨⟨38, [], none⟩, []⟩ 68 (law09_heard_post r) [(1, sv1), (2, (.int .i64 v2)), (3, (.ptr b22 0)), (7, s24), (8, (.int .i64 v8))] [codeC Tryz.prog 38 [1, 1, 0, 1, 0, 0], loopC Tryz.prog 38 [1, 1, 0, 1, 0, 0], .inBlock 0, codeC Tryz.prog 38 [1, 1, 1]] M) : ∀ (v1 : (List Int)) (v2 v8 v9 v10 : Int) (c22_0 : (List S_api_Site)) (c22_1 c22_2 c22_3 : Int) (c22_4 c22_5 : (List Int)) (l24 : (List S_api_Arrival)) (sv1 sc22_0 sc22_4 sc22_5 : SV) (b22 : Pos) (s24 : SV) (Fr : Rd) (M : Mem) (r : (List S_api_Arrival)) (hv1 : Slc Fr 1 (FlatR enc3) sv1 v1) (hc22_0 : Slc Fr 10 (FlatR enc105) sc22_0 c22_0) (hc22_4 : Slc Fr 1 (FlatR enc3) sc22_4 c22_4) (hc22_5 : Slc Fr 1 (FlatR enc3) sc22_5 c22_5) (hH : Has Fr M [.obj b22 (.row 62 .whole [sc22_0, (.int .i64 c22_1), (.int .i64 c22_2), (.int .i64 c22_3), sc22_4, sc22_5]), .vec 67 3 l24.length s24 (l24.flatMap enc67)]), law09_heard_4 F hd1 v1 v2 v8 v9 v10 c22_0 c22_1 c22_2 c22_3 c22_4 c22_5 l24 = some r → Run Tryz.prog ⟨⟨38, [], none⟩, []⟩ 68 (law09_heard_post r) [(1, sv1), (2, (.int .i64 v2)), (3, (.ptr b22 0)), (7, s24), (8, (.int .i64 v8)), (9, (.int .i64 v9)), (10, (.int .i64 v10))] [codeC Tryz.prog 38 [1, 1, 0, 1, 0, 0, 1, 0, 0, 1, 1, 1], .inBlock 1, codeC Tryz.prog 38 [1, 1, 0, 1, 0, 0, 1, 1], loopC Tryz.prog 38 [1, 1, 0, 1, 0, 0], .inBlock 0, codeC Tryz.prog 38 [1, 1, 1]] M := by
  intro v1 v2 v8 v9 v10 c22_0 c22_1 c22_2 c22_3 c22_4 c22_5 l24 sv1 sc22_0 sc22_4 sc22_5 b22 s24 Fr M r hv1 hc22_0 hc22_4 hc22_5 hH h
  rw [law09_heard_4] at h
  refine Run.drawG plan38_1_1_0_1_0_0_1_0_0_1_1_1 ?_
  refine DrawG.fl rfl (ev_ex wantS_none (ex_move rfl)) rfl ?_
  refine DrawG.fl rfl (ev_ex wantS_none (ex_move rfl)) rfl ?_
  refine DrawG.fl rfl (ev_ex wantS_none (ex_move rfl)) rfl ?_
  refine DrawG.fl rfl (ev_ex wantS_none (ex_move rfl)) rfl ?_
  obtain ⟨x40, hx40, h⟩ := bnd_some h
  obtain ⟨p40, o40, _, hx40, hp40, rfl⟩ := sl_elem (P := Tryz.prog) (t := 36) (kk := .i64) hv1 hx40 els36
  refine DrawG.fl rfl (ev_ex wantS_none (ex_elX rfl rfl hx40)) rfl ?_
  refine DrawG.fl rfl (ev_ex wantS_none (ex_load1 rfl (hH.ptrF hp40) rdLe_rfl agg3)) rfl ?_
  refine DrawG.fl rfl (ev_ex wantS_none (ex_fieldAddr rfl off62_1)) rfl ?_
  refine DrawG.fl rfl (ev_ex wantS_none (ex_load1 rfl (hH.cells (i := 0) rfl 3 rfl) rdLe_rfl agg3)) rfl ?_
  refine DrawG.fl rfl (ev_ex wantS_none (ex_move rfl)) rfl ?_
  refine DrawG.fl rfl (ev_ex wantS_none (ex_move rfl)) rfl ?_
  obtain ⟨r41, hr41, h⟩ := bnd_some h
  refine DrawG.callP rfl wantS_none (ex_call rfl mkk35 cal35) rfl (ref00_Mod_ok F c22_3 (1073741824 : Int) _ _ hr41) (st_cons rfl (ev_ex wantS_none (ex_move rfl)) rfl rfl rfl (st_cons rfl (ev_ex wantS_none (ex_move rfl)) rfl rfl rfl (st_cons rfl (ev_ex wantS_none (ex_load1 rfl (hH.ptrF hp40) rdLe_rfl agg3)) rfl rfl rfl (st_cons rfl (ev_ex wantS_none (ex_elX rfl rfl hx40)) rfl rfl rfl (st_cons rfl (ev_ex wantS_none (ex_move rfl)) rfl rfl rfl (st_cons rfl (ev_ex wantS_none (ex_move rfl)) rfl rfl (slc_self hv1) (st_cons rfl (ev_ex wantS_none (ex_move rfl)) rfl rfl rfl (st_cons rfl (ev_ex wantS_none (ex_move rfl)) rfl rfl (blk_self hH (i := 1) rfl) st_nil)))))))) ?_
  refine DrawG.fl rfl (ev_ex wantS_none (ex_add rfl rfl)) rfl ?_
  refine DrawG.fl rfl (ev_ex wantS_none (ex_add rfl rfl)) rfl ?_
  refine DrawG.fl rfl (ev_ex wantS_none (ex_build (r := [(.int .i64 v8), (.int .i64 (w64 ((w64 (x40 + r41)) + v10))), (.int .i64 v9)]) rfl zer67 pls67 rfl)) rfl ?_
  refine DrawG.opX rfl wantS_none rfl (ExG.built (enc := enc67) (l := ([(S_api_Arrival.mk v8 (w64 ((w64 (x40 + r41)) + v10)) v9)] : List S_api_Arrival)) (z := 3) rfl elt35 rfl rfl rfl enc67_len hH) ?_
  rintro s43 M44 (hH44 : Has Fr M44 [.vec 67 3 ([(S_api_Arrival.mk v8 (w64 ((w64 (x40 + r41)) + v10)) v9)] : List S_api_Arrival).length s43 (([(S_api_Arrival.mk v8 (w64 ((w64 (x40 + r41)) + v10)) v9)] : List S_api_Arrival).flatMap enc67), .obj b22 (.row 62 .whole [sc22_0, (.int .i64 c22_1), (.int .i64 c22_2), (.int .i64 c22_3), sc22_4, sc22_5]), .vec 67 3 l24.length s24 (l24.flatMap enc67)])
  refine ⟨(st_cons rfl (ev_ex wantS_none (ex_move rfl)) rfl rfl (blk_self hH44 (i := 2) rfl) st_nil), ?_⟩
  obtain ⟨l45, hl45, h⟩ := bnd_some h
  refine DrawG.opX rfl wantS_none rfl (ExG.append rfl rfl hH44 (i := 2) rfl enc67_len rfl enc67_ones appt35_35 rfl (len_slc (hH44.slc (i := 0) rfl enc67_len)) (first_slc (hH44.slc (i := 0) rfl enc67_len) (rdLe_rdRow _) enc67_len) hl45) ?_
  rintro s45 M47 (hH47 : Has Fr M47 [.vec 67 3 ([(S_api_Arrival.mk v8 (w64 ((w64 (x40 + r41)) + v10)) v9)] : List S_api_Arrival).length s43 (([(S_api_Arrival.mk v8 (w64 ((w64 (x40 + r41)) + v10)) v9)] : List S_api_Arrival).flatMap enc67), .obj b22 (.row 62 .whole [sc22_0, (.int .i64 c22_1), (.int .i64 c22_2), (.int .i64 c22_3), sc22_4, sc22_5]), .vec 67 3 l45.length s45 (l45.flatMap enc67)])
  refine ⟨st_nil, ?_⟩
  refine DrawG.val rfl wantS_none (ex_assign rfl) rfl st_nil ?_
  refine DrawG.sync ?_
  refine DrawG.nil ?_
  refine Run.inBlock (Run.region ?_)
  refine Run.opG wantS_none (ex_move rfl) rfl ?_
  refine Run.opG wantS_none (ex_add rfl rfl) rfl ?_
  refine Run.opG wantS_none (ex_assign rfl) rfl ?_
  refine Run.opsEnd (Run.inLoop ?_)
  exact Run.pick [1, 2, 3, 7, 8] (hhd1 v1 v2 (w64 (v8 + (1 : Int))) c22_0 c22_1 c22_2 c22_3 c22_4 c22_5 l45 sv1 sc22_0 sc22_4 sc22_5 b22 s45 _ _ _ hv1 hc22_0 hc22_4 hc22_5 (hH47.pick [1, 2] rfl rfl) h)

def law09_heard_3 (F : Nat) (hd1 : (List Int) → Int → Int → (List S_api_Site) → Int → Int → Int → (List Int) → (List Int) → (List S_api_Arrival) → Option ((List S_api_Arrival))) (v1 : (List Int)) (v2 v8 v9 v10 : Int) (c22_0 : (List S_api_Site)) (c22_1 c22_2 c22_3 : Int) (c22_4 c22_5 : (List Int)) (l24 : (List S_api_Arrival)) : Option ((List S_api_Arrival)) :=
  bif (decide (v8 < (c22_4.length : Int))) then
    bnd (idx c22_4 v8) fun x36 =>
    bnd (ref00_Mod F x36 (w64 ((w64 ((2 : Int) * v9)) - (1 : Int)))) fun r38 =>
    law09_heard_4 F hd1 v1 v2 v8 v9 (w64 (r38 - (w64 (v9 - (1 : Int))))) c22_0 c22_1 c22_2 c22_3 c22_4 c22_5 l24
  else
    law09_heard_4 F hd1 v1 v2 v8 v9 v10 c22_0 c22_1 c22_2 c22_3 c22_4 c22_5 l24

theorem law09_heard_3_ok (F : Nat) (hd1 : (List Int) → Int → Int → (List S_api_Site) → Int → Int → Int → (List Int) → (List Int) → (List S_api_Arrival) → Option ((List S_api_Arrival))) (hhd1 : ∀ (v1 : (List Int)) (v2 v8 : Int) (c22_0 : (List S_api_Site)) (c22_1 c22_2 c22_3 : Int) (c22_4 c22_5 : (List Int)) (l24 : (List S_api_Arrival)) (sv1 sc22_0 sc22_4 sc22_5 : SV) (b22 : Pos) (s24 : SV) (Fr : Rd) (M : Mem) (r : (List S_api_Arrival)) (hv1 : Slc Fr 1 (FlatR enc3) sv1 v1) (hc22_0 : Slc Fr 10 (FlatR enc105) sc22_0 c22_0) (hc22_4 : Slc Fr 1 (FlatR enc3) sc22_4 c22_4) (hc22_5 : Slc Fr 1 (FlatR enc3) sc22_5 c22_5) (hH : Has Fr M [.obj b22 (.row 62 .whole [sc22_0, (.int .i64 c22_1), (.int .i64 c22_2), (.int .i64 c22_3), sc22_4, sc22_5]), .vec 67 3 l24.length s24 (l24.flatMap enc67)]), hd1 v1 v2 v8 c22_0 c22_1 c22_2 c22_3 c22_4 c22_5 l24 = some r → Run Tryz.prog ⟨⟨38, [], none⟩, []⟩ 68 (law09_heard_post r) [(1, sv1), (2, (.int .i64 v2)), (3, (.ptr b22 0)), (7, s24), (8, (.int .i64 v8))] [codeC Tryz.prog 38 [1, 1, 0, 1, 0, 0], loopC Tryz.prog 38 [1, 1, 0, 1, 0, 0], .inBlock 0, codeC Tryz.prog 38 [1, 1, 1]] M) : ∀ (v1 : (List Int)) (v2 v8 v9 v10 : Int) (c22_0 : (List S_api_Site)) (c22_1 c22_2 c22_3 : Int) (c22_4 c22_5 : (List Int)) (l24 : (List S_api_Arrival)) (sv1 sc22_0 sc22_4 sc22_5 : SV) (b22 : Pos) (s24 : SV) (Fr : Rd) (M : Mem) (r : (List S_api_Arrival)) (hv1 : Slc Fr 1 (FlatR enc3) sv1 v1) (hc22_0 : Slc Fr 10 (FlatR enc105) sc22_0 c22_0) (hc22_4 : Slc Fr 1 (FlatR enc3) sc22_4 c22_4) (hc22_5 : Slc Fr 1 (FlatR enc3) sc22_5 c22_5) (hH : Has Fr M [.obj b22 (.row 62 .whole [sc22_0, (.int .i64 c22_1), (.int .i64 c22_2), (.int .i64 c22_3), sc22_4, sc22_5]), .vec 67 3 l24.length s24 (l24.flatMap enc67)]), law09_heard_3 F hd1 v1 v2 v8 v9 v10 c22_0 c22_1 c22_2 c22_3 c22_4 c22_5 l24 = some r → Run Tryz.prog ⟨⟨38, [], none⟩, []⟩ 68 (law09_heard_post r) [(1, sv1), (2, (.int .i64 v2)), (3, (.ptr b22 0)), (7, s24), (8, (.int .i64 v8)), (9, (.int .i64 v9)), (10, (.int .i64 v10))] [itemC Tryz.prog 38 [1, 1, 0, 1, 0, 0, 1, 0, 0, 1, 1, 0, 0] 0, codeC Tryz.prog 38 [1, 1, 0, 1, 0, 0, 1, 0, 0, 1, 1, 0, 1], codeC Tryz.prog 38 [1, 1, 0, 1, 0, 0, 1, 0, 0, 1, 1, 1], .inBlock 1, codeC Tryz.prog 38 [1, 1, 0, 1, 0, 0, 1, 1], loopC Tryz.prog 38 [1, 1, 0, 1, 0, 0], .inBlock 0, codeC Tryz.prog 38 [1, 1, 1]] M := by
  intro v1 v2 v8 v9 v10 c22_0 c22_1 c22_2 c22_3 c22_4 c22_5 l24 sv1 sc22_0 sc22_4 sc22_5 b22 s24 Fr M r hv1 hc22_0 hc22_4 hc22_5 hH h
  rw [law09_heard_3] at h
  refine Run.opG wantS_none (ex_move rfl) rfl ?_
  refine Run.opG wantS_none (ex_fieldAddr rfl off62_2) rfl ?_
  refine Run.opG wantS_none (ex_load1 rfl (hH.cells (i := 0) rfl 4 rfl) rdLe_rfl agg36) rfl ?_
  refine Run.opG wantS_none (ex_len' rfl hc22_4 lenk36) rfl ?_
  refine Run.opG wantS_none (ex_lss rfl rfl) rfl ?_
  refine Run.opsEnd ?_
  rcases btf ((decide (v8 < (c22_4.length : Int)))) with hc34 | hc34
  · have h := bif_t hc34 h
    refine Run.condT' rfl hc34 ?_
    refine Run.region ?_
    refine Run.opG wantS_none (ex_fieldAddr rfl off62_2) rfl ?_
    refine Run.opG wantS_none (ex_load1 rfl (hH.cells (i := 0) rfl 4 rfl) rdLe_rfl agg36) rfl ?_
    refine Run.opG wantS_none (ex_move rfl) rfl ?_
    obtain ⟨x36, hx36, h⟩ := bnd_some h
    obtain ⟨p36, o36, _, hx36, hp36, rfl⟩ := sl_elem (P := Tryz.prog) (t := 36) (kk := .i64) hc22_4 hx36 els36
    refine Run.opG wantS_none (ex_elX rfl rfl hx36) rfl ?_
    refine Run.opG wantS_none (ex_load1 rfl (hH.ptrF hp36) rdLe_rfl agg3) rfl ?_
    refine Run.opG wantS_none (ex_move rfl) rfl ?_
    refine Run.opG wantS_none (ex_mul rfl rfl) rfl ?_
    refine Run.opG wantS_none (ex_sub rfl rfl) rfl ?_
    obtain ⟨r38, hr38, h⟩ := bnd_some h
    refine Run.callP wantS_none (ex_call rfl mkk35 cal35) rfl (ref00_Mod_ok F x36 (w64 ((w64 ((2 : Int) * v9)) - (1 : Int))) _ _ hr38) ?_
    refine Run.opG wantS_none (ex_move rfl) rfl ?_
    refine Run.opG wantS_none (ex_sub rfl rfl) rfl ?_
    refine Run.opG wantS_none (ex_sub rfl rfl) rfl ?_
    refine Run.opG wantS_none (ex_assign rfl) rfl ?_
    refine Run.opsEnd ?_
    exact Run.pick [1, 2, 3, 7, 8, 9, 10] (law09_heard_4_ok F hd1 hhd1 v1 v2 v8 v9 (w64 (r38 - (w64 (v9 - (1 : Int))))) c22_0 c22_1 c22_2 c22_3 c22_4 c22_5 l24 sv1 sc22_0 sc22_4 sc22_5 b22 s24 _ _ _ hv1 hc22_0 hc22_4 hc22_5 hH h)
  · have h := bif_f hc34 h
    refine Run.condF' rfl hc34 ?_
    refine Run.skip ?_
    exact Run.pick [1, 2, 3, 7, 8, 9, 10] (law09_heard_4_ok F hd1 hhd1 v1 v2 v8 v9 v10 c22_0 c22_1 c22_2 c22_3 c22_4 c22_5 l24 sv1 sc22_0 sc22_4 sc22_5 b22 s24 _ _ _ hv1 hc22_0 hc22_4 hc22_5 hH h)

def law09_heard_2 (F : Nat) (hd1 : (List Int) → Int → Int → (List S_api_Site) → Int → Int → Int → (List Int) → (List Int) → (List S_api_Arrival) → Option ((List S_api_Arrival))) (v1 : (List Int)) (v2 v8 : Int) (v19 : Bool) (c22_0 : (List S_api_Site)) (c22_1 c22_2 c22_3 : Int) (c22_4 c22_5 : (List Int)) (l24 : (List S_api_Arrival)) : Option ((List S_api_Arrival)) :=
  bif v19 then
    bif (decide (v8 < (c22_5.length : Int))) then
      bnd (idx c22_5 v8) fun x30 =>
      bnd (ref00_Mod F x30 (100 : Int)) fun r32 =>
      law09_heard_3 F hd1 v1 v2 v8 (w64 ((1 : Int) + r32)) (0 : Int) c22_0 c22_1 c22_2 c22_3 c22_4 c22_5 l24
    else
      law09_heard_3 F hd1 v1 v2 v8 (1 : Int) (0 : Int) c22_0 c22_1 c22_2 c22_3 c22_4 c22_5 l24
  else
    some l24

theorem law09_heard_2_ok (F : Nat) (hd1 : (List Int) → Int → Int → (List S_api_Site) → Int → Int → Int → (List Int) → (List Int) → (List S_api_Arrival) → Option ((List S_api_Arrival))) (hhd1 : ∀ (v1 : (List Int)) (v2 v8 : Int) (c22_0 : (List S_api_Site)) (c22_1 c22_2 c22_3 : Int) (c22_4 c22_5 : (List Int)) (l24 : (List S_api_Arrival)) (sv1 sc22_0 sc22_4 sc22_5 : SV) (b22 : Pos) (s24 : SV) (Fr : Rd) (M : Mem) (r : (List S_api_Arrival)) (hv1 : Slc Fr 1 (FlatR enc3) sv1 v1) (hc22_0 : Slc Fr 10 (FlatR enc105) sc22_0 c22_0) (hc22_4 : Slc Fr 1 (FlatR enc3) sc22_4 c22_4) (hc22_5 : Slc Fr 1 (FlatR enc3) sc22_5 c22_5) (hH : Has Fr M [.obj b22 (.row 62 .whole [sc22_0, (.int .i64 c22_1), (.int .i64 c22_2), (.int .i64 c22_3), sc22_4, sc22_5]), .vec 67 3 l24.length s24 (l24.flatMap enc67)]), hd1 v1 v2 v8 c22_0 c22_1 c22_2 c22_3 c22_4 c22_5 l24 = some r → Run Tryz.prog ⟨⟨38, [], none⟩, []⟩ 68 (law09_heard_post r) [(1, sv1), (2, (.int .i64 v2)), (3, (.ptr b22 0)), (7, s24), (8, (.int .i64 v8))] [codeC Tryz.prog 38 [1, 1, 0, 1, 0, 0], loopC Tryz.prog 38 [1, 1, 0, 1, 0, 0], .inBlock 0, codeC Tryz.prog 38 [1, 1, 1]] M) : ∀ (v1 : (List Int)) (v2 v8 : Int) (v19 : Bool) (c22_0 : (List S_api_Site)) (c22_1 c22_2 c22_3 : Int) (c22_4 c22_5 : (List Int)) (l24 : (List S_api_Arrival)) (sv1 sc22_0 sc22_4 sc22_5 : SV) (b22 : Pos) (s24 : SV) (Fr : Rd) (M : Mem) (r : (List S_api_Arrival)) (hv1 : Slc Fr 1 (FlatR enc3) sv1 v1) (hc22_0 : Slc Fr 10 (FlatR enc105) sc22_0 c22_0) (hc22_4 : Slc Fr 1 (FlatR enc3) sc22_4 c22_4) (hc22_5 : Slc Fr 1 (FlatR enc3) sc22_5 c22_5) (hH : Has Fr M [.obj b22 (.row 62 .whole [sc22_0, (.int .i64 c22_1), (.int .i64 c22_2), (.int .i64 c22_3), sc22_4, sc22_5]), .vec 67 3 l24.length s24 (l24.flatMap enc67)]), law09_heard_2 F hd1 v1 v2 v8 v19 c22_0 c22_1 c22_2 c22_3 c22_4 c22_5 l24 = some r → Run Tryz.prog ⟨⟨38, [], none⟩, []⟩ 68 (law09_heard_post r) [(1, sv1), (2, (.int .i64 v2)), (3, (.ptr b22 0)), (7, s24), (8, (.int .i64 v8)), (19, (.bool v19))] [codeC Tryz.prog 38 [1, 1, 0, 1, 0, 0, 0, 1], codeC Tryz.prog 38 [1, 1, 0, 1, 0, 0, 1], loopC Tryz.prog 38 [1, 1, 0, 1, 0, 0], .inBlock 0, codeC Tryz.prog 38 [1, 1, 1]] M := by
  intro v1 v2 v8 v19 c22_0 c22_1 c22_2 c22_3 c22_4 c22_5 l24 sv1 sc22_0 sc22_4 sc22_5 b22 s24 Fr M r hv1 hc22_0 hc22_4 hc22_5 hH h
  rw [law09_heard_2] at h
  rcases btf (v19) with hc27 | hc27
  · have h := bif_t hc27 h
    refine Run.condT' rfl hc27 ?_
    refine Run.skip (Run.seq (Run.block (Run.seq (Run.region ?_))))
    refine Run.opG wantS_none (ex_assign rfl) rfl ?_
    refine Run.opG wantS_none (ex_assign rfl) rfl ?_
    refine Run.opsEnd (Run.seq (Run.seq (Run.region ?_)))
    refine Run.opG wantS_none (ex_move rfl) rfl ?_
    refine Run.opG wantS_none (ex_fieldAddr rfl off62_3) rfl ?_
    refine Run.opG wantS_none (ex_load1 rfl (hH.cells (i := 0) rfl 5 rfl) rdLe_rfl agg36) rfl ?_
    refine Run.opG wantS_none (ex_len' rfl hc22_5 lenk36) rfl ?_
    refine Run.opG wantS_none (ex_lss rfl rfl) rfl ?_
    refine Run.opsEnd ?_
    rcases btf ((decide (v8 < (c22_5.length : Int)))) with hc28 | hc28
    · have h := bif_t hc28 h
      refine Run.condT' rfl hc28 ?_
      refine Run.region ?_
      refine Run.opG wantS_none (ex_fieldAddr rfl off62_3) rfl ?_
      refine Run.opG wantS_none (ex_load1 rfl (hH.cells (i := 0) rfl 5 rfl) rdLe_rfl agg36) rfl ?_
      refine Run.opG wantS_none (ex_move rfl) rfl ?_
      obtain ⟨x30, hx30, h⟩ := bnd_some h
      obtain ⟨p30, o30, _, hx30, hp30, rfl⟩ := sl_elem (P := Tryz.prog) (t := 36) (kk := .i64) hc22_5 hx30 els36
      refine Run.opG wantS_none (ex_elX rfl rfl hx30) rfl ?_
      refine Run.opG wantS_none (ex_load1 rfl (hH.ptrF hp30) rdLe_rfl agg3) rfl ?_
      obtain ⟨r32, hr32, h⟩ := bnd_some h
      refine Run.callP wantS_none (ex_call rfl mkk35 cal35) rfl (ref00_Mod_ok F x30 (100 : Int) _ _ hr32) ?_
      refine Run.opG wantS_none (ex_add rfl rfl) rfl ?_
      refine Run.opG wantS_none (ex_assign rfl) rfl ?_
      refine Run.opsEnd (Run.seq (Run.seq (Run.region ?_)))
      exact Run.pick [1, 2, 3, 7, 8, 9, 10] (law09_heard_3_ok F hd1 hhd1 v1 v2 v8 (w64 ((1 : Int) + r32)) (0 : Int) c22_0 c22_1 c22_2 c22_3 c22_4 c22_5 l24 sv1 sc22_0 sc22_4 sc22_5 b22 s24 _ _ _ hv1 hc22_0 hc22_4 hc22_5 hH h)
    · have h := bif_f hc28 h
      refine Run.condF' rfl hc28 ?_
      refine Run.skip (Run.seq (Run.seq (Run.region ?_)))
      exact Run.pick [1, 2, 3, 7, 8, 9, 10] (law09_heard_3_ok F hd1 hhd1 v1 v2 v8 (1 : Int) (0 : Int) c22_0 c22_1 c22_2 c22_3 c22_4 c22_5 l24 sv1 sc22_0 sc22_4 sc22_5 b22 s24 _ _ _ hv1 hc22_0 hc22_4 hc22_5 hH h)
  · have h := bif_f hc27 h
    refine Run.condF' rfl hc27 ?_
    refine Run.exit rfl (Run.seq (Run.region ?_))
    refine Run.opG wantS_none (ex_move rfl) rfl ?_
    refine Run.opG wantS_none (ex_assign rfl) rfl ?_
    refine Run.opsEnd ?_
    cases h
    exact Run.ret Tryz.func38 rfl (res_tmp rfl res_nil) ⟨_, rfl, (hH.pick [1] rfl rfl).upF (none_le _)⟩

def law09_heard_1 (F : Nat) : Nat → (List Int) → Int → Int → (List S_api_Site) → Int → Int → Int → (List Int) → (List Int) → (List S_api_Arrival) → Option ((List S_api_Arrival))
  | 0, _, _, _, _, _, _, _, _, _, _ => none
  | N + 1, v1, v2, v8, c22_0, c22_1, c22_2, c22_3, c22_4, c22_5, l24 =>
    bif (decide (v8 < (v1.length : Int))) then
      law09_heard_2 F (law09_heard_1 F N) v1 v2 v8 (decide (v8 < v2)) c22_0 c22_1 c22_2 c22_3 c22_4 c22_5 l24
    else
      law09_heard_2 F (law09_heard_1 F N) v1 v2 v8 false c22_0 c22_1 c22_2 c22_3 c22_4 c22_5 l24

theorem law09_heard_1_ok (F : Nat) : ∀ (N : Nat), ∀ (v1 : (List Int)) (v2 v8 : Int) (c22_0 : (List S_api_Site)) (c22_1 c22_2 c22_3 : Int) (c22_4 c22_5 : (List Int)) (l24 : (List S_api_Arrival)) (sv1 sc22_0 sc22_4 sc22_5 : SV) (b22 : Pos) (s24 : SV) (Fr : Rd) (M : Mem) (r : (List S_api_Arrival)) (hv1 : Slc Fr 1 (FlatR enc3) sv1 v1) (hc22_0 : Slc Fr 10 (FlatR enc105) sc22_0 c22_0) (hc22_4 : Slc Fr 1 (FlatR enc3) sc22_4 c22_4) (hc22_5 : Slc Fr 1 (FlatR enc3) sc22_5 c22_5) (hH : Has Fr M [.obj b22 (.row 62 .whole [sc22_0, (.int .i64 c22_1), (.int .i64 c22_2), (.int .i64 c22_3), sc22_4, sc22_5]), .vec 67 3 l24.length s24 (l24.flatMap enc67)]), law09_heard_1 F N v1 v2 v8 c22_0 c22_1 c22_2 c22_3 c22_4 c22_5 l24 = some r → Run Tryz.prog ⟨⟨38, [], none⟩, []⟩ 68 (law09_heard_post r) [(1, sv1), (2, (.int .i64 v2)), (3, (.ptr b22 0)), (7, s24), (8, (.int .i64 v8))] [codeC Tryz.prog 38 [1, 1, 0, 1, 0, 0], loopC Tryz.prog 38 [1, 1, 0, 1, 0, 0], .inBlock 0, codeC Tryz.prog 38 [1, 1, 1]] M := by
  intro N
  induction N with
  | zero =>
    intro v1 v2 v8 c22_0 c22_1 c22_2 c22_3 c22_4 c22_5 l24 sv1 sc22_0 sc22_4 sc22_5 b22 s24 Fr M r hv1 hc22_0 hc22_4 hc22_5 hH h
    simp [law09_heard_1] at h
  | succ N ih =>
    intro v1 v2 v8 c22_0 c22_1 c22_2 c22_3 c22_4 c22_5 l24 sv1 sc22_0 sc22_4 sc22_5 b22 s24 Fr M r hv1 hc22_0 hc22_4 hc22_5 hH h
    rw [law09_heard_1] at h
    refine Run.seq (Run.seq (Run.region ?_))
    refine Run.opG wantS_none (ex_move rfl) rfl ?_
    refine Run.opG wantS_none (ex_move rfl) rfl ?_
    refine Run.opG wantS_none (ex_len' rfl hv1 lenk36) rfl ?_
    refine Run.opG wantS_none (ex_lss rfl rfl) rfl ?_
    refine Run.opG wantS_none (ex_move rfl) rfl ?_
    rcases btf ((decide (v8 < (v1.length : Int)))) with hc26 | hc26
    · have h := bif_t hc26 h
      refine Run.opG (wantS_yes' rfl rfl hc26) (ex_move rfl) rfl ?_
      refine Run.opG (wantS_yes' rfl rfl hc26) (ex_move rfl) rfl ?_
      refine Run.opG (wantS_yes' rfl rfl hc26) (ex_lss rfl rfl) rfl ?_
      refine Run.opG wantS_none (ex_pickT' rfl hc26 rfl rfl) rfl ?_
      refine Run.opsEnd ?_
      exact Run.pick [1, 2, 3, 7, 8, 19] (law09_heard_2_ok F (law09_heard_1 F N) ih v1 v2 v8 (decide (v8 < v2)) c22_0 c22_1 c22_2 c22_3 c22_4 c22_5 l24 sv1 sc22_0 sc22_4 sc22_5 b22 s24 _ _ _ hv1 hc22_0 hc22_4 hc22_5 hH h)
    · have h := bif_f hc26 h
      refine Run.no (wantS_not' rfl rfl hc26) rfl ?_
      refine Run.no (wantS_not' rfl rfl hc26) rfl ?_
      refine Run.no (wantS_not' rfl rfl hc26) rfl ?_
      refine Run.opG wantS_none (ex_pickF' rfl hc26 rfl rfl) rfl ?_
      refine Run.opsEnd ?_
      exact Run.pick [1, 2, 3, 7, 8, 19] (law09_heard_2_ok F (law09_heard_1 F N) ih v1 v2 v8 false c22_0 c22_1 c22_2 c22_3 c22_4 c22_5 l24 sv1 sc22_0 sc22_4 sc22_5 b22 s24 _ _ _ hv1 hc22_0 hc22_4 hc22_5 hH h)

def law09_heard (F : Nat) (a0 : S_ringdownlaw09_Shout) (a1 : (List Int)) (a2 : Int) : Option ((List S_api_Arrival)) :=
  law09_heard_1 F F a1 a2 (0 : Int) a0.X.L a0.X.N a0.X.Cell a0.Time a0.Errors a0.Slack ([] : List S_api_Arrival)

theorem law09_heard_ok (F : Nat) (a0 : S_ringdownlaw09_Shout) (a1 : (List Int)) (a2 : Int) (s0 s1 s2 s3 : SV) (r : (List S_api_Arrival)) (M : Mem) (hs0 : Slc (rd M) 10 (FlatR enc105) s0 a0.X.L) (hs1 : Slc (rd M) 1 (FlatR enc3) s1 a0.Errors) (hs2 : Slc (rd M) 1 (FlatR enc3) s2 a0.Slack) (hs3 : Slc (rd M) 1 (FlatR enc3) s3 a1) (h : law09_heard F a0 a1 a2 = some r) : CallsM Tryz.prog 38 [(.agg [s0, (.int .i64 a0.X.N), (.int .i64 a0.X.Cell), (.int .i64 a0.Time), s1, s2]), s3, (.int .i64 a2)] M (fun s M' => ∃ q1, s = q1 ∧ New M M' [.vec 67 3 r.length q1 (r.flatMap enc67)]) := by
  refine CallsM.fresh (Q := law09_heard_post r) Tryz.func38 rfl rfl ?_ (by rintro s Me ⟨q1, rfl, hx⟩ ha hw; exact ⟨_, rfl, New.of rfl hx ha hw⟩)
  rw [law09_heard] at h
  replace hs0 := hs0.mono (rdLe_frozen M) (fun _ _ h => h)
  replace hs1 := hs1.mono (rdLe_frozen M) (fun _ _ h => h)
  replace hs2 := hs2.mono (rdLe_frozen M) (fun _ _ h => h)
  replace hs3 := hs3.mono (rdLe_frozen M) (fun _ _ h => h)
  have hH := Has.nil (frozen M)
  refine Run.seq (Run.region ?_)
  refine Run.opX wantS_none rfl (ExG.box rfl rfl hH) ?_
  rintro _ M23 ⟨b22, rfl, hH23⟩
  refine Run.opG wantS_none (ex_assign rfl) rfl ?_
  refine Run.opsEnd (Run.seq (Run.region ?_))
  refine Run.opG wantS_none (ex_assign rfl) rfl ?_
  refine Run.opsEnd (Run.seq (Run.seq (Run.region ?_)))
  refine Run.opG wantS_none (ex_assign rfl) rfl ?_
  refine Run.opsEnd (Run.block (Run.loop ?_))
  have hH25 : Has (ro (frozen M)) M23 [.vec 67 3 ([] : List S_api_Arrival).length .nils (([] : List S_api_Arrival).flatMap enc67), .obj b22 (.row 62 .whole [s0, (.int .i64 a0.X.N), (.int .i64 a0.X.Cell), (.int .i64 a0.Time), s1, s2])] := hH23.nils 67 3
  exact Run.pick [1, 2, 3, 7, 8] (law09_heard_1_ok F F a1 a2 (0 : Int) a0.X.L a0.X.N a0.X.Cell a0.Time a0.Errors a0.Slack ([] : List S_api_Arrival) s3 s0 s1 s2 b22 .nils _ _ _ hs3 hs0 hs1 hs2 (hH25.pick [1, 0] rfl rfl) h)

theorem mkk38 : makeK Tryz.prog 38 = none := by kernel_rfl
theorem cal38 : callable Tryz.prog 38 = true := by kernel_rfl
abbrev sky_checkGrid_post (r : Int) : SV → Mem → Prop := fun s _ => s = (.int .i64 r)

def sky_checkGrid (F : Nat) (a0 : Int) : Option (Int) :=
  bnd (sky_grid_isValid F a0) fun r22 =>
  bif (!r22) then
    some (91 : Int)
  else
    some (0 : Int)

theorem sky_checkGrid_ok (F : Nat) (a0 r : Int) (M : Mem) (h : sky_checkGrid F a0 = some r) : CallsM Tryz.prog 48 [(.int .i64 a0)] M (fun s M' => s = (.int .i64 r) ∧ M' = M) := by
  refine CallsM.plain Tryz.func48 rfl rfl rfl (show Run _ _ _ (sky_checkGrid_post r) _ _ _ from ?_)
  rw [sky_checkGrid] at h
  have hH := Has.nil (frozen M)
  refine Run.seq (Run.region ?_)
  refine Run.opG wantS_none (ex_assign rfl) rfl ?_
  refine Run.opsEnd (Run.seq (Run.seq (Run.region ?_)))
  refine Run.opG wantS_none (ex_move rfl) rfl ?_
  obtain ⟨r22, hr22, h⟩ := bnd_some h
  refine Run.callP wantS_none (ex_call rfl mkk105 cal105) rfl (sky_grid_isValid_ok F a0 _ _ hr22) ?_
  refine Run.opG wantS_none (ex_not rfl) rfl ?_
  refine Run.opsEnd ?_
  rcases btf ((!r22)) with hc24 | hc24
  · have h := bif_t hc24 h
    refine Run.condT' rfl hc24 ?_
    refine Run.seq (Run.region ?_)
    refine Run.opG wantS_none (ex_assign rfl) rfl ?_
    refine Run.opsEnd ?_
    cases h
    exact Run.ret Tryz.func48 rfl (res_tmp rfl res_nil) rfl
  · have h := bif_f hc24 h
    refine Run.condF' rfl hc24 ?_
    refine Run.skip (Run.seq (Run.region ?_))
    refine Run.opG wantS_none (ex_assign rfl) rfl ?_
    refine Run.opsEnd ?_
    cases h
    exact Run.ret Tryz.func48 rfl (res_tmp rfl res_nil) rfl

theorem mkk48 : makeK Tryz.prog 48 = none := by kernel_rfl
theorem cal48 : callable Tryz.prog 48 = true := by kernel_rfl
abbrev sky_checkNetGrid_post (r : Int) : SV → Mem → Prop := fun s _ => s = (.int .i64 r)

def sky_checkNetGrid (F : Nat) (a0 : (List S_api_Site)) (a1 : Int) : Option (Int) :=
  bnd (sky_CheckNet F a0) fun r22 =>
  bif (!(r22 == (0 : Int))) then
    some r22
  else
    bnd (sky_checkGrid F a1) fun r26 =>
    some r26

theorem sky_checkNetGrid_ok (F : Nat) (a0 : (List S_api_Site)) (a1 : Int) (s0 : SV) (r : Int) (M : Mem) (hs0 : Slc (rd M) 10 (FlatR enc105) s0 a0) (h : sky_checkNetGrid F a0 a1 = some r) : CallsM Tryz.prog 59 [s0, (.int .i64 a1)] M (fun s M' => s = (.int .i64 r) ∧ M' = M) := by
  refine CallsM.plain Tryz.func59 rfl rfl rfl (show Run _ _ _ (sky_checkNetGrid_post r) _ _ _ from ?_)
  rw [sky_checkNetGrid] at h
  replace hs0 := hs0.mono (rdLe_frozen M) (fun _ _ h => h)
  have hH := Has.nil (frozen M)
  refine Run.seq (Run.region ?_)
  refine Run.opG wantS_none (ex_assign rfl) rfl ?_
  refine Run.opsEnd (Run.seq (Run.seq (Run.region ?_)))
  refine Run.opG wantS_none (ex_move rfl) rfl ?_
  obtain ⟨r22, hr22, h⟩ := bnd_some h
  refine Run.callP wantS_none (ex_call rfl mkk47 cal47) rfl (sky_CheckNet_ok F a0 s0 _ _ (hH.slcF hs0) hr22) ?_
  refine Run.opG wantS_none (ex_assign rfl) rfl ?_
  refine Run.opsEnd (Run.seq (Run.region ?_))
  refine Run.opG wantS_none (ex_move rfl) rfl ?_
  refine Run.opG wantS_none (ex_neq rfl rfl) rfl ?_
  refine Run.opsEnd ?_
  rcases btf ((!(r22 == (0 : Int)))) with hc24 | hc24
  · have h := bif_t hc24 h
    refine Run.condT' rfl hc24 ?_
    refine Run.seq (Run.region ?_)
    refine Run.opG wantS_none (ex_move rfl) rfl ?_
    refine Run.opG wantS_none (ex_assign rfl) rfl ?_
    refine Run.opsEnd ?_
    cases h
    exact Run.ret Tryz.func59 rfl (res_tmp rfl res_nil) rfl
  · have h := bif_f hc24 h
    refine Run.condF' rfl hc24 ?_
    refine Run.skip (Run.seq (Run.region ?_))
    refine Run.opG wantS_none (ex_move rfl) rfl ?_
    obtain ⟨r26, hr26, h⟩ := bnd_some h
    refine Run.callP wantS_none (ex_call rfl mkk48 cal48) rfl (sky_checkGrid_ok F a1 _ _ hr26) ?_
    refine Run.opG wantS_none (ex_assign rfl) rfl ?_
    refine Run.opsEnd ?_
    cases h
    exact Run.ret Tryz.func59 rfl (res_tmp rfl res_nil) rfl

theorem mkk59 : makeK Tryz.prog 59 = none := by kernel_rfl
theorem cal59 : callable Tryz.prog 59 = true := by kernel_rfl
theorem agg35 : aggSize Tryz.prog 35 = some none := by kernel_rfl
theorem lenk35 : lenK Tryz.prog 35 = some .sl := by kernel_rfl
theorem els35 : elems Tryz.prog 35 = some (.sl 3) := by kernel_rfl
theorem agg67 : aggSize Tryz.prog 67 = some (some 3) := by kernel_rfl
theorem sz67 : szOf Tryz.prog 67 = some 3 := by kernel_rfl
theorem off67_0 : fieldOff Tryz.prog 67 0 = some 0 := by kernel_rfl
theorem off67_2 : fieldOff Tryz.prog 67 2 = some 2 := by kernel_rfl
theorem off67_1 : fieldOff Tryz.prog 67 1 = some 1 := by kernel_rfl
abbrev sky_isInstant_post (r : Bool) : SV → Mem → Prop := fun s _ => s = (.bool r)

def sky_isInstant (F : Nat) (a0 : Int) : Option (Bool) :=
  bnd (sky_isFrom F ((-1099511627776) : Int) a0 (1099511627776 : Int)) fun r22 =>
  some r22

theorem sky_isInstant_ok (F : Nat) (a0 : Int) (r : Bool) (M : Mem) (h : sky_isInstant F a0 = some r) : CallsM Tryz.prog 61 [(.int .i64 a0)] M (fun s M' => s = (.bool r) ∧ M' = M) := by
  refine CallsM.plain Tryz.func61 rfl rfl rfl (show Run _ _ _ (sky_isInstant_post r) _ _ _ from ?_)
  rw [sky_isInstant] at h
  have hH := Has.nil (frozen M)
  refine Run.seq (Run.region ?_)
  refine Run.opG wantS_none (ex_assign rfl) rfl ?_
  refine Run.opsEnd (Run.seq (Run.region ?_))
  refine Run.opG wantS_none (ex_move rfl) rfl ?_
  obtain ⟨r22, hr22, h⟩ := bnd_some h
  refine Run.callP wantS_none (ex_call rfl mkk62 cal62) rfl (sky_isFrom_ok F ((-1099511627776) : Int) a0 (1099511627776 : Int) _ _ hr22) ?_
  refine Run.opG wantS_none (ex_assign rfl) rfl ?_
  refine Run.opsEnd ?_
  cases h
  exact Run.ret Tryz.func61 rfl (res_tmp rfl res_nil) rfl

theorem mkk61 : makeK Tryz.prog 61 = none := by kernel_rfl
theorem cal61 : callable Tryz.prog 61 = true := by kernel_rfl
abbrev sky_areArrivals_post (r : Bool) : SV → Mem → Prop := fun s _ => s = (.bool r)

def sky_areArrivals_3 (F : Nat) (hd1 : (List S_api_Arrival) → Int → Int → (List S_api_Arrival) → Int → Int → Option (Bool)) (v0 : (List S_api_Arrival)) (v1 : Int) (v8 : (List S_api_Arrival)) (v9 v10 : Int) (v33 : Bool) (c25 : S_api_Arrival) : Option (Bool) :=
  bif v33 then
    some false
  else
    hd1 v0 v1 c25.Site v8 v9 (w64 (v10 + (1 : Int)))

theorem sky_areArrivals_3_ok (F : Nat) (hd1 : (List S_api_Arrival) → Int → Int → (List S_api_Arrival) → Int → Int → Option (Bool)) (hhd1 : ∀ (v0 : (List S_api_Arrival)) (v1 v5 : Int) (v8 : (List S_api_Arrival)) (v9 v10 : Int) (sv0 sv8 : SV) (Fr : Rd) (M : Mem) (r : Bool) (hv0 : Slc Fr 3 (FlatR enc67) sv0 v0) (hv8 : Slc Fr 3 (FlatR enc67) sv8 v8) (hH : Has Fr M []), hd1 v0 v1 v5 v8 v9 v10 = some r → Run Tryz.prog ⟨⟨70, [], none⟩, []⟩ 40 (sky_areArrivals_post r) [(0, sv0), (1, (.int .i64 v1)), (5, (.int .i64 v5)), (8, sv8), (9, (.int .i64 v9)), (10, (.int .i64 v10))] [codeC Tryz.prog 70 [1, 1, 0, 1, 0, 0], loopC Tryz.prog 70 [1, 1, 0, 1, 0, 0], .inBlock 0, codeC Tryz.prog 70 [1, 1, 1]] M) : ∀ (v0 : (List S_api_Arrival)) (v1 : Int) (v8 : (List S_api_Arrival)) (v9 v10 : Int) (v33 : Bool) (c25 : S_api_Arrival) (sv0 sv8 : SV) (b25 : Pos) (Fr : Rd) (M : Mem) (r : Bool) (hv0 : Slc Fr 3 (FlatR enc67) sv0 v0) (hv8 : Slc Fr 3 (FlatR enc67) sv8 v8) (hH : Has Fr M [.obj b25 (.row 67 .whole [(.int .i64 c25.Site), (.int .i64 c25.Time), (.int .i64 c25.Slack)])]), sky_areArrivals_3 F hd1 v0 v1 v8 v9 v10 v33 c25 = some r → Run Tryz.prog ⟨⟨70, [], none⟩, []⟩ 40 (sky_areArrivals_post r) [(0, sv0), (1, (.int .i64 v1)), (7, (.ptr b25 0)), (8, sv8), (9, (.int .i64 v9)), (10, (.int .i64 v10)), (33, (.bool v33))] [codeC Tryz.prog 70 [1, 1, 0, 1, 0, 0, 1, 1, 0, 0, 1, 0, 1], codeC Tryz.prog 70 [1, 1, 0, 1, 0, 0, 1, 1, 0, 0, 1, 1], .inBlock 1, codeC Tryz.prog 70 [1, 1, 0, 1, 0, 0, 1, 1, 1], loopC Tryz.prog 70 [1, 1, 0, 1, 0, 0], .inBlock 0, codeC Tryz.prog 70 [1, 1, 1]] M := by
  intro v0 v1 v8 v9 v10 v33 c25 sv0 sv8 b25 Fr M r hv0 hv8 hH h
  rw [sky_areArrivals_3] at h
  rcases btf (v33) with hc33 | hc33
  · have h := bif_t hc33 h
    refine Run.condT' rfl hc33 ?_
    refine Run.seq (Run.region ?_)
    refine Run.opG wantS_none (ex_assign rfl) rfl ?_
    refine Run.opsEnd ?_
    cases h
    exact Run.ret Tryz.func70 rfl (res_tmp rfl res_nil) rfl
  · have h := bif_f hc33 h
    refine Run.condF' rfl hc33 ?_
    refine Run.skip (Run.region ?_)
    refine Run.opG wantS_none (ex_fieldAddr rfl off67_0) rfl ?_
    refine Run.opG wantS_none (ex_load1 rfl (hH.cells (i := 0) rfl 0 rfl) rdLe_rfl agg3) rfl ?_
    refine Run.opG wantS_none (ex_assign rfl) rfl ?_
    refine Run.opsEnd (Run.inBlock (Run.region ?_))
    refine Run.opG wantS_none (ex_add rfl rfl) rfl ?_
    refine Run.opG wantS_none (ex_move rfl) rfl ?_
    refine Run.opsEnd (Run.inLoop ?_)
    exact Run.pick [0, 1, 5, 8, 9, 10] (hhd1 v0 v1 c25.Site v8 v9 (w64 (v10 + (1 : Int))) sv0 sv8 _ _ _ hv0 hv8 (hH.pick [] rfl rfl) h)

def sky_areArrivals_2 (F : Nat) (hd1 : (List S_api_Arrival) → Int → Int → (List S_api_Arrival) → Int → Int → Option (Bool)) (v0 : (List S_api_Arrival)) (v1 : Int) (v8 : (List S_api_Arrival)) (v9 v10 : Int) (v27 : Bool) (c25 : S_api_Arrival) : Option (Bool) :=
  bif v27 then
    sky_areArrivals_3 F hd1 v0 v1 v8 v9 v10 true c25
  else
    bnd (sky_isFrom F (0 : Int) c25.Slack (65536 : Int)) fun r35 =>
    sky_areArrivals_3 F hd1 v0 v1 v8 v9 v10 (!r35) c25

theorem sky_areArrivals_2_ok (F : Nat) (hd1 : (List S_api_Arrival) → Int → Int → (List S_api_Arrival) → Int → Int → Option (Bool)) (hhd1 : ∀ (v0 : (List S_api_Arrival)) (v1 v5 : Int) (v8 : (List S_api_Arrival)) (v9 v10 : Int) (sv0 sv8 : SV) (Fr : Rd) (M : Mem) (r : Bool) (hv0 : Slc Fr 3 (FlatR enc67) sv0 v0) (hv8 : Slc Fr 3 (FlatR enc67) sv8 v8) (hH : Has Fr M []), hd1 v0 v1 v5 v8 v9 v10 = some r → Run Tryz.prog ⟨⟨70, [], none⟩, []⟩ 40 (sky_areArrivals_post r) [(0, sv0), (1, (.int .i64 v1)), (5, (.int .i64 v5)), (8, sv8), (9, (.int .i64 v9)), (10, (.int .i64 v10))] [codeC Tryz.prog 70 [1, 1, 0, 1, 0, 0], loopC Tryz.prog 70 [1, 1, 0, 1, 0, 0], .inBlock 0, codeC Tryz.prog 70 [1, 1, 1]] M) : ∀ (v0 : (List S_api_Arrival)) (v1 : Int) (v8 : (List S_api_Arrival)) (v9 v10 : Int) (v27 : Bool) (c25 : S_api_Arrival) (sv0 sv8 : SV) (b25 : Pos) (Fr : Rd) (M : Mem) (r : Bool) (hv0 : Slc Fr 3 (FlatR enc67) sv0 v0) (hv8 : Slc Fr 3 (FlatR enc67) sv8 v8) (hH : Has Fr M [.obj b25 (.row 67 .whole [(.int .i64 c25.Site), (.int .i64 c25.Time), (.int .i64 c25.Slack)])]), sky_areArrivals_2 F hd1 v0 v1 v8 v9 v10 v27 c25 = some r → Run Tryz.prog ⟨⟨70, [], none⟩, []⟩ 40 (sky_areArrivals_post r) [(0, sv0), (1, (.int .i64 v1)), (7, (.ptr b25 0)), (8, sv8), (9, (.int .i64 v9)), (10, (.int .i64 v10)), (27, (.bool v27))] [itemC Tryz.prog 70 [1, 1, 0, 1, 0, 0, 1, 1, 0, 0, 1, 0, 0] 14, codeC Tryz.prog 70 [1, 1, 0, 1, 0, 0, 1, 1, 0, 0, 1, 0, 1], codeC Tryz.prog 70 [1, 1, 0, 1, 0, 0, 1, 1, 0, 0, 1, 1], .inBlock 1, codeC Tryz.prog 70 [1, 1, 0, 1, 0, 0, 1, 1, 1], loopC Tryz.prog 70 [1, 1, 0, 1, 0, 0], .inBlock 0, codeC Tryz.prog 70 [1, 1, 1]] M := by
  intro v0 v1 v8 v9 v10 v27 c25 sv0 sv8 b25 Fr M r hv0 hv8 hH h
  rw [sky_areArrivals_2] at h
  refine Run.opG wantS_none (ex_move rfl) rfl ?_
  rcases btf (v27) with hc32 | hc32
  · have h := bif_t hc32 h
    refine Run.no (wantS_not' rfl rfl hc32) rfl ?_
    refine Run.no (wantS_not' rfl rfl hc32) rfl ?_
    refine Run.no (wantS_not' rfl rfl hc32) rfl ?_
    refine Run.no (wantS_not' rfl rfl hc32) rfl ?_
    refine Run.opG wantS_none (ex_pickT' rfl hc32 rfl rfl) rfl ?_
    refine Run.opsEnd ?_
    exact Run.pick [0, 1, 7, 8, 9, 10, 33] (sky_areArrivals_3_ok F hd1 hhd1 v0 v1 v8 v9 v10 true c25 sv0 sv8 b25 _ _ _ hv0 hv8 hH h)
  · have h := bif_f hc32 h
    refine Run.opG (wantS_yes' rfl rfl hc32) (ex_fieldAddr rfl off67_2) rfl ?_
    refine Run.opG (wantS_yes' rfl rfl hc32) (ex_load1 rfl (hH.cells (i := 0) rfl 2 rfl) rdLe_rfl agg3) rfl ?_
    obtain ⟨r35, hr35, h⟩ := bnd_some h
    refine Run.callP (wantS_yes' rfl rfl hc32) (ex_call rfl mkk62 cal62) rfl (sky_isFrom_ok F (0 : Int) c25.Slack (65536 : Int) _ _ hr35) ?_
    refine Run.opG (wantS_yes' rfl rfl hc32) (ex_not rfl) rfl ?_
    refine Run.opG wantS_none (ex_pickF' rfl hc32 rfl rfl) rfl ?_
    refine Run.opsEnd ?_
    exact Run.pick [0, 1, 7, 8, 9, 10, 33] (sky_areArrivals_3_ok F hd1 hhd1 v0 v1 v8 v9 v10 (!r35) c25 sv0 sv8 b25 _ _ _ hv0 hv8 hH h)

def sky_areArrivals_1 (F : Nat) : Nat → (List S_api_Arrival) → Int → Int → (List S_api_Arrival) → Int → Int → Option (Bool)
  | 0, _, _, _, _, _, _ => none
  | N + 1, v0, v1, v5, v8, v9, v10 =>
    bif (decide (v10 < v9)) then
      bnd (idx v8 v10) fun x23 =>
      bnd (sky_isFrom F (w64 (v5 + (1 : Int))) x23.Site (w64 (v1 - (1 : Int)))) fun r29 =>
      bif (!r29) then
        sky_areArrivals_2 F (sky_areArrivals_1 F N) v0 v1 v8 v9 v10 true x23
      else
        bnd (sky_isInstant F x23.Time) fun r38 =>
        sky_areArrivals_2 F (sky_areArrivals_1 F N) v0 v1 v8 v9 v10 (!r38) x23
    else
      some (decide ((2 : Int) ≤ (v0.length : Int)))

theorem sky_areArrivals_1_ok (F : Nat) : ∀ (N : Nat), ∀ (v0 : (List S_api_Arrival)) (v1 v5 : Int) (v8 : (List S_api_Arrival)) (v9 v10 : Int) (sv0 sv8 : SV) (Fr : Rd) (M : Mem) (r : Bool) (hv0 : Slc Fr 3 (FlatR enc67) sv0 v0) (hv8 : Slc Fr 3 (FlatR enc67) sv8 v8) (hH : Has Fr M []), sky_areArrivals_1 F N v0 v1 v5 v8 v9 v10 = some r → Run Tryz.prog ⟨⟨70, [], none⟩, []⟩ 40 (sky_areArrivals_post r) [(0, sv0), (1, (.int .i64 v1)), (5, (.int .i64 v5)), (8, sv8), (9, (.int .i64 v9)), (10, (.int .i64 v10))] [codeC Tryz.prog 70 [1, 1, 0, 1, 0, 0], loopC Tryz.prog 70 [1, 1, 0, 1, 0, 0], .inBlock 0, codeC Tryz.prog 70 [1, 1, 1]] M := by
  intro N
  induction N with
  | zero =>
    intro v0 v1 v5 v8 v9 v10 sv0 sv8 Fr M r hv0 hv8 hH h
    simp [sky_areArrivals_1] at h
  | succ N ih =>
    intro v0 v1 v5 v8 v9 v10 sv0 sv8 Fr M r hv0 hv8 hH h
    rw [sky_areArrivals_1] at h
    refine Run.seq (Run.region ?_)
    refine Run.opG wantS_none (ex_lss rfl rfl) rfl ?_
    refine Run.opsEnd (Run.seq ?_)
    rcases btf ((decide (v10 < v9))) with hc21 | hc21
    · have h := bif_t hc21 h
      refine Run.condT' rfl hc21 ?_
      refine Run.skip (Run.seq (Run.block (Run.seq (Run.region ?_))))
      obtain ⟨x23, hx23, h⟩ := bnd_some h
      obtain ⟨p23, o23, _, hx23, hp23, rfl⟩ := sl_elem (P := Tryz.prog) (t := 35) (kk := .i64) hv8 hx23 els35
      refine Run.opG wantS_none (ex_elX rfl rfl hx23) rfl ?_
      refine Run.opG wantS_none (ex_loadA rfl (hH.ptrF hp23) rdLe_rfl agg67 rfl rfl rfl) rfl ?_
      refine Run.opX wantS_none rfl (ExG.new (v := fun b => .ptr b 0) (ex_alloc zer67) hH) ?_
      rintro _ M26 ⟨b25, rfl, hH26⟩
      refine Run.opX wantS_none rfl (ExG.storeC (c' := [(.int .i64 x23.Site), (.int .i64 x23.Time), (.int .i64 x23.Slack)]) rfl rfl rfl hH26 (i := 0) rfl sz67 rfl rfl rfl rfl rfl) ?_
      rintro _ M27 ⟨rfl, (hH27 : Has Fr M27 [.obj b25 (.row 67 .whole [(.int .i64 x23.Site), (.int .i64 x23.Time), (.int .i64 x23.Slack)])])⟩
      refine Run.opsEnd (Run.seq (Run.seq (Run.region ?_)))
      refine Run.opG wantS_none (ex_move rfl) rfl ?_
      refine Run.opG wantS_none (ex_add rfl rfl) rfl ?_
      refine Run.opG wantS_none (ex_fieldAddr rfl off67_0) rfl ?_
      refine Run.opG wantS_none (ex_load1 rfl (hH27.cells (i := 0) rfl 0 rfl) rdLe_rfl agg3) rfl ?_
      refine Run.opG wantS_none (ex_move rfl) rfl ?_
      refine Run.opG wantS_none (ex_sub rfl rfl) rfl ?_
      obtain ⟨r29, hr29, h⟩ := bnd_some h
      refine Run.callP wantS_none (ex_call rfl mkk62 cal62) rfl (sky_isFrom_ok F (w64 (v5 + (1 : Int))) x23.Site (w64 (v1 - (1 : Int))) _ _ hr29) ?_
      refine Run.opG wantS_none (ex_not rfl) rfl ?_
      refine Run.opG wantS_none (ex_move rfl) rfl ?_
      rcases btf ((!r29)) with hc31 | hc31
      · have h := bif_t hc31 h
        refine Run.no (wantS_not' rfl rfl hc31) rfl ?_
        refine Run.no (wantS_not' rfl rfl hc31) rfl ?_
        refine Run.no (wantS_not' rfl rfl hc31) rfl ?_
        refine Run.no (wantS_not' rfl rfl hc31) rfl ?_
        refine Run.opG wantS_none (ex_pickT' rfl hc31 rfl rfl) rfl ?_
        exact Run.pick [0, 1, 7, 8, 9, 10, 27] (sky_areArrivals_2_ok F (sky_areArrivals_1 F N) ih v0 v1 v8 v9 v10 true x23 sv0 sv8 b25 _ _ _ hv0 hv8 hH27 h)
      · have h := bif_f hc31 h
        refine Run.opG (wantS_yes' rfl rfl hc31) (ex_fieldAddr rfl off67_1) rfl ?_
        refine Run.opG (wantS_yes' rfl rfl hc31) (ex_load1 rfl (hH27.cells (i := 0) rfl 1 rfl) rdLe_rfl agg3) rfl ?_
        obtain ⟨r38, hr38, h⟩ := bnd_some h
        refine Run.callP (wantS_yes' rfl rfl hc31) (ex_call rfl mkk61 cal61) rfl (sky_isInstant_ok F x23.Time _ _ hr38) ?_
        refine Run.opG (wantS_yes' rfl rfl hc31) (ex_not rfl) rfl ?_
        refine Run.opG wantS_none (ex_pickF' rfl hc31 rfl rfl) rfl ?_
        exact Run.pick [0, 1, 7, 8, 9, 10, 27] (sky_areArrivals_2_ok F (sky_areArrivals_1 F N) ih v0 v1 v8 v9 v10 (!r38) x23 sv0 sv8 b25 _ _ _ hv0 hv8 hH27 h)
    · have h := bif_f hc21 h
      refine Run.condF' rfl hc21 ?_
      refine Run.exit rfl (Run.seq (Run.region ?_))
      refine Run.opG wantS_none (ex_move rfl) rfl ?_
      refine Run.opG wantS_none (ex_len' rfl hv0 lenk35) rfl ?_
      refine Run.opG wantS_none (ex_geq rfl rfl) rfl ?_
      refine Run.opG wantS_none (ex_assign rfl) rfl ?_
      refine Run.opsEnd ?_
      cases h
      exact Run.ret Tryz.func70 rfl (res_tmp rfl res_nil) rfl

def sky_areArrivals (F : Nat) (a0 : (List S_api_Arrival)) (a1 : Int) : Option (Bool) :=
  sky_areArrivals_1 F F a0 a1 ((-1) : Int) a0 (a0.length : Int) (0 : Int)

theorem sky_areArrivals_ok (F : Nat) (a0 : (List S_api_Arrival)) (a1 : Int) (s0 : SV) (r : Bool) (M : Mem) (hs0 : Slc (rd M) 3 (FlatR enc67) s0 a0) (h : sky_areArrivals F a0 a1 = some r) : CallsM Tryz.prog 70 [s0, (.int .i64 a1)] M (fun s M' => s = (.bool r) ∧ M' = M) := by
  refine CallsM.plain Tryz.func70 rfl rfl rfl (show Run _ _ _ (sky_areArrivals_post r) _ _ _ from ?_)
  rw [sky_areArrivals] at h
  replace hs0 := hs0.mono (rdLe_frozen M) (fun _ _ h => h)
  have hH := Has.nil (frozen M)
  refine Run.seq (Run.region ?_)
  refine Run.opG wantS_none (ex_assign rfl) rfl ?_
  refine Run.opsEnd (Run.seq (Run.region ?_))
  refine Run.opG wantS_none (ex_assign rfl) rfl ?_
  refine Run.opsEnd (Run.seq (Run.seq (Run.region ?_)))
  refine Run.opG wantS_none (ex_move rfl) rfl ?_
  refine Run.opG wantS_none (ex_len' rfl hs0 lenk35) rfl ?_
  refine Run.opG wantS_none (ex_move rfl) rfl ?_
  refine Run.opsEnd (Run.block (Run.loop ?_))
  exact Run.pick [0, 1, 5, 8, 9, 10] (sky_areArrivals_1_ok F F a0 a1 ((-1) : Int) a0 (a0.length : Int) (0 : Int) s0 s0 _ _ _ hs0 hs0 hH h)

theorem mkk70 : makeK Tryz.prog 70 = none := by kernel_rfl
theorem cal70 : callable Tryz.prog 70 = true := by kernel_rfl
theorem zer93 : zerosOf Tryz.prog 93 = some [.nils] := by kernel_rfl
theorem sz93 : szOf Tryz.prog 93 = some 1 := by kernel_rfl
theorem mkk67 : makeK Tryz.prog 67 = none := by kernel_rfl
theorem cal67 : callable Tryz.prog 67 = true := by kernel_rfl
theorem zer36 : zerosOf Tryz.prog 36 = some [.nils] := by kernel_rfl
theorem mkk114 : makeK Tryz.prog 114 = none := by kernel_rfl
theorem cal114 : callable Tryz.prog 114 = true := by kernel_rfl
theorem cal156 : callable Tryz.prog 156 = true := by kernel_rfl
theorem agg81 : aggSize Tryz.prog 81 = some none := by kernel_rfl
theorem agg89 : aggSize Tryz.prog 89 = some none := by kernel_rfl
theorem mkk71 : makeK Tryz.prog 71 = none := by kernel_rfl
theorem cal71 : callable Tryz.prog 71 = true := by kernel_rfl
theorem agg93 : aggSize Tryz.prog 93 = some none := by kernel_rfl
theorem slk35 : slK Tryz.prog 35 = some (.sl 3) := by kernel_rfl
theorem noplan72_1_0_1_0_0_1_1_0_0_1_1_0_0_1_1_0_0_1_0 : planOf Tryz.prog (opsC (atC Tryz.prog 72 [1, 0, 1, 0, 0, 1, 1, 0, 0, 1, 1, 0, 0, 1, 1, 0, 0, 1, 0])) = none := by kernel_rfl
theorem purep72_1_0_1_0_0_1_1_0_0_1_1_0_0_1_1_0_0_1_0 : pureP (opsC (atC Tryz.prog 72 [1, 0, 1, 0, 0, 1, 1, 0, 0, 1, 1, 0, 0, 1, 1, 0, 0, 1, 0])) = some 15 := by kernel_rfl
theorem plan65_1_0 : planOf Tryz.prog (opsC (atC Tryz.prog 65 [1, 0])) = some [.fl 0, .fl 1, .fl 3, .an 2 [3], .an 4 [], .an 5 [], .sync] := by kernel_rfl
abbrev sky_place_difference_post (r : S_sky_ratio) : SV → Mem → Prop := fun s _ => s = (.agg [(.int .i64 r.top), (.int .i64 r.under)])

def sky_place_difference (F : Nat) (a0 a1 a2 : S__3_int) : Option (S_sky_ratio) :=
  bnd (sky_vector_minus F a0 a1) fun r33 =>
  bnd (sky_vector_along F r33 a2) fun r35 =>
  some r35

theorem sky_place_difference_ok (F : Nat) (a0 a1 a2 : S__3_int) (r : S_sky_ratio) (M : Mem) (h : sky_place_difference F a0 a1 a2 = some r) : CallsM Tryz.prog 65 [(.agg [(.int .i64 a0.e0), (.int .i64 a0.e1), (.int .i64 a0.e2)]), (.agg [(.int .i64 a1.e0), (.int .i64 a1.e1), (.int .i64 a1.e2)]), (.agg [(.int .i64 a2.e0), (.int .i64 a2.e1), (.int .i64 a2.e2)])] M (fun s M' => s = (.agg [(.int .i64 r.top), (.int .i64 r.under)]) ∧ M' = M) := by
  refine CallsM.plain Tryz.func65 rfl rfl rfl (show Run _ _ _ (sky_place_difference_post r) _ _ _ from ?_)
  rw [sky_place_difference] at h
  have hH := Has.nil (frozen M)
  refine Run.seq (Run.region ?_)
  refine Run.opX wantS_none rfl (ExG.box rfl rfl hH) ?_
  rintro _ M23 ⟨b22, rfl, hH23⟩
  refine Run.opX wantS_none rfl (ExG.box rfl rfl hH23) ?_
  rintro _ M26 ⟨b25, rfl, hH26⟩
  refine Run.opX wantS_none rfl (ExG.box rfl rfl hH26) ?_
  rintro _ M29 ⟨b28, rfl, hH29⟩
  refine Run.opX wantS_none rfl (ExG.new (v := fun b => .ptr b 0) (ex_alloc zer96) hH29) ?_
  rintro _ M32 ⟨b31, rfl, hH32⟩
  refine Run.opsEnd (Run.seq ?_)
  refine Run.drawG plan65_1_0 ?_
  refine DrawG.fl rfl (ev_ex wantS_none (ex_loadA rfl (hH32.cells (i := 3) rfl 0 rfl) rdLe_rfl agg97 rfl rfl rfl)) rfl ?_
  refine DrawG.fl rfl (ev_ex wantS_none (ex_loadA rfl (hH32.cells (i := 2) rfl 0 rfl) rdLe_rfl agg97 rfl rfl rfl)) rfl ?_
  refine DrawG.fl rfl (ev_ex wantS_none (ex_loadA rfl (hH32.cells (i := 1) rfl 0 rfl) rdLe_rfl agg85 rfl rfl rfl)) rfl ?_
  obtain ⟨r33, hr33, h⟩ := bnd_some h
  refine DrawG.callP rfl wantS_none (ex_call rfl mkk111 cal111) rfl (sky_vector_minus_ok F a0 a1 _ _ hr33) (st_cons rfl (ev_ex wantS_none (ex_loadA rfl (hH32.cells (i := 1) rfl 0 rfl) rdLe_rfl agg85 rfl rfl rfl)) rfl rfl rfl st_nil) ?_
  obtain ⟨r35, hr35, h⟩ := bnd_some h
  refine DrawG.callP rfl wantS_none (ex_call rfl mkk112 cal112) rfl (sky_vector_along_ok F r33 a2 _ _ hr35) st_nil ?_
  refine DrawG.opX rfl wantS_none rfl (ExG.storeC (c' := [(.int .i64 r35.top), (.int .i64 r35.under)]) rfl rfl rfl hH32 (i := 0) rfl sz96 rfl rfl rfl rfl rfl) ?_
  rintro _ M37 ⟨rfl, (hH37 : Has (ro (frozen M)) M37 [.obj b31 (.row 96 .whole [(.int .i64 r35.top), (.int .i64 r35.under)]), .obj b28 (.row 85 .whole [(.int .i64 a2.e0), (.int .i64 a2.e1), (.int .i64 a2.e2)]), .obj b25 (.row 97 .whole [(.int .i64 a1.e0), (.int .i64 a1.e1), (.int .i64 a1.e2)]), .obj b22 (.row 97 .whole [(.int .i64 a0.e0), (.int .i64 a0.e1), (.int .i64 a0.e2)])])⟩
  refine ⟨st_nil, ?_⟩
  refine DrawG.sync ?_
  refine DrawG.nil ?_
  cases h
  exact Run.ret Tryz.func65 rfl (res_cell rfl (x_load (ex_loadA rfl (hH37.cells (i := 0) rfl 0 rfl) rdLe_rfl agg96 rfl rfl rfl)) res_nil) rfl

theorem mkk65 : makeK Tryz.prog 65 = none := by kernel_rfl
theorem cal65 : callable Tryz.prog 65 = true := by kernel_rfl
abbrev sky_ratio_up_post (r : Int) : SV → Mem → Prop := fun s _ => s = (.int .i64 r)

def sky_ratio_up_1 (F : Nat) : Nat → Int → Int → S_sky_ratio → Option (Int)
  | 0, _, _, _ => none
  | N + 1, v5, v6, c22 =>
    bif (decide (v5 < v6)) then
      bif (!(decide ((w64 (c22.top * c22.top)) ≤ (w64 ((w64 ((w64 (Int.fdiv (IntKind.wrap .u64 (w64 (v5 + v6))) (2 ^ (min 1 (IntKind.bits .u64))))) * (w64 (Int.fdiv (IntKind.wrap .u64 (w64 (v5 + v6))) (2 ^ (min 1 (IntKind.bits .u64))))))) * c22.under))))) then
        (sky_ratio_up_1 F N) (w64 ((w64 (Int.fdiv (IntKind.wrap .u64 (w64 (v5 + v6))) (2 ^ (min 1 (IntKind.bits .u64))))) + (1 : Int))) v6 c22
      else
        (sky_ratio_up_1 F N) v5 (w64 (Int.fdiv (IntKind.wrap .u64 (w64 (v5 + v6))) (2 ^ (min 1 (IntKind.bits .u64))))) c22
    else
      some v5

theorem sky_ratio_up_1_ok (F : Nat) : ∀ (N : Nat), ∀ (v5 v6 : Int) (c22 : S_sky_ratio) (b22 : Pos) (Fr : Rd) (M : Mem) (r : Int) (hH : Has Fr M [.obj b22 (.row 96 .whole [(.int .i64 c22.top), (.int .i64 c22.under)])]), sky_ratio_up_1 F N v5 v6 c22 = some r → Run Tryz.prog ⟨⟨133, [], none⟩, [.mk ⟨113, [], none⟩ 18 (treeOf []) [itemC Tryz.prog 113 [1, 1, 0] 3, codeC Tryz.prog 113 [1, 1, 1]]]⟩ 26 (sky_ratio_up_post r) [(1, (.fn (.func 155) [] [(.ptr b22 0)])), (5, (.int .i64 v5)), (6, (.int .i64 v6))] [codeC Tryz.prog 133 [1, 1, 0, 0, 0], loopC Tryz.prog 133 [1, 1, 0, 0, 0], .inBlock 0, codeC Tryz.prog 133 [1, 1, 1]] M := by
  intro N
  induction N with
  | zero =>
    intro v5 v6 c22 b22 Fr M r hH h
    simp [sky_ratio_up_1] at h
  | succ N ih =>
    intro v5 v6 c22 b22 Fr M r hH h
    rw [sky_ratio_up_1] at h
    refine Run.seq (Run.seq (Run.region ?_))
    refine Run.opG wantS_none (ex_move rfl) rfl ?_
    refine Run.opG wantS_none (ex_move rfl) rfl ?_
    refine Run.opG wantS_none (ex_lss rfl rfl) rfl ?_
    refine Run.opsEnd ?_
    rcases btf ((decide (v5 < v6))) with hc28 | hc28
    · have h := bif_t hc28 h
      refine Run.condT' rfl hc28 ?_
      refine Run.skip (Run.block (Run.seq (Run.region ?_)))
      refine Run.opG wantS_none (ex_move rfl) rfl ?_
      refine Run.opG wantS_none (ex_move rfl) rfl ?_
      refine Run.opG wantS_none (ex_add rfl rfl) rfl ?_
      refine Run.opG wantS_none (ex_conv rfl uvk3_202 cvk3_202) rfl ?_
      refine Run.opG wantS_none (ex_shr (j := 1) rfl rfl) rfl ?_
      refine Run.opG wantS_none (ex_conv rfl uvk202_3 cvk202_3) rfl ?_
      refine Run.opG wantS_none (ex_assign rfl) rfl ?_
      refine Run.opsEnd (Run.seq (Run.region ?_))
      refine Run.opG wantS_none (ex_move rfl) rfl ?_
      refine Run.opG wantS_none (ex_move rfl) rfl ?_
      refine Run.enter wantS_none (ex_closure rfl rfl mkk155 cal155) Tryz.func155 rfl rfl ?_
      refine Run.seq (Run.region ?_)
      refine Run.opG wantS_none (ex_assign rfl) rfl ?_
      refine Run.opsEnd (Run.seq (Run.region ?_))
      refine Run.opG wantS_none (ex_move rfl) rfl ?_
      refine Run.opG wantS_none (ex_move rfl) rfl ?_
      refine Run.opG wantS_none (ex_mul rfl rfl) rfl ?_
      refine Run.opG wantS_none (ex_fieldAddr rfl off96_1) rfl ?_
      refine Run.opG wantS_none (ex_load1 rfl (hH.cells (i := 0) rfl 1 rfl) rdLe_rfl agg3) rfl ?_
      refine Run.opG wantS_none (ex_mul rfl rfl) rfl ?_
      refine Run.opG wantS_none (ex_fieldAddr rfl off96_0) rfl ?_
      refine Run.opG wantS_none (ex_load1 rfl (hH.cells (i := 0) rfl 0 rfl) rdLe_rfl agg3) rfl ?_
      refine Run.opG wantS_none (ex_fieldAddr rfl off96_0) rfl ?_
      refine Run.opG wantS_none (ex_load1 rfl (hH.cells (i := 0) rfl 0 rfl) rdLe_rfl agg3) rfl ?_
      refine Run.opG wantS_none (ex_mul rfl rfl) rfl ?_
      refine Run.opG wantS_none (ex_geq rfl rfl) rfl ?_
      refine Run.opG wantS_none (ex_assign rfl) rfl ?_
      refine Run.opsEnd ?_
      refine Run.retTo Tryz.func155 rfl (res_tmp rfl res_nil) rfl ?_
      refine Run.opG wantS_none (ex_not rfl) rfl ?_
      refine Run.opsEnd ?_
      rcases btf ((!(decide ((w64 (c22.top * c22.top)) ≤ (w64 ((w64 ((w64 (Int.fdiv (IntKind.wrap .u64 (w64 (v5 + v6))) (2 ^ (min 1 (IntKind.bits .u64))))) * (w64 (Int.fdiv (IntKind.wrap .u64 (w64 (v5 + v6))) (2 ^ (min 1 (IntKind.bits .u64))))))) * c22.under)))))) with hc29 | hc29
      · have h := bif_t hc29 h
        refine Run.condT' rfl hc29 ?_
        refine Run.region ?_
        refine Run.opG wantS_none (ex_move rfl) rfl ?_
        refine Run.opG wantS_none (ex_add rfl rfl) rfl ?_
        refine Run.opG wantS_none (ex_assign rfl) rfl ?_
        refine Run.opsEnd (Run.inBlock (Run.inLoop ?_))
        exact Run.low (.cons (fle_pick [] rfl) .nil) (Run.pick [1, 5, 6] (ih (w64 ((w64 (Int.fdiv (IntKind.wrap .u64 (w64 (v5 + v6))) (2 ^ (min 1 (IntKind.bits .u64))))) + (1 : Int))) v6 c22 b22 _ _ _ hH h))
      · have h := bif_f hc29 h
        refine Run.condF' rfl hc29 ?_
        refine Run.region ?_
        refine Run.opG wantS_none (ex_move rfl) rfl ?_
        refine Run.opG wantS_none (ex_assign rfl) rfl ?_
        refine Run.opsEnd (Run.inBlock (Run.inLoop ?_))
        exact Run.low (.cons (fle_pick [] rfl) .nil) (Run.pick [1, 5, 6] (ih v5 (w64 (Int.fdiv (IntKind.wrap .u64 (w64 (v5 + v6))) (2 ^ (min 1 (IntKind.bits .u64))))) c22 b22 _ _ _ hH h))
    · have h := bif_f hc28 h
      refine Run.condF' rfl hc28 ?_
      refine Run.exit rfl (Run.seq (Run.region ?_))
      refine Run.opG wantS_none (ex_move rfl) rfl ?_
      refine Run.opG wantS_none (ex_assign rfl) rfl ?_
      refine Run.opsEnd ?_
      refine Run.retTo Tryz.func133 rfl (res_tmp rfl res_nil) rfl ?_
      refine Run.opG wantS_none (ex_assign rfl) rfl ?_
      refine Run.opsEnd ?_
      cases h
      exact Run.ret Tryz.func113 rfl (res_tmp rfl res_nil) rfl

def sky_ratio_up (F : Nat) (a0 : S_sky_ratio) : Option (Int) :=
  bif (decide (a0.top < (0 : Int))) then
    bnd (sky_ratio_down F (S_sky_ratio.mk (w64 (-a0.top)) a0.under)) fun r26 =>
    some (w64 (-r26))
  else
    sky_ratio_up_1 F F (0 : Int) a0.top a0

theorem sky_ratio_up_ok (F : Nat) (a0 : S_sky_ratio) (r : Int) (M : Mem) (h : sky_ratio_up F a0 = some r) : CallsM Tryz.prog 113 [(.agg [(.int .i64 a0.top), (.int .i64 a0.under)])] M (fun s M' => s = (.int .i64 r) ∧ M' = M) := by
  refine CallsM.plain Tryz.func113 rfl rfl rfl (show Run _ _ _ (sky_ratio_up_post r) _ _ _ from ?_)
  rw [sky_ratio_up] at h
  have hH := Has.nil (frozen M)
  refine Run.seq (Run.region ?_)
  refine Run.opX wantS_none rfl (ExG.box rfl rfl hH) ?_
  rintro _ M23 ⟨b22, rfl, hH23⟩
  refine Run.opG wantS_none (ex_assign rfl) rfl ?_
  refine Run.opsEnd (Run.seq (Run.seq (Run.region ?_)))
  refine Run.opG wantS_none (ex_fieldAddr rfl off96_0) rfl ?_
  refine Run.opG wantS_none (ex_load1 rfl (hH23.cells (i := 0) rfl 0 rfl) rdLe_rfl agg3) rfl ?_
  refine Run.opG wantS_none (ex_lss rfl rfl) rfl ?_
  refine Run.opsEnd ?_
  rcases btf ((decide (a0.top < (0 : Int)))) with hc24 | hc24
  · have h := bif_t hc24 h
    refine Run.condT' rfl hc24 ?_
    refine Run.seq (Run.region ?_)
    refine Run.opG wantS_none (ex_fieldAddr rfl off96_0) rfl ?_
    refine Run.opG wantS_none (ex_load1 rfl (hH23.cells (i := 0) rfl 0 rfl) rdLe_rfl agg3) rfl ?_
    refine Run.opG wantS_none (ex_neg rfl) rfl ?_
    refine Run.opG wantS_none (ex_fieldAddr rfl off96_1) rfl ?_
    refine Run.opG wantS_none (ex_load1 rfl (hH23.cells (i := 0) rfl 1 rfl) rdLe_rfl agg3) rfl ?_
    refine Run.opG wantS_none (ex_build (r := [(.int .i64 (w64 (-a0.top))), (.int .i64 a0.under)]) rfl zer96 pls96 rfl) rfl ?_
    obtain ⟨r26, hr26, h⟩ := bnd_some h
    refine Run.callP wantS_none (ex_call rfl mkk97 cal97) rfl (sky_ratio_down_ok F (S_sky_ratio.mk (w64 (-a0.top)) a0.under) _ _ hr26) ?_
    refine Run.opG wantS_none (ex_neg rfl) rfl ?_
    refine Run.opG wantS_none (ex_assign rfl) rfl ?_
    refine Run.opsEnd ?_
    cases h
    exact Run.ret Tryz.func113 rfl (res_tmp rfl res_nil) rfl
  · have h := bif_f hc24 h
    refine Run.condF' rfl hc24 ?_
    refine Run.skip (Run.seq (Run.region ?_))
    refine Run.opG wantS_none (ex_fieldAddr rfl off96_0) rfl ?_
    refine Run.opG wantS_none (ex_load1 rfl (hH23.cells (i := 0) rfl 0 rfl) rdLe_rfl agg3) rfl ?_
    refine Run.opG wantS_none (ex_makeFunc rfl rfl) rfl ?_
    refine Run.enter wantS_none (ex_call rfl mkk133 cal133) Tryz.func133 rfl rfl ?_
    refine Run.seq (Run.region ?_)
    refine Run.opG wantS_none (ex_assign rfl) rfl ?_
    refine Run.opsEnd (Run.seq (Run.region ?_))
    refine Run.opG wantS_none (ex_move rfl) rfl ?_
    refine Run.opG wantS_none (ex_assign rfl) rfl ?_
    refine Run.opG wantS_none (ex_assign rfl) rfl ?_
    refine Run.opsEnd (Run.seq (Run.block (Run.loop ?_)))
    exact Run.low (.cons (fle_pick [] rfl) .nil) (Run.pick [1, 5, 6] (sky_ratio_up_1_ok F F (0 : Int) a0.top a0 b22 _ _ _ hH23 h))

abbrev sky_ratio_isAbout_post (r : Bool) : SV → Mem → Prop := fun s _ => s = (.bool r)

def sky_ratio_isAbout_1 (F : Nat) (v20 : Bool) : Option (Bool) :=
  some v20

theorem sky_ratio_isAbout_1_ok (F : Nat) : ∀ (v20 : Bool) (Fr : Rd) (M : Mem) (r : Bool) (hH : Has Fr M []), sky_ratio_isAbout_1 F v20 = some r → Run Tryz.prog ⟨⟨66, [], none⟩, []⟩ 21 (sky_ratio_isAbout_post r) [(20, (.bool v20))] [itemC Tryz.prog 66 [1, 0] 14, codeC Tryz.prog 66 [1, 1]] M := by
  intro v20 Fr M r hH h
  rw [sky_ratio_isAbout_1] at h
  refine Run.opG wantS_none (ex_assign rfl) rfl ?_
  refine Run.opsEnd ?_
  cases h
  exact Run.ret Tryz.func66 rfl (res_tmp rfl res_nil) rfl

def sky_ratio_isAbout (F : Nat) (a0 : S_sky_ratio) (a1 a2 : Int) : Option (Bool) :=
  bnd (sky_ratio_down F a0) fun r25 =>
  bif (decide ((w64 (a1 - a2)) ≤ r25)) then
    bnd (sky_ratio_up F a0) fun r29 =>
    sky_ratio_isAbout_1 F (decide (r29 ≤ (w64 (a1 + a2))))
  else
    sky_ratio_isAbout_1 F false

theorem sky_ratio_isAbout_ok (F : Nat) (a0 : S_sky_ratio) (a1 a2 : Int) (r : Bool) (M : Mem) (h : sky_ratio_isAbout F a0 a1 a2 = some r) : CallsM Tryz.prog 66 [(.agg [(.int .i64 a0.top), (.int .i64 a0.under)]), (.int .i64 a1), (.int .i64 a2)] M (fun s M' => s = (.bool r) ∧ M' = M) := by
  refine CallsM.plain Tryz.func66 rfl rfl rfl (show Run _ _ _ (sky_ratio_isAbout_post r) _ _ _ from ?_)
  rw [sky_ratio_isAbout] at h
  have hH := Has.nil (frozen M)
  refine Run.seq (Run.region ?_)
  refine Run.opX wantS_none rfl (ExG.box rfl rfl hH) ?_
  rintro _ M23 ⟨b22, rfl, hH23⟩
  refine Run.opG wantS_none (ex_assign rfl) rfl ?_
  refine Run.opsEnd (Run.seq (Run.region ?_))
  refine Run.opG wantS_none (ex_move rfl) rfl ?_
  refine Run.opG wantS_none (ex_move rfl) rfl ?_
  refine Run.opG wantS_none (ex_sub rfl rfl) rfl ?_
  refine Run.opG wantS_none (ex_loadA rfl (hH23.cells (i := 0) rfl 0 rfl) rdLe_rfl agg96 rfl rfl rfl) rfl ?_
  obtain ⟨r25, hr25, h⟩ := bnd_some h
  refine Run.callP wantS_none (ex_call rfl mkk97 cal97) rfl (sky_ratio_down_ok F a0 _ _ hr25) ?_
  refine Run.opG wantS_none (ex_leq rfl rfl) rfl ?_
  refine Run.opG wantS_none (ex_move rfl) rfl ?_
  rcases btf ((decide ((w64 (a1 - a2)) ≤ r25))) with hc27 | hc27
  · have h := bif_t hc27 h
    refine Run.opG (wantS_yes' rfl rfl hc27) (ex_loadA rfl (hH23.cells (i := 0) rfl 0 rfl) rdLe_rfl agg96 rfl rfl rfl) rfl ?_
    obtain ⟨r29, hr29, h⟩ := bnd_some h
    refine Run.callP (wantS_yes' rfl rfl hc27) (ex_call rfl mkk113 cal113) rfl (sky_ratio_up_ok F a0 _ _ hr29) ?_
    refine Run.opG (wantS_yes' rfl rfl hc27) (ex_move rfl) rfl ?_
    refine Run.opG (wantS_yes' rfl rfl hc27) (ex_move rfl) rfl ?_
    refine Run.opG (wantS_yes' rfl rfl hc27) (ex_add rfl rfl) rfl ?_
    refine Run.opG (wantS_yes' rfl rfl hc27) (ex_leq rfl rfl) rfl ?_
    refine Run.opG wantS_none (ex_pickT' rfl hc27 rfl rfl) rfl ?_
    exact Run.pick [20] (sky_ratio_isAbout_1_ok F (decide (r29 ≤ (w64 (a1 + a2)))) _ _ _ (hH23.pick [] rfl rfl) h)
  · have h := bif_f hc27 h
    refine Run.no (wantS_not' rfl rfl hc27) rfl ?_
    refine Run.no (wantS_not' rfl rfl hc27) rfl ?_
    refine Run.no (wantS_not' rfl rfl hc27) rfl ?_
    refine Run.no (wantS_not' rfl rfl hc27) rfl ?_
    refine Run.no (wantS_not' rfl rfl hc27) rfl ?_
    refine Run.no (wantS_not' rfl rfl hc27) rfl ?_
    refine Run.opG wantS_none (ex_pickF' rfl hc27 rfl rfl) rfl ?_
    exact Run.pick [20] (sky_ratio_isAbout_1_ok F false _ _ _ (hH23.pick [] rfl rfl) h)

theorem mkk66 : makeK Tryz.prog 66 = none := by kernel_rfl
theorem cal66 : callable Tryz.prog 66 = true := by kernel_rfl
abbrev sky_fit_post (r : Bool) : SV → Mem → Prop := fun s _ => s = (.bool r)

def sky_fit_2 (F : Nat) (hd1 : (List S_sky_site) → (List S_api_Arrival) → (List S_api_Arrival) → Int → Int → S__3_int → Option (Bool)) : Nat → (List S_sky_site) → (List S_api_Arrival) → (List S_api_Arrival) → Int → Int → (List S_api_Arrival) → Int → Int → S__3_int → S_api_Arrival → Option (Bool)
  | 0, _, _, _, _, _, _, _, _, _, _ => none
  | N + 1, v0, v1, v12, v13, v14, v21, v22, v23, c22, c28 =>
    bif (decide (v23 < v22)) then
      bnd (idx v21 v23) fun x35 =>
      bnd (idx v0 x35.Site) fun x40 =>
      bnd (idx v0 c28.Site) fun x42 =>
      bnd (sky_place_difference F x40.place x42.place c22) fun r44 =>
      bnd (sky_ratio_isAbout F r44 (w64 (c28.Time - x35.Time)) (w64 (x35.Slack + c28.Slack))) fun r50 =>
      bif (!r50) then
        some false
      else
        (sky_fit_2 F hd1 N) v0 v1 v12 v13 v14 v21 v22 (w64 (v23 + (1 : Int))) c22 c28
    else
      hd1 v0 v1 v12 v13 (w64 (v14 + (1 : Int))) c22

theorem sky_fit_2_ok (F : Nat) (hd1 : (List S_sky_site) → (List S_api_Arrival) → (List S_api_Arrival) → Int → Int → S__3_int → Option (Bool)) (hhd1 : ∀ (v0 : (List S_sky_site)) (v1 v12 : (List S_api_Arrival)) (v13 v14 : Int) (c22 : S__3_int) (sv0 sv1 sv12 : SV) (b22 : Pos) (Fr : Rd) (M : Mem) (r : Bool) (hv0 : Slc Fr 9 (FlatR enc99) sv0 v0) (hv1 : Slc Fr 3 (FlatR enc67) sv1 v1) (hv12 : Slc Fr 3 (FlatR enc67) sv12 v12) (hH : Has Fr M [.obj b22 (.row 85 .whole [(.int .i64 c22.e0), (.int .i64 c22.e1), (.int .i64 c22.e2)])]), hd1 v0 v1 v12 v13 v14 c22 = some r → Run Tryz.prog ⟨⟨72, [], none⟩, []⟩ 56 (sky_fit_post r) [(0, sv0), (1, sv1), (5, (.ptr b22 0)), (12, sv12), (13, (.int .i64 v13)), (14, (.int .i64 v14))] [codeC Tryz.prog 72 [1, 0, 1, 0, 0], loopC Tryz.prog 72 [1, 0, 1, 0, 0], .inBlock 0, codeC Tryz.prog 72 [1, 1]] M) : ∀ (N : Nat), ∀ (v0 : (List S_sky_site)) (v1 v12 : (List S_api_Arrival)) (v13 v14 : Int) (v21 : (List S_api_Arrival)) (v22 v23 : Int) (c22 : S__3_int) (c28 : S_api_Arrival) (sv0 sv1 sv12 sv21 : SV) (b22 b28 : Pos) (Fr : Rd) (M : Mem) (r : Bool) (hv0 : Slc Fr 9 (FlatR enc99) sv0 v0) (hv1 : Slc Fr 3 (FlatR enc67) sv1 v1) (hv12 : Slc Fr 3 (FlatR enc67) sv12 v12) (hv21 : Slc Fr 3 (FlatR enc67) sv21 v21) (hH : Has Fr M [.obj b22 (.row 85 .whole [(.int .i64 c22.e0), (.int .i64 c22.e1), (.int .i64 c22.e2)]), .obj b28 (.row 67 .whole [(.int .i64 c28.Site), (.int .i64 c28.Time), (.int .i64 c28.Slack)])]), sky_fit_2 F hd1 N v0 v1 v12 v13 v14 v21 v22 v23 c22 c28 = some r → Run Tryz.prog ⟨⟨72, [], none⟩, []⟩ 56 (sky_fit_post r) [(0, sv0), (1, sv1), (5, (.ptr b22 0)), (8, (.ptr b28 0)), (12, sv12), (13, (.int .i64 v13)), (14, (.int .i64 v14)), (21, sv21), (22, (.int .i64 v22)), (23, (.int .i64 v23))] [codeC Tryz.prog 72 [1, 0, 1, 0, 0, 1, 1, 0, 0, 1, 1, 0, 0], loopC Tryz.prog 72 [1, 0, 1, 0, 0, 1, 1, 0, 0, 1, 1, 0, 0], .inBlock 2, .inBlock 1, codeC Tryz.prog 72 [1, 0, 1, 0, 0, 1, 1, 1], loopC Tryz.prog 72 [1, 0, 1, 0, 0], .inBlock 0, codeC Tryz.prog 72 [1, 1]] M := by
  intro N
  induction N with
  | zero =>
    intro v0 v1 v12 v13 v14 v21 v22 v23 c22 c28 sv0 sv1 sv12 sv21 b22 b28 Fr M r hv0 hv1 hv12 hv21 hH h
    simp [sky_fit_2] at h
  | succ N ih =>
    intro v0 v1 v12 v13 v14 v21 v22 v23 c22 c28 sv0 sv1 sv12 sv21 b22 b28 Fr M r hv0 hv1 hv12 hv21 hH h
    rw [sky_fit_2] at h
    refine Run.seq (Run.region ?_)
    refine Run.opG wantS_none (ex_lss rfl rfl) rfl ?_
    refine Run.opsEnd (Run.seq ?_)
    rcases btf ((decide (v23 < v22))) with hc33 | hc33
    · have h := bif_t hc33 h
      refine Run.condT' rfl hc33 ?_
      refine Run.skip (Run.seq (Run.block (Run.seq (Run.region ?_))))
      obtain ⟨x35, hx35, h⟩ := bnd_some h
      obtain ⟨p35, o35, _, hx35, hp35, rfl⟩ := sl_elem (P := Tryz.prog) (t := 35) (kk := .i64) hv21 hx35 els35
      refine Run.opG wantS_none (ex_elX rfl rfl hx35) rfl ?_
      refine Run.opG wantS_none (ex_loadA rfl (hH.ptrF hp35) rdLe_rfl agg67 rfl rfl rfl) rfl ?_
      refine Run.opX wantS_none rfl (ExG.new (v := fun b => .ptr b 0) (ex_alloc zer67) hH) ?_
      rintro _ M38 ⟨b37, rfl, hH38⟩
      refine Run.opX wantS_none rfl (ExG.storeC (c' := [(.int .i64 x35.Site), (.int .i64 x35.Time), (.int .i64 x35.Slack)]) rfl rfl rfl hH38 (i := 0) rfl sz67 rfl rfl rfl rfl rfl) ?_
      rintro _ M39 ⟨rfl, (hH39 : Has Fr M39 [.obj b37 (.row 67 .whole [(.int .i64 x35.Site), (.int .i64 x35.Time), (.int .i64 x35.Slack)]), .obj b22 (.row 85 .whole [(.int .i64 c22.e0), (.int .i64 c22.e1), (.int .i64 c22.e2)]), .obj b28 (.row 67 .whole [(.int .i64 c28.Site), (.int .i64 c28.Time), (.int .i64 c28.Slack)])])⟩
      refine Run.opsEnd (Run.seq ?_)
      refine Run.pureG noplan72_1_0_1_0_0_1_1_0_0_1_1_0_0_1_1_0_0_1_0 purep72_1_0_1_0_0_1_1_0_0_1_1_0_0_1_1_0_0_1_0 rfl rfl ?_
      refine PureG.val wantS_none (ex_move rfl) rfl ?_
      refine PureG.val wantS_none (ex_fieldAddr rfl off67_0) rfl ?_
      refine PureG.val wantS_none (ex_load1 rfl (hH39.cells (i := 0) rfl 0 rfl) rdLe_rfl agg3) rfl ?_
      obtain ⟨x40, hx40, h⟩ := bnd_some h
      obtain ⟨p40, o40, _, hx40, hp40, rfl⟩ := sl_elem (P := Tryz.prog) (t := 93) (kk := .i64) hv0 hx40 els93
      refine PureG.val wantS_none (ex_elX rfl rfl hx40) rfl ?_
      have hp41 := (hp40.fld (o := 0) rfl)
      refine PureG.val wantS_none (ex_fieldAddr rfl off99_0) rfl ?_
      refine PureG.val wantS_none (ex_loadA rfl (hH39.ptrF hp41) rdLe_rfl agg97 rfl rfl rfl) rfl ?_
      refine PureG.val wantS_none (ex_move rfl) rfl ?_
      refine PureG.val wantS_none (ex_fieldAddr rfl off67_0) rfl ?_
      refine PureG.val wantS_none (ex_load1 rfl (hH39.cells (i := 2) rfl 0 rfl) rdLe_rfl agg3) rfl ?_
      obtain ⟨x42, hx42, h⟩ := bnd_some h
      obtain ⟨p42, o42, _, hx42, hp42, rfl⟩ := sl_elem (P := Tryz.prog) (t := 93) (kk := .i64) hv0 hx42 els93
      refine PureG.val wantS_none (ex_elX rfl rfl hx42) rfl ?_
      have hp43 := (hp42.fld (o := 0) rfl)
      refine PureG.val wantS_none (ex_fieldAddr rfl off99_0) rfl ?_
      refine PureG.val wantS_none (ex_loadA rfl (hH39.ptrF hp43) rdLe_rfl agg97 rfl rfl rfl) rfl ?_
      refine PureG.val wantS_none (ex_loadA rfl (hH39.cells (i := 1) rfl 0 rfl) rdLe_rfl agg85 rfl rfl rfl) rfl ?_
      obtain ⟨r44, hr44, h⟩ := bnd_some h
      refine PureG.callP wantS_none (ex_call rfl mkk65 cal65) rfl (sky_place_difference_ok F x40.place x42.place c22 _ _ hr44) ?_
      refine PureG.new (v := fun b => .ptr b 0) wantS_none (ex_alloc zer96) rfl hH39 ?_
      intro b46 M47 (hH47 : Has Fr M47 [.obj b46 (.row 96 .whole [(.int .i64 0), (.int .i64 0)]), .obj b37 (.row 67 .whole [(.int .i64 x35.Site), (.int .i64 x35.Time), (.int .i64 x35.Slack)]), .obj b22 (.row 85 .whole [(.int .i64 c22.e0), (.int .i64 c22.e1), (.int .i64 c22.e2)]), .obj b28 (.row 67 .whole [(.int .i64 c28.Site), (.int .i64 c28.Time), (.int .i64 c28.Slack)])])
      refine PureG.nil ?_
      refine SeqG.opX wantS_none rfl (ExG.storeC (c' := [(.int .i64 r44.top), (.int .i64 r44.under)]) rfl rfl rfl hH47 (i := 0) rfl sz96 rfl rfl rfl rfl rfl) ?_
      rintro _ M48 ⟨rfl, (hH48 : Has Fr M48 [.obj b46 (.row 96 .whole [(.int .i64 r44.top), (.int .i64 r44.under)]), .obj b37 (.row 67 .whole [(.int .i64 x35.Site), (.int .i64 x35.Time), (.int .i64 x35.Slack)]), .obj b22 (.row 85 .whole [(.int .i64 c22.e0), (.int .i64 c22.e1), (.int .i64 c22.e2)]), .obj b28 (.row 67 .whole [(.int .i64 c28.Site), (.int .i64 c28.Time), (.int .i64 c28.Slack)])])⟩
      refine SeqG.nil ?_
      refine Run.seq (Run.region ?_)
      refine Run.opG wantS_none (ex_loadA rfl (hH48.cells (i := 0) rfl 0 rfl) rdLe_rfl agg96 rfl rfl rfl) rfl ?_
      refine Run.opG wantS_none (ex_fieldAddr rfl off67_1) rfl ?_
      refine Run.opG wantS_none (ex_load1 rfl (hH48.cells (i := 3) rfl 1 rfl) rdLe_rfl agg3) rfl ?_
      refine Run.opG wantS_none (ex_fieldAddr rfl off67_1) rfl ?_
      refine Run.opG wantS_none (ex_load1 rfl (hH48.cells (i := 1) rfl 1 rfl) rdLe_rfl agg3) rfl ?_
      refine Run.opG wantS_none (ex_sub rfl rfl) rfl ?_
      refine Run.opG wantS_none (ex_fieldAddr rfl off67_2) rfl ?_
      refine Run.opG wantS_none (ex_load1 rfl (hH48.cells (i := 1) rfl 2 rfl) rdLe_rfl agg3) rfl ?_
      refine Run.opG wantS_none (ex_fieldAddr rfl off67_2) rfl ?_
      refine Run.opG wantS_none (ex_load1 rfl (hH48.cells (i := 3) rfl 2 rfl) rdLe_rfl agg3) rfl ?_
      refine Run.opG wantS_none (ex_add rfl rfl) rfl ?_
      obtain ⟨r50, hr50, h⟩ := bnd_some h
      refine Run.callP wantS_none (ex_call rfl mkk66 cal66) rfl (sky_ratio_isAbout_ok F r44 (w64 (c28.Time - x35.Time)) (w64 (x35.Slack + c28.Slack)) _ _ hr50) ?_
      refine Run.opG wantS_none (ex_not rfl) rfl ?_
      refine Run.opsEnd ?_
      rcases btf ((!r50)) with hc52 | hc52
      · have h := bif_t hc52 h
        refine Run.condT' rfl hc52 ?_
        refine Run.seq (Run.region ?_)
        refine Run.opG wantS_none (ex_assign rfl) rfl ?_
        refine Run.opsEnd ?_
        cases h
        exact Run.ret Tryz.func72 rfl (res_tmp rfl res_nil) rfl
      · have h := bif_f hc52 h
        refine Run.condF' rfl hc52 ?_
        refine Run.skip (Run.inBlock (Run.region ?_))
        refine Run.opG wantS_none (ex_add rfl rfl) rfl ?_
        refine Run.opG wantS_none (ex_move rfl) rfl ?_
        refine Run.opsEnd (Run.inLoop ?_)
        exact Run.pick [0, 1, 5, 8, 12, 13, 14, 21, 22, 23] (ih v0 v1 v12 v13 v14 v21 v22 (w64 (v23 + (1 : Int))) c22 c28 sv0 sv1 sv12 sv21 b22 b28 _ _ _ hv0 hv1 hv12 hv21 (hH48.pick [2, 3] rfl rfl) h)
    · have h := bif_f hc33 h
      refine Run.condF' rfl hc33 ?_
      refine Run.exit rfl (Run.inBlock (Run.region ?_))
      refine Run.opG wantS_none (ex_add rfl rfl) rfl ?_
      refine Run.opG wantS_none (ex_move rfl) rfl ?_
      refine Run.opsEnd (Run.inLoop ?_)
      exact Run.pick [0, 1, 5, 12, 13, 14] (hhd1 v0 v1 v12 v13 (w64 (v14 + (1 : Int))) c22 sv0 sv1 sv12 b22 _ _ _ hv0 hv1 hv12 (hH.pick [0] rfl rfl) h)

def sky_fit_1 (F : Nat) : Nat → (List S_sky_site) → (List S_api_Arrival) → (List S_api_Arrival) → Int → Int → S__3_int → Option (Bool)
  | 0, _, _, _, _, _, _ => none
  | N + 1, v0, v1, v12, v13, v14, c22 =>
    bif (decide (v14 < v13)) then
      bnd (idx v12 v14) fun x26 =>
      bnd (sub v1 0 v14) fun l32 =>
      sky_fit_2 F (sky_fit_1 F N) F v0 v1 v12 v13 v14 l32 (l32.length : Int) (0 : Int) c22 x26
    else
      some true

theorem sky_fit_1_ok (F : Nat) : ∀ (N : Nat), ∀ (v0 : (List S_sky_site)) (v1 v12 : (List S_api_Arrival)) (v13 v14 : Int) (c22 : S__3_int) (sv0 sv1 sv12 : SV) (b22 : Pos) (Fr : Rd) (M : Mem) (r : Bool) (hv0 : Slc Fr 9 (FlatR enc99) sv0 v0) (hv1 : Slc Fr 3 (FlatR enc67) sv1 v1) (hv12 : Slc Fr 3 (FlatR enc67) sv12 v12) (hH : Has Fr M [.obj b22 (.row 85 .whole [(.int .i64 c22.e0), (.int .i64 c22.e1), (.int .i64 c22.e2)])]), sky_fit_1 F N v0 v1 v12 v13 v14 c22 = some r → Run Tryz.prog ⟨⟨72, [], none⟩, []⟩ 56 (sky_fit_post r) [(0, sv0), (1, sv1), (5, (.ptr b22 0)), (12, sv12), (13, (.int .i64 v13)), (14, (.int .i64 v14))] [codeC Tryz.prog 72 [1, 0, 1, 0, 0], loopC Tryz.prog 72 [1, 0, 1, 0, 0], .inBlock 0, codeC Tryz.prog 72 [1, 1]] M := by
  intro N
  induction N with
  | zero =>
    intro v0 v1 v12 v13 v14 c22 sv0 sv1 sv12 b22 Fr M r hv0 hv1 hv12 hH h
    simp [sky_fit_1] at h
  | succ N ih =>
    intro v0 v1 v12 v13 v14 c22 sv0 sv1 sv12 b22 Fr M r hv0 hv1 hv12 hH h
    rw [sky_fit_1] at h
    refine Run.seq (Run.region ?_)
    refine Run.opG wantS_none (ex_lss rfl rfl) rfl ?_
    refine Run.opsEnd (Run.seq ?_)
    rcases btf ((decide (v14 < v13))) with hc24 | hc24
    · have h := bif_t hc24 h
      refine Run.condT' rfl hc24 ?_
      refine Run.skip (Run.seq (Run.block (Run.seq (Run.region ?_))))
      refine Run.opG wantS_none (ex_move rfl) rfl ?_
      obtain ⟨x26, hx26, h⟩ := bnd_some h
      obtain ⟨p26, o26, _, hx26, hp26, rfl⟩ := sl_elem (P := Tryz.prog) (t := 35) (kk := .i64) hv12 hx26 els35
      refine Run.opG wantS_none (ex_elX rfl rfl hx26) rfl ?_
      refine Run.opG wantS_none (ex_loadA rfl (hH.ptrF hp26) rdLe_rfl agg67 rfl rfl rfl) rfl ?_
      refine Run.opX wantS_none rfl (ExG.new (v := fun b => .ptr b 0) (ex_alloc zer67) hH) ?_
      rintro _ M29 ⟨b28, rfl, hH29⟩
      refine Run.opG wantS_none (ex_assign rfl) rfl ?_
      refine Run.opX wantS_none rfl (ExG.storeC (c' := [(.int .i64 x26.Site), (.int .i64 x26.Time), (.int .i64 x26.Slack)]) rfl rfl rfl hH29 (i := 0) rfl sz67 rfl rfl rfl rfl rfl) ?_
      rintro _ M30 ⟨rfl, (hH30 : Has Fr M30 [.obj b28 (.row 67 .whole [(.int .i64 x26.Site), (.int .i64 x26.Time), (.int .i64 x26.Slack)]), .obj b22 (.row 85 .whole [(.int .i64 c22.e0), (.int .i64 c22.e1), (.int .i64 c22.e2)])])⟩
      refine Run.opsEnd (Run.seq (Run.region ?_))
      refine Run.opG wantS_none (ex_move rfl) rfl ?_
      refine Run.opG wantS_none (ex_move rfl) rfl ?_
      obtain ⟨l32, hl32, h⟩ := bnd_some h
      obtain ⟨s32, hx32, hs32⟩ := sl_subH (P := Tryz.prog) (t := 35) (k0 := .i64) hv1 hl32 slk35
      refine Run.opG wantS_none (ex_slX rfl (argO_none) (argO_some rfl) hx32) rfl ?_
      refine Run.opG wantS_none (ex_len' rfl hs32 lenk35) rfl ?_
      refine Run.opG wantS_none (ex_move rfl) rfl ?_
      refine Run.opsEnd (Run.block (Run.loop ?_))
      exact Run.pick [0, 1, 5, 8, 12, 13, 14, 21, 22, 23] (sky_fit_2_ok F (sky_fit_1 F N) ih F v0 v1 v12 v13 v14 l32 (l32.length : Int) (0 : Int) c22 x26 sv0 sv1 sv12 s32 b22 b28 _ _ _ hv0 hv1 hv12 hs32 (hH30.pick [1, 0] rfl rfl) h)
    · have h := bif_f hc24 h
      refine Run.condF' rfl hc24 ?_
      refine Run.exit rfl (Run.seq (Run.region ?_))
      refine Run.opG wantS_none (ex_assign rfl) rfl ?_
      refine Run.opsEnd ?_
      cases h
      exact Run.ret Tryz.func72 rfl (res_tmp rfl res_nil) rfl

def sky_fit (F : Nat) (a0 : (List S_sky_site)) (a1 : (List S_api_Arrival)) (a2 : S__3_int) : Option (Bool) :=
  sky_fit_1 F F a0 a1 a1 (a1.length : Int) (0 : Int) a2

theorem sky_fit_ok (F : Nat) (a0 : (List S_sky_site)) (a1 : (List S_api_Arrival)) (a2 : S__3_int) (s0 s1 : SV) (r : Bool) (M : Mem) (hs0 : Slc (rd M) 9 (FlatR enc99) s0 a0) (hs1 : Slc (rd M) 3 (FlatR enc67) s1 a1) (h : sky_fit F a0 a1 a2 = some r) : CallsM Tryz.prog 72 [s0, s1, (.agg [(.int .i64 a2.e0), (.int .i64 a2.e1), (.int .i64 a2.e2)])] M (fun s M' => s = (.bool r) ∧ M' = M) := by
  refine CallsM.plain Tryz.func72 rfl rfl rfl (show Run _ _ _ (sky_fit_post r) _ _ _ from ?_)
  rw [sky_fit] at h
  replace hs0 := hs0.mono (rdLe_frozen M) (fun _ _ h => h)
  replace hs1 := hs1.mono (rdLe_frozen M) (fun _ _ h => h)
  have hH := Has.nil (frozen M)
  refine Run.seq (Run.region ?_)
  refine Run.opX wantS_none rfl (ExG.box rfl rfl hH) ?_
  rintro _ M23 ⟨b22, rfl, hH23⟩
  refine Run.opG wantS_none (ex_assign rfl) rfl ?_
  refine Run.opsEnd (Run.seq (Run.seq (Run.region ?_)))
  refine Run.opG wantS_none (ex_move rfl) rfl ?_
  refine Run.opG wantS_none (ex_len' rfl hs1 lenk35) rfl ?_
  refine Run.opG wantS_none (ex_move rfl) rfl ?_
  refine Run.opsEnd (Run.block (Run.loop ?_))
  exact Run.pick [0, 1, 5, 12, 13, 14] (sky_fit_1_ok F F a0 a1 a1 (a1.length : Int) (0 : Int) a2 s0 s1 s1 b22 _ _ _ hs0 hs1 hs1 hH23 h)

theorem mkk72 : makeK Tryz.prog 72 = none := by kernel_rfl
theorem cal72 : callable Tryz.prog 72 = true := by kernel_rfl
theorem sz36 : szOf Tryz.prog 36 = some 1 := by kernel_rfl
abbrev sky_Fits_post (r : (List Int) × Int) : SV → Mem → Prop := fun s Me => ∃ q1, s = (.tuple [q1, (.int .i64 r.2)]) ∧ Has (fun _ => none) Me [.vec 3 1 r.1.length q1 (r.1.flatMap enc3)]

def sky_Fits_1 (F : Nat) : Nat → Int → Int → (List S_api_Arrival) → Int → (List S_sky_site) → (List Int) → Option ((List Int) × Int)
  | 0, _, _, _, _, _, _ => none
  | N + 1, v5, v6, c22_0, c52_0, l39, l59 =>
    bif (decide (v6 < v5)) then
      bnd (sky_grid_direction F c52_0 v6) fun r63 =>
      bnd (sky_fit F l39 c22_0 r63) fun r74 =>
      bif r74 then
        bnd (apd 8 l59 ([v6] : List Int)) fun l82 =>
        (sky_Fits_1 F N) v5 (w64 (v6 + (1 : Int))) c22_0 c52_0 l39 l82
      else
        (sky_Fits_1 F N) v5 (w64 (v6 + (1 : Int))) c22_0 c52_0 l39 l59
    else
      some (l59, (0 : Int))

theorem sky_Fits_1_ok (F : Nat) : ∀ (N : Nat), ∀ (v5 v6 : Int) (c22_0 : (List S_api_Arrival)) (c52_0 : Int) (l39 : (List S_sky_site)) (l59 : (List Int)) (sc22_0 : SV) (b54 b46 b42 : Pos) (s39 : SV) (b22 b49 : Pos) (s59 : SV) (b52 b55 : Pos) (Fr : Rd) (M : Mem) (r : (List Int) × Int) (hc22_0 : Slc Fr 3 (FlatR enc67) sc22_0 c22_0) (hH : Has Fr M [.obj b54 (.loop ⟨.ready, none, 67, 20, treeOf [(3, (.ptr b46 0)), (4, .nils), (5, (.ptr b49 0)), (9, (.fn (.func 156) [] [(.ptr b52 0)]))], [10, 11], (atC Tryz.prog 67 [1, 1, 0, 1, 0, 0]), (atC Tryz.prog 67 [1, 1, 0, 1, 0, 1]), b55⟩), .obj b46 (.row 89 .whole [(.fn (.func 71) [] [(.ptr b42 0), (.ptr b22 0)])]), .obj b42 (.row 93 .whole [s39]), .vec 99 9 l39.length s39 (l39.flatMap enc99), .obj b22 (.row 35 .whole [sc22_0]), .obj b49 (.row 36 .whole [s59]), .vec 3 1 l59.length s59 (l59.flatMap enc3), .obj b52 (.row 81 .whole [(.int .i64 c52_0)]), .obj b55 .defd]), sky_Fits_1 F N v5 v6 c22_0 c52_0 l39 l59 = some r → Run Tryz.prog ⟨⟨156, [], none⟩, [.mk ⟨67, [b55], none⟩ 20 (treeOf [(5, (.ptr b49 0))]) [.inRange b54, .inBlock 0, codeC Tryz.prog 67 [1, 1, 1]], .mk ⟨22, [], none⟩ 28 (treeOf []) [itemC Tryz.prog 22 [1, 1, 1, 0] 2, codeC Tryz.prog 22 [1, 1, 1, 1]]]⟩ 17 (sky_Fits_post r) [(0, (.yield b54)), (1, (.ptr b52 0)), (5, (.int .i64 v5)), (6, (.int .i64 v6))] [codeC Tryz.prog 156 [1, 0, 0], loopC Tryz.prog 156 [1, 0, 0], .inBlock 0] M := by
  intro N
  induction N with
  | zero =>
    intro v5 v6 c22_0 c52_0 l39 l59 sc22_0 b54 b46 b42 s39 b22 b49 s59 b52 b55 Fr M r hc22_0 hH h
    simp [sky_Fits_1] at h
  | succ N ih =>
    intro v5 v6 c22_0 c52_0 l39 l59 sc22_0 b54 b46 b42 s39 b22 b49 s59 b52 b55 Fr M r hc22_0 hH h
    rw [sky_Fits_1] at h
    refine Run.seq (Run.region ?_)
    refine Run.opG wantS_none (ex_lss rfl rfl) rfl ?_
    refine Run.opsEnd (Run.seq ?_)
    rcases btf ((decide (v6 < v5))) with hc61 | hc61
    · have h := bif_t hc61 h
      refine Run.condT' rfl hc61 ?_
      refine Run.skip (Run.seq (Run.block (Run.seq (Run.region ?_))))
      refine Run.opG wantS_none (ex_move rfl) rfl ?_
      refine Run.opG wantS_none (ex_assign rfl) rfl ?_
      refine Run.opsEnd (Run.seq (Run.region ?_))
      refine Run.opG wantS_none (ex_move rfl) rfl ?_
      refine Run.opG wantS_none (ex_move rfl) rfl ?_
      refine Run.opG wantS_none (ex_load1 rfl (hH.cells (i := 7) rfl 0 rfl) rdLe_rfl agg81) rfl ?_
      refine Run.opG wantS_none (ex_move rfl) rfl ?_
      obtain ⟨r63, hr63, h⟩ := bnd_some h
      refine Run.callP wantS_none (ex_call rfl mkk52 cal52) rfl (sky_grid_direction_ok F c52_0 v6 _ _ hr63) ?_
      refine Run.round (e' := [(11, (.agg [(.int .i64 r63.e0), (.int .i64 r63.e1), (.int .i64 r63.e2)])), (10, (.int .i64 v6)), (3, (.ptr b46 0)), (4, .nils), (5, (.ptr b49 0)), (9, (.fn (.func 156) [] [(.ptr b52 0)]))]) wantS_none (ex_yield hH (i := 0) rfl rfl rfl rfl) (hH.loopOf (i := 0) rfl) rfl ?_
      refine Run.seq (Run.region ?_)
      refine Run.opG wantS_none (ex_assign rfl) rfl ?_
      refine Run.opsEnd (Run.region ?_)
      refine Run.opX wantS_none rfl (ExG.new (v := fun b => .ptr b 0) (ex_alloc zer85) hH) ?_
      rintro _ M67 ⟨b66, rfl, hH67⟩
      refine Run.opX wantS_none rfl (ExG.storeC (c' := [(.int .i64 r63.e0), (.int .i64 r63.e1), (.int .i64 r63.e2)]) rfl rfl rfl hH67 (i := 0) rfl sz85 rfl rfl rfl rfl rfl) ?_
      rintro _ M68 ⟨rfl, (hH68 : Has Fr M68 [.obj b66 (.row 85 .whole [(.int .i64 r63.e0), (.int .i64 r63.e1), (.int .i64 r63.e2)]), .obj b54 (.loop ⟨.ready, none, 67, 20, treeOf [(3, (.ptr b46 0)), (4, .nils), (5, (.ptr b49 0)), (9, (.fn (.func 156) [] [(.ptr b52 0)]))], [10, 11], (atC Tryz.prog 67 [1, 1, 0, 1, 0, 0]), (atC Tryz.prog 67 [1, 1, 0, 1, 0, 1]), b55⟩), .obj b46 (.row 89 .whole [(.fn (.func 71) [] [(.ptr b42 0), (.ptr b22 0)])]), .obj b42 (.row 93 .whole [s39]), .vec 99 9 l39.length s39 (l39.flatMap enc99), .obj b22 (.row 35 .whole [sc22_0]), .obj b49 (.row 36 .whole [s59]), .vec 3 1 l59.length s59 (l59.flatMap enc3), .obj b52 (.row 81 .whole [(.int .i64 c52_0)]), .obj b55 .defd])⟩
      refine Run.opsEnd ?_
      refine Run.beginX hH68 (i := 1) rfl rfl ?_
      intro M69 (hH69 : Has Fr M69 [.obj b66 (.row 85 .whole [(.int .i64 r63.e0), (.int .i64 r63.e1), (.int .i64 r63.e2)]), .obj b54 (.loop ⟨.busy, none, 67, 20, treeOf [(3, (.ptr b46 0)), (4, .nils), (5, (.ptr b49 0)), (9, (.fn (.func 156) [] [(.ptr b52 0)]))], [10, 11], (atC Tryz.prog 67 [1, 1, 0, 1, 0, 0]), (atC Tryz.prog 67 [1, 1, 0, 1, 0, 1]), b55⟩), .obj b46 (.row 89 .whole [(.fn (.func 71) [] [(.ptr b42 0), (.ptr b22 0)])]), .obj b42 (.row 93 .whole [s39]), .vec 99 9 l39.length s39 (l39.flatMap enc99), .obj b22 (.row 35 .whole [sc22_0]), .obj b49 (.row 36 .whole [s59]), .vec 3 1 l59.length s59 (l59.flatMap enc3), .obj b52 (.row 81 .whole [(.int .i64 c52_0)]), .obj b55 .defd])
      refine Run.block (Run.seq (Run.region ?_))
      refine Run.opG wantS_none (ex_load1 rfl (hH69.cells (i := 2) rfl 0 rfl) rdLe_rfl agg89) rfl ?_
      refine Run.opG wantS_none (ex_loadA rfl (hH69.cells (i := 0) rfl 0 rfl) rdLe_rfl agg85 rfl rfl rfl) rfl ?_
      refine Run.enter wantS_none (ex_closure rfl rfl mkk71 cal71) Tryz.func71 rfl rfl ?_
      refine Run.seq (Run.region ?_)
      refine Run.opX wantS_none rfl (ExG.box rfl rfl hH69) ?_
      rintro _ M72 ⟨b71, rfl, hH72⟩
      refine Run.opG wantS_none (ex_assign rfl) rfl ?_
      refine Run.opsEnd (Run.seq (Run.region ?_))
      refine Run.opG wantS_none (ex_load1 rfl (hH72.cells (i := 4) rfl 0 rfl) rdLe_rfl agg93) rfl ?_
      refine Run.opG wantS_none (ex_load1 rfl (hH72.cells (i := 6) rfl 0 rfl) rdLe_rfl agg35) rfl ?_
      refine Run.opG wantS_none (ex_loadA rfl (hH72.cells (i := 0) rfl 0 rfl) rdLe_rfl agg85 rfl rfl rfl) rfl ?_
      obtain ⟨r74, hr74, h⟩ := bnd_some h
      refine Run.callP wantS_none (ex_call rfl mkk72 cal72) rfl (sky_fit_ok F l39 c22_0 r63 s39 sc22_0 _ _ (hH72.slc (i := 5) rfl enc99_len) (hH72.slcF hc22_0) hr74) ?_
      refine Run.opG wantS_none (ex_assign rfl) rfl ?_
      refine Run.opsEnd ?_
      refine Run.retTo Tryz.func71 rfl (res_tmp rfl res_nil) rfl ?_
      refine Run.opsEnd ?_
      rcases btf (r74) with hc76 | hc76
      · have h := bif_t hc76 h
        refine Run.condT' rfl hc76 ?_
        refine Run.region ?_
        refine Run.opG wantS_none (ex_load1 rfl (hH72.cells (i := 7) rfl 0 rfl) rdLe_rfl agg36) rfl ?_
        refine Run.opG wantS_none (ex_move rfl) rfl ?_
        refine Run.opX wantS_none rfl (ExG.built (enc := enc3) (l := ([v6] : List Int)) (z := 1) rfl elt36 rfl rfl rfl enc3_len hH72) ?_
        rintro s78 M79 (hH79 : Has Fr M79 [.vec 3 1 ([v6] : List Int).length s78 (([v6] : List Int).flatMap enc3), .obj b71 (.row 85 .whole [(.int .i64 r63.e0), (.int .i64 r63.e1), (.int .i64 r63.e2)]), .obj b66 (.row 85 .whole [(.int .i64 r63.e0), (.int .i64 r63.e1), (.int .i64 r63.e2)]), .obj b54 (.loop ⟨.busy, none, 67, 20, treeOf [(3, (.ptr b46 0)), (4, .nils), (5, (.ptr b49 0)), (9, (.fn (.func 156) [] [(.ptr b52 0)]))], [10, 11], (atC Tryz.prog 67 [1, 1, 0, 1, 0, 0]), (atC Tryz.prog 67 [1, 1, 0, 1, 0, 1]), b55⟩), .obj b46 (.row 89 .whole [(.fn (.func 71) [] [(.ptr b42 0), (.ptr b22 0)])]), .obj b42 (.row 93 .whole [s39]), .vec 99 9 l39.length s39 (l39.flatMap enc99), .obj b22 (.row 35 .whole [sc22_0]), .obj b49 (.row 36 .whole [s59]), .vec 3 1 l59.length s59 (l59.flatMap enc3), .obj b52 (.row 81 .whole [(.int .i64 c52_0)]), .obj b55 .defd])
        obtain ⟨l82, hl82, h⟩ := bnd_some h
        refine Run.opX wantS_none rfl (ExG.append rfl rfl hH79 (i := 9) rfl enc3_len rfl enc3_ones appt36_36 rfl (len_slc (hH79.slc (i := 0) rfl enc3_len)) (first_slc (hH79.slc (i := 0) rfl enc3_len) (rdLe_rdRow _) enc3_len) hl82) ?_
        rintro s82 M84 (hH84 : Has Fr M84 [.vec 3 1 ([v6] : List Int).length s78 (([v6] : List Int).flatMap enc3), .obj b71 (.row 85 .whole [(.int .i64 r63.e0), (.int .i64 r63.e1), (.int .i64 r63.e2)]), .obj b66 (.row 85 .whole [(.int .i64 r63.e0), (.int .i64 r63.e1), (.int .i64 r63.e2)]), .obj b54 (.loop ⟨.busy, none, 67, 20, treeOf [(3, (.ptr b46 0)), (4, .nils), (5, (.ptr b49 0)), (9, (.fn (.func 156) [] [(.ptr b52 0)]))], [10, 11], (atC Tryz.prog 67 [1, 1, 0, 1, 0, 0]), (atC Tryz.prog 67 [1, 1, 0, 1, 0, 1]), b55⟩), .obj b46 (.row 89 .whole [(.fn (.func 71) [] [(.ptr b42 0), (.ptr b22 0)])]), .obj b42 (.row 93 .whole [s39]), .vec 99 9 l39.length s39 (l39.flatMap enc99), .obj b22 (.row 35 .whole [sc22_0]), .obj b49 (.row 36 .whole [s59]), .vec 3 1 l82.length s82 (l82.flatMap enc3), .obj b52 (.row 81 .whole [(.int .i64 c52_0)]), .obj b55 .defd])
        refine Run.opX wantS_none rfl (ExG.storeC (c' := [s82]) rfl rfl (cells_one (vec_one hH84 (i := 9) rfl)) hH84 (i := 8) rfl sz36 rfl rfl rfl (ones_cons (vec_one hH84 (i := 9) rfl) ones_nil) rfl) ?_
        rintro _ M85 ⟨rfl, (hH85 : Has Fr M85 [.vec 3 1 ([v6] : List Int).length s78 (([v6] : List Int).flatMap enc3), .obj b71 (.row 85 .whole [(.int .i64 r63.e0), (.int .i64 r63.e1), (.int .i64 r63.e2)]), .obj b66 (.row 85 .whole [(.int .i64 r63.e0), (.int .i64 r63.e1), (.int .i64 r63.e2)]), .obj b54 (.loop ⟨.busy, none, 67, 20, treeOf [(3, (.ptr b46 0)), (4, .nils), (5, (.ptr b49 0)), (9, (.fn (.func 156) [] [(.ptr b52 0)]))], [10, 11], (atC Tryz.prog 67 [1, 1, 0, 1, 0, 0]), (atC Tryz.prog 67 [1, 1, 0, 1, 0, 1]), b55⟩), .obj b46 (.row 89 .whole [(.fn (.func 71) [] [(.ptr b42 0), (.ptr b22 0)])]), .obj b42 (.row 93 .whole [s39]), .vec 99 9 l39.length s39 (l39.flatMap enc99), .obj b22 (.row 35 .whole [sc22_0]), .obj b49 (.row 36 .whole [s82]), .vec 3 1 l82.length s82 (l82.flatMap enc3), .obj b52 (.row 81 .whole [(.int .i64 c52_0)]), .obj b55 .defd])⟩
        refine Run.opsEnd (Run.inBlock ?_)
        refine Run.roundEndX hH85 (i := 3) rfl rfl ?_
        intro M86 (hH86 : Has Fr M86 [.vec 3 1 ([v6] : List Int).length s78 (([v6] : List Int).flatMap enc3), .obj b71 (.row 85 .whole [(.int .i64 r63.e0), (.int .i64 r63.e1), (.int .i64 r63.e2)]), .obj b66 (.row 85 .whole [(.int .i64 r63.e0), (.int .i64 r63.e1), (.int .i64 r63.e2)]), .obj b54 (.loop ⟨.ready, none, 67, 20, treeOf [(3, (.ptr b46 0)), (4, .nils), (5, (.ptr b49 0)), (9, (.fn (.func 156) [] [(.ptr b52 0)]))], [10, 11], (atC Tryz.prog 67 [1, 1, 0, 1, 0, 0]), (atC Tryz.prog 67 [1, 1, 0, 1, 0, 1]), b55⟩), .obj b46 (.row 89 .whole [(.fn (.func 71) [] [(.ptr b42 0), (.ptr b22 0)])]), .obj b42 (.row 93 .whole [s39]), .vec 99 9 l39.length s39 (l39.flatMap enc99), .obj b22 (.row 35 .whole [sc22_0]), .obj b49 (.row 36 .whole [s82]), .vec 3 1 l82.length s82 (l82.flatMap enc3), .obj b52 (.row 81 .whole [(.int .i64 c52_0)]), .obj b55 .defd])
        refine Run.opG wantS_none (ex_not rfl) rfl ?_
        refine Run.opsEnd ?_
        refine Run.condF' rfl (bnot_f rfl) ?_
        refine Run.skip (Run.inBlock (Run.region ?_))
        refine Run.opG wantS_none (ex_add rfl rfl) rfl ?_
        refine Run.opG wantS_none (ex_move rfl) rfl ?_
        refine Run.opsEnd (Run.inLoop ?_)
        exact Run.low (.cons (fle_pick [5] rfl) (.cons (fle_pick [] rfl) .nil)) (Run.pick [0, 1, 5, 6] (ih v5 (w64 (v6 + (1 : Int))) c22_0 c52_0 l39 l82 sc22_0 b54 b46 b42 s39 b22 b49 s82 b52 b55 _ _ _ hc22_0 (hH86.pick [3, 4, 5, 6, 7, 8, 9, 10, 11] rfl rfl) h))
      · have h := bif_f hc76 h
        refine Run.condF' rfl hc76 ?_
        refine Run.skip (Run.inBlock ?_)
        refine Run.roundEndX hH72 (i := 2) rfl rfl ?_
        intro M87 (hH87 : Has Fr M87 [.obj b71 (.row 85 .whole [(.int .i64 r63.e0), (.int .i64 r63.e1), (.int .i64 r63.e2)]), .obj b66 (.row 85 .whole [(.int .i64 r63.e0), (.int .i64 r63.e1), (.int .i64 r63.e2)]), .obj b54 (.loop ⟨.ready, none, 67, 20, treeOf [(3, (.ptr b46 0)), (4, .nils), (5, (.ptr b49 0)), (9, (.fn (.func 156) [] [(.ptr b52 0)]))], [10, 11], (atC Tryz.prog 67 [1, 1, 0, 1, 0, 0]), (atC Tryz.prog 67 [1, 1, 0, 1, 0, 1]), b55⟩), .obj b46 (.row 89 .whole [(.fn (.func 71) [] [(.ptr b42 0), (.ptr b22 0)])]), .obj b42 (.row 93 .whole [s39]), .vec 99 9 l39.length s39 (l39.flatMap enc99), .obj b22 (.row 35 .whole [sc22_0]), .obj b49 (.row 36 .whole [s59]), .vec 3 1 l59.length s59 (l59.flatMap enc3), .obj b52 (.row 81 .whole [(.int .i64 c52_0)]), .obj b55 .defd])
        refine Run.opG wantS_none (ex_not rfl) rfl ?_
        refine Run.opsEnd ?_
        refine Run.condF' rfl (bnot_f rfl) ?_
        refine Run.skip (Run.inBlock (Run.region ?_))
        refine Run.opG wantS_none (ex_add rfl rfl) rfl ?_
        refine Run.opG wantS_none (ex_move rfl) rfl ?_
        refine Run.opsEnd (Run.inLoop ?_)
        exact Run.low (.cons (fle_pick [5] rfl) (.cons (fle_pick [] rfl) .nil)) (Run.pick [0, 1, 5, 6] (ih v5 (w64 (v6 + (1 : Int))) c22_0 c52_0 l39 l59 sc22_0 b54 b46 b42 s39 b22 b49 s59 b52 b55 _ _ _ hc22_0 (hH87.pick [2, 3, 4, 5, 6, 7, 8, 9, 10] rfl rfl) h))
    · have h := bif_f hc61 h
      refine Run.condF' rfl hc61 ?_
      refine Run.exit rfl ?_
      refine Run.fallRange Tryz.func156 rfl res_nil ?_
      refine Run.endX hH (i := 0) rfl (fun hc => by cases hc) ?_
      intro M88 (hH88 : Has Fr M88 [.obj b54 (.loop ⟨.exhausted, none, 67, 20, treeOf [(3, (.ptr b46 0)), (4, .nils), (5, (.ptr b49 0)), (9, (.fn (.func 156) [] [(.ptr b52 0)]))], [10, 11], (atC Tryz.prog 67 [1, 1, 0, 1, 0, 0]), (atC Tryz.prog 67 [1, 1, 0, 1, 0, 1]), b55⟩), .obj b46 (.row 89 .whole [(.fn (.func 71) [] [(.ptr b42 0), (.ptr b22 0)])]), .obj b42 (.row 93 .whole [s39]), .vec 99 9 l39.length s39 (l39.flatMap enc99), .obj b22 (.row 35 .whole [sc22_0]), .obj b49 (.row 36 .whole [s59]), .vec 3 1 l59.length s59 (l59.flatMap enc3), .obj b52 (.row 81 .whole [(.int .i64 c52_0)]), .obj b55 .defd])
      refine Run.inBlock (Run.seq (Run.region ?_))
      refine Run.opG wantS_none (ex_load1 rfl (hH88.cells (i := 5) rfl 0 rfl) rdLe_rfl agg36) rfl ?_
      refine Run.opG wantS_none (ex_assign rfl) rfl ?_
      refine Run.opsEnd ?_
      obtain ⟨hH89x, hS89⟩ := hH88.shut (i := 8) (ds := []) rfl
      have hH89 : Has Fr (setT M88 b55 none) [.obj b54 (.loop ⟨.exhausted, none, 67, 20, treeOf [(3, (.ptr b46 0)), (4, .nils), (5, (.ptr b49 0)), (9, (.fn (.func 156) [] [(.ptr b52 0)]))], [10, 11], (atC Tryz.prog 67 [1, 1, 0, 1, 0, 0]), (atC Tryz.prog 67 [1, 1, 0, 1, 0, 1]), b55⟩), .obj b46 (.row 89 .whole [(.fn (.func 71) [] [(.ptr b42 0), (.ptr b22 0)])]), .obj b42 (.row 93 .whole [s39]), .vec 99 9 l39.length s39 (l39.flatMap enc99), .obj b22 (.row 35 .whole [sc22_0]), .obj b49 (.row 36 .whole [s59]), .vec 3 1 l59.length s59 (l59.flatMap enc3), .obj b52 (.row 81 .whole [(.int .i64 c52_0)]), .vec 0 0 0 .nils []] := hH89x
      refine Run.retTo Tryz.func67 (hS89 _ rfl) (res_tmp rfl res_nil) rfl ?_
      refine Run.opG wantS_none (ex_assign rfl) rfl ?_
      refine Run.opG wantS_none (ex_assign rfl) rfl ?_
      refine Run.opsEnd ?_
      cases h
      exact Run.ret Tryz.func22 rfl (res_tmp rfl (res_tmp rfl res_nil)) ⟨_, rfl, (hH89.pick [6] rfl rfl).upF (none_le _)⟩

def sky_Fits (F : Nat) (a0 : (List S_api_Site)) (a1 : Int) (a2 : (List S_api_Arrival)) : Option ((List Int) × Int) :=
  bnd (sky_checkNetGrid F a0 a1) fun r25 =>
  bif (!(r25 == (0 : Int))) then
    some (([] : List Int), r25)
  else
    bnd (sky_areArrivals F a2 (a0.length : Int)) fun r31 =>
    bif (!r31) then
      some (([] : List Int), (92 : Int))
    else
      bnd (sky_sitesOf F a0) fun r38 =>
      bnd (sky_grid_cells F a1) fun r57 =>
      sky_Fits_1 F F r57 (0 : Int) a2 a1 r38 ([] : List Int)

theorem sky_Fits_ok (F : Nat) (a0 : (List S_api_Site)) (a1 : Int) (a2 : (List S_api_Arrival)) (s0 s1 : SV) (r : (List Int) × Int) (M : Mem) (hs0 : Slc (rd M) 10 (FlatR enc105) s0 a0) (hs1 : Slc (rd M) 3 (FlatR enc67) s1 a2) (h : sky_Fits F a0 a1 a2 = some r) : CallsM Tryz.prog 22 [s0, (.int .i64 a1), s1] M (fun s M' => ∃ q1, s = (.tuple [q1, (.int .i64 r.2)]) ∧ New M M' [.vec 3 1 r.1.length q1 (r.1.flatMap enc3)]) := by
  refine CallsM.fresh (Q := sky_Fits_post r) Tryz.func22 rfl rfl ?_ (by rintro s Me ⟨q1, rfl, hx⟩ ha hw; exact ⟨_, rfl, New.of rfl hx ha hw⟩)
  rw [sky_Fits] at h
  replace hs0 := hs0.mono (rdLe_frozen M) (fun _ _ h => h)
  replace hs1 := hs1.mono (rdLe_frozen M) (fun _ _ h => h)
  have hH := Has.nil (frozen M)
  refine Run.seq (Run.region ?_)
  refine Run.opX wantS_none rfl (ExG.box rfl (cells_one (slc_one hs1)) hH) ?_
  rintro _ M23 ⟨b22, rfl, hH23⟩
  refine Run.opG wantS_none (ex_assign rfl) rfl ?_
  refine Run.opG wantS_none (ex_assign rfl) rfl ?_
  refine Run.opsEnd (Run.seq (Run.seq (Run.region ?_)))
  refine Run.opG wantS_none (ex_move rfl) rfl ?_
  refine Run.opG wantS_none (ex_move rfl) rfl ?_
  obtain ⟨r25, hr25, h⟩ := bnd_some h
  refine Run.callP wantS_none (ex_call rfl mkk59 cal59) rfl (sky_checkNetGrid_ok F a0 a1 s0 _ _ (hH23.slcF hs0) hr25) ?_
  refine Run.opG wantS_none (ex_assign rfl) rfl ?_
  refine Run.opsEnd (Run.block (Run.seq (Run.region ?_)))
  refine Run.opG wantS_none (ex_move rfl) rfl ?_
  refine Run.opG wantS_none (ex_neq rfl rfl) rfl ?_
  refine Run.opG wantS_none (ex_assign rfl) rfl ?_
  refine Run.opsEnd ?_
  rcases btf ((!(r25 == (0 : Int)))) with hc27 | hc27
  · have h := bif_t hc27 h
    refine Run.condT' rfl hc27 ?_
    refine Run.seq (Run.region ?_)
    refine Run.opG wantS_none (ex_move rfl) rfl ?_
    refine Run.opG wantS_none (ex_assign rfl) rfl ?_
    refine Run.opG wantS_none (ex_assign rfl) rfl ?_
    refine Run.opsEnd ?_
    have hH29 : Has (ro (frozen M)) M23 [.vec 3 1 ([] : List Int).length .nils (([] : List Int).flatMap enc3), .obj b22 (.row 35 .whole [s1])] := hH23.nils 3 1
    cases h
    exact Run.ret Tryz.func22 rfl (res_tmp rfl (res_tmp rfl res_nil)) ⟨_, rfl, (hH29.pick [0] rfl rfl).upF (none_le _)⟩
  · have h := bif_f hc27 h
    refine Run.condF' rfl hc27 ?_
    refine Run.seq (Run.region ?_)
    refine Run.opG wantS_none (ex_load1 rfl (hH23.cells (i := 0) rfl 0 rfl) rdLe_rfl agg35) rfl ?_
    refine Run.opG wantS_none (ex_move rfl) rfl ?_
    refine Run.opG wantS_none (ex_len' rfl hs0 lenk31) rfl ?_
    obtain ⟨r31, hr31, h⟩ := bnd_some h
    refine Run.callP wantS_none (ex_call rfl mkk70 cal70) rfl (sky_areArrivals_ok F a2 (a0.length : Int) s1 _ _ (hH23.slcF hs1) hr31) ?_
    refine Run.opG wantS_none (ex_not rfl) rfl ?_
    refine Run.opG wantS_none (ex_assign rfl) rfl ?_
    refine Run.opsEnd ?_
    rcases btf ((!r31)) with hc33 | hc33
    · have h := bif_t hc33 h
      refine Run.condT' rfl hc33 ?_
      refine Run.seq (Run.region ?_)
      refine Run.opG wantS_none (ex_assign rfl) rfl ?_
      refine Run.opG wantS_none (ex_assign rfl) rfl ?_
      refine Run.opsEnd ?_
      have hH35 : Has (ro (frozen M)) M23 [.vec 3 1 ([] : List Int).length .nils (([] : List Int).flatMap enc3), .obj b22 (.row 35 .whole [s1])] := hH23.nils 3 1
      cases h
      exact Run.ret Tryz.func22 rfl (res_tmp rfl (res_tmp rfl res_nil)) ⟨_, rfl, (hH35.pick [0] rfl rfl).upF (none_le _)⟩
    · have h := bif_f hc33 h
      refine Run.condF' rfl hc33 ?_
      refine Run.skip (Run.inBlock (Run.seq (Run.region ?_)))
      refine Run.opG wantS_none (ex_move rfl) rfl ?_
      obtain ⟨r38, hr38, h⟩ := bnd_some h
      refine Run.callX wantS_none (ex_call rfl mkk63 cal63) rfl (sky_sitesOf_ok F a0 s0 _ _ (hH23.slcF hs0) hr38) ?_
      rintro s38_0 M40 ⟨_, rfl, hN38⟩
      have hH40 : Has (ro (frozen M)) M40 [.vec 99 9 r38.length s38_0 (r38.flatMap enc99), .obj b22 (.row 35 .whole [s1])] := hN38.1 _ _ hH23
      refine Run.opX wantS_none rfl (ExG.new (v := fun b => .ptr b 0) (ex_alloc zer93) hH40) ?_
      rintro _ M43 ⟨b42, rfl, hH43⟩
      refine Run.opX wantS_none rfl (ExG.storeC (c' := [s38_0]) rfl rfl (cells_one (vec_one hH43 (i := 1) rfl)) hH43 (i := 0) rfl sz93 rfl rfl rfl (ones_cons (vec_one hH43 (i := 1) rfl) ones_nil) rfl) ?_
      rintro _ M44 ⟨rfl, (hH44 : Has (ro (frozen M)) M44 [.obj b42 (.row 93 .whole [s38_0]), .vec 99 9 r38.length s38_0 (r38.flatMap enc99), .obj b22 (.row 35 .whole [s1])])⟩
      refine Run.opsEnd (Run.seq (Run.region ?_))
      refine Run.opG wantS_none (ex_move rfl) rfl ?_
      refine Run.opG wantS_none (ex_makeFunc rfl rfl) rfl ?_
      refine Run.enter wantS_none (ex_call rfl mkk67 cal67) Tryz.func67 rfl rfl ?_
      refine Run.seq (Run.region ?_)
      refine Run.opX wantS_none rfl (ExG.box rfl rfl hH44) ?_
      rintro _ M47 ⟨b46, rfl, hH47⟩
      refine Run.opG wantS_none (ex_assign rfl) rfl ?_
      refine Run.opsEnd (Run.seq (Run.region ?_))
      refine Run.opX wantS_none rfl (ExG.new (v := fun b => .ptr b 0) (ex_alloc zer36) hH47) ?_
      rintro _ M50 ⟨b49, rfl, hH50⟩
      refine Run.opsEnd (Run.seq (Run.seq (Run.region ?_)))
      refine Run.opG wantS_none (ex_move rfl) rfl ?_
      refine Run.enter wantS_none (ex_call rfl mkk114 cal114) Tryz.func114 rfl rfl ?_
      refine Run.seq (Run.region ?_)
      refine Run.opX wantS_none rfl (ExG.box rfl rfl hH50) ?_
      rintro _ M53 ⟨b52, rfl, hH53⟩
      refine Run.opG wantS_none (ex_assign rfl) rfl ?_
      refine Run.opsEnd (Run.seq (Run.region ?_))
      refine Run.opG wantS_none (ex_makeFunc rfl rfl) rfl ?_
      refine Run.opG wantS_none (ex_assign rfl) rfl ?_
      refine Run.opsEnd ?_
      refine Run.retTo Tryz.func114 rfl (res_tmp rfl res_nil) rfl ?_
      refine Run.opsEnd (Run.block ?_)
      refine Run.pick [3, 4, 5, 9] ?_
      refine Run.rangeX rfl cal156 Tryz.func156 rfl rfl hH53 ?_
      intro b55 b54 M54 (hH54 : Has (ro (frozen M)) M54 [.obj b54 (.loop ⟨.ready, none, 67, 20, treeOf [(3, (.ptr b46 0)), (4, .nils), (5, (.ptr b49 0)), (9, (.fn (.func 156) [] [(.ptr b52 0)]))], [10, 11], (atC Tryz.prog 67 [1, 1, 0, 1, 0, 0]), (atC Tryz.prog 67 [1, 1, 0, 1, 0, 1]), b55⟩), .obj b55 .defd, .obj b52 (.row 81 .whole [(.int .i64 a1)]), .obj b49 (.row 36 .whole [.nils]), .obj b46 (.row 89 .whole [(.fn (.func 71) [] [(.ptr b42 0), (.ptr b22 0)])]), .obj b42 (.row 93 .whole [s38_0]), .vec 99 9 r38.length s38_0 (r38.flatMap enc99), .obj b22 (.row 35 .whole [s1])])
      refine Run.seq (Run.region ?_)
      refine Run.opG wantS_none (ex_load1 rfl (hH54.cells (i := 2) rfl 0 rfl) rdLe_rfl agg81) rfl ?_
      obtain ⟨r57, hr57, h⟩ := bnd_some h
      refine Run.callP wantS_none (ex_call rfl mkk49 cal49) rfl (sky_grid_cells_ok F a1 _ _ hr57) ?_
      refine Run.opG wantS_none (ex_move rfl) rfl ?_
      refine Run.opsEnd (Run.block (Run.loop ?_))
      have hH60 : Has (ro (frozen M)) M54 [.vec 3 1 ([] : List Int).length .nils (([] : List Int).flatMap enc3), .obj b54 (.loop ⟨.ready, none, 67, 20, treeOf [(3, (.ptr b46 0)), (4, .nils), (5, (.ptr b49 0)), (9, (.fn (.func 156) [] [(.ptr b52 0)]))], [10, 11], (atC Tryz.prog 67 [1, 1, 0, 1, 0, 0]), (atC Tryz.prog 67 [1, 1, 0, 1, 0, 1]), b55⟩), .obj b55 .defd, .obj b52 (.row 81 .whole [(.int .i64 a1)]), .obj b49 (.row 36 .whole [.nils]), .obj b46 (.row 89 .whole [(.fn (.func 71) [] [(.ptr b42 0), (.ptr b22 0)])]), .obj b42 (.row 93 .whole [s38_0]), .vec 99 9 r38.length s38_0 (r38.flatMap enc99), .obj b22 (.row 35 .whole [s1])] := hH54.nils 3 1
      exact Run.low (.cons (fle_pick [5] rfl) (.cons (fle_pick [] rfl) .nil)) (Run.pick [0, 1, 5, 6] (sky_Fits_1_ok F F r57 (0 : Int) a2 a1 r38 ([] : List Int) s1 b54 b46 b42 s38_0 b22 b49 .nils b52 b55 _ _ _ hs1 (hH60.pick [1, 5, 6, 7, 8, 4, 0, 3, 2] rfl rfl) h))

theorem mkk22 : makeK Tryz.prog 22 = none := by kernel_rfl
theorem cal22 : callable Tryz.prog 22 = true := by kernel_rfl
theorem plan8_1_1_1_1_1_1_1_1_1_0_1_0_0_1_0_0 : planOf Tryz.prog (opsC (atC Tryz.prog 8 [1, 1, 1, 1, 1, 1, 1, 1, 1, 0, 1, 0, 0, 1, 0, 0])) = some [.fl 0, .fl 1, .fl 2, .fl 3, .fl 4, .fl 5, .fl 6, .fl 7, .fl 8, .fl 9, .fl 10, .fl 11, .fl 12, .fl 13, .fl 14, .fl 15, .fl 16, .fl 17, .fl 18, .fl 19, .an 20 [], .sync] := by kernel_rfl
abbrev ref00_Find_post (r : Int) : SV → Mem → Prop := fun s _ => s = (.int .i64 r)

def ref00_Find_1 (F : Nat) : Nat → (List Int) → Int → Int → Option (Int)
  | 0, _, _, _ => none
  | N + 1, v0, v1, v5 =>
    bif (decide (v5 < (v0.length : Int))) then
      bnd (idx v0 v5) fun x23 =>
      bif (x23 == v1) then
        some v5
      else
        (ref00_Find_1 F N) v0 v1 (w64 (v5 + (1 : Int)))
    else
      some ((-1) : Int)

theorem ref00_Find_1_ok (F : Nat) : ∀ (N : Nat), ∀ (v0 : (List Int)) (v1 v5 : Int) (sv0 : SV) (Fr : Rd) (M : Mem) (r : Int) (hv0 : Slc Fr 1 (FlatR enc3) sv0 v0) (hH : Has Fr M []), ref00_Find_1 F N v0 v1 v5 = some r → Run Tryz.prog ⟨⟨39, [], none⟩, []⟩ 19 (ref00_Find_post r) [(0, sv0), (1, (.int .i64 v1)), (5, (.int .i64 v5))] [codeC Tryz.prog 39 [1, 0, 1, 0, 0], loopC Tryz.prog 39 [1, 0, 1, 0, 0], .inBlock 0, codeC Tryz.prog 39 [1, 1]] M := by
  intro N
  induction N with
  | zero =>
    intro v0 v1 v5 sv0 Fr M r hv0 hH h
    simp [ref00_Find_1] at h
  | succ N ih =>
    intro v0 v1 v5 sv0 Fr M r hv0 hH h
    rw [ref00_Find_1] at h
    refine Run.seq (Run.seq (Run.region ?_))
    refine Run.opG wantS_none (ex_move rfl) rfl ?_
    refine Run.opG wantS_none (ex_move rfl) rfl ?_
    refine Run.opG wantS_none (ex_len' rfl hv0 lenk36) rfl ?_
    refine Run.opG wantS_none (ex_lss rfl rfl) rfl ?_
    refine Run.opsEnd ?_
    rcases btf ((decide (v5 < (v0.length : Int)))) with hc21 | hc21
    · have h := bif_t hc21 h
      refine Run.condT' rfl hc21 ?_
      refine Run.skip (Run.seq (Run.block (Run.seq (Run.region ?_))))
      refine Run.opG wantS_none (ex_move rfl) rfl ?_
      refine Run.opG wantS_none (ex_move rfl) rfl ?_
      obtain ⟨x23, hx23, h⟩ := bnd_some h
      obtain ⟨p23, o23, _, hx23, hp23, rfl⟩ := sl_elem (P := Tryz.prog) (t := 36) (kk := .i64) hv0 hx23 els36
      refine Run.opG wantS_none (ex_elX rfl rfl hx23) rfl ?_
      refine Run.opG wantS_none (ex_load1 rfl (hH.ptrF hp23) rdLe_rfl agg3) rfl ?_
      refine Run.opG wantS_none (ex_move rfl) rfl ?_
      refine Run.opG wantS_none (ex_eql rfl rfl) rfl ?_
      refine Run.opsEnd ?_
      rcases btf ((x23 == v1)) with hc24 | hc24
      · have h := bif_t hc24 h
        refine Run.condT' rfl hc24 ?_
        refine Run.seq (Run.region ?_)
        refine Run.opG wantS_none (ex_move rfl) rfl ?_
        refine Run.opG wantS_none (ex_assign rfl) rfl ?_
        refine Run.opsEnd ?_
        cases h
        exact Run.ret Tryz.func39 rfl (res_tmp rfl res_nil) rfl
      · have h := bif_f hc24 h
        refine Run.condF' rfl hc24 ?_
        refine Run.skip (Run.inBlock (Run.region ?_))
        refine Run.opG wantS_none (ex_move rfl) rfl ?_
        refine Run.opG wantS_none (ex_add rfl rfl) rfl ?_
        refine Run.opG wantS_none (ex_assign rfl) rfl ?_
        refine Run.opsEnd (Run.inLoop ?_)
        exact Run.pick [0, 1, 5] (ih v0 v1 (w64 (v5 + (1 : Int))) sv0 _ _ _ hv0 hH h)
    · have h := bif_f hc21 h
      refine Run.condF' rfl hc21 ?_
      refine Run.exit rfl (Run.seq (Run.region ?_))
      refine Run.opG wantS_none (ex_assign rfl) rfl ?_
      refine Run.opsEnd ?_
      cases h
      exact Run.ret Tryz.func39 rfl (res_tmp rfl res_nil) rfl

def ref00_Find (F : Nat) (a0 : (List Int)) (a1 : Int) : Option (Int) :=
  ref00_Find_1 F F a0 a1 (0 : Int)

theorem ref00_Find_ok (F : Nat) (a0 : (List Int)) (a1 : Int) (s0 : SV) (r : Int) (M : Mem) (hs0 : Slc (rd M) 1 (FlatR enc3) s0 a0) (h : ref00_Find F a0 a1 = some r) : CallsM Tryz.prog 39 [s0, (.int .i64 a1)] M (fun s M' => s = (.int .i64 r) ∧ M' = M) := by
  refine CallsM.plain Tryz.func39 rfl rfl rfl (show Run _ _ _ (ref00_Find_post r) _ _ _ from ?_)
  rw [ref00_Find] at h
  replace hs0 := hs0.mono (rdLe_frozen M) (fun _ _ h => h)
  have hH := Has.nil (frozen M)
  refine Run.seq (Run.region ?_)
  refine Run.opG wantS_none (ex_assign rfl) rfl ?_
  refine Run.opsEnd (Run.seq (Run.seq (Run.region ?_)))
  refine Run.opG wantS_none (ex_assign rfl) rfl ?_
  refine Run.opsEnd (Run.block (Run.loop ?_))
  exact Run.pick [0, 1, 5] (ref00_Find_1_ok F F a0 a1 (0 : Int) s0 _ _ _ hs0 hH h)

theorem mkk39 : makeK Tryz.prog 39 = none := by kernel_rfl
theorem cal39 : callable Tryz.prog 39 = true := by kernel_rfl
abbrev law09_inside_post (r : Bool) : SV → Mem → Prop := fun s _ => s = (.bool r)

def law09_inside_1 (F : Nat) : Nat → (List Int) → (List Int) → Int → Option (Bool)
  | 0, _, _, _ => none
  | N + 1, v0, v1, v5 =>
    bif (decide (v5 < (v0.length : Int))) then
      bnd (idx v0 v5) fun x23 =>
      bnd (ref00_Find F v1 x23) fun r25 =>
      bif (decide (r25 < (0 : Int))) then
        some false
      else
        (law09_inside_1 F N) v0 v1 (w64 (v5 + (1 : Int)))
    else
      some true

theorem law09_inside_1_ok (F : Nat) : ∀ (N : Nat), ∀ (v0 v1 : (List Int)) (v5 : Int) (sv0 sv1 : SV) (Fr : Rd) (M : Mem) (r : Bool) (hv0 : Slc Fr 1 (FlatR enc3) sv0 v0) (hv1 : Slc Fr 1 (FlatR enc3) sv1 v1) (hH : Has Fr M []), law09_inside_1 F N v0 v1 v5 = some r → Run Tryz.prog ⟨⟨40, [], none⟩, []⟩ 19 (law09_inside_post r) [(0, sv0), (1, sv1), (5, (.int .i64 v5))] [codeC Tryz.prog 40 [1, 0, 1, 0, 0], loopC Tryz.prog 40 [1, 0, 1, 0, 0], .inBlock 0, codeC Tryz.prog 40 [1, 1]] M := by
  intro N
  induction N with
  | zero =>
    intro v0 v1 v5 sv0 sv1 Fr M r hv0 hv1 hH h
    simp [law09_inside_1] at h
  | succ N ih =>
    intro v0 v1 v5 sv0 sv1 Fr M r hv0 hv1 hH h
    rw [law09_inside_1] at h
    refine Run.seq (Run.seq (Run.region ?_))
    refine Run.opG wantS_none (ex_move rfl) rfl ?_
    refine Run.opG wantS_none (ex_move rfl) rfl ?_
    refine Run.opG wantS_none (ex_len' rfl hv0 lenk36) rfl ?_
    refine Run.opG wantS_none (ex_lss rfl rfl) rfl ?_
    refine Run.opsEnd ?_
    rcases btf ((decide (v5 < (v0.length : Int)))) with hc21 | hc21
    · have h := bif_t hc21 h
      refine Run.condT' rfl hc21 ?_
      refine Run.skip (Run.seq (Run.block (Run.seq (Run.region ?_))))
      refine Run.opG wantS_none (ex_move rfl) rfl ?_
      refine Run.opG wantS_none (ex_move rfl) rfl ?_
      refine Run.opG wantS_none (ex_move rfl) rfl ?_
      obtain ⟨x23, hx23, h⟩ := bnd_some h
      obtain ⟨p23, o23, _, hx23, hp23, rfl⟩ := sl_elem (P := Tryz.prog) (t := 36) (kk := .i64) hv0 hx23 els36
      refine Run.opG wantS_none (ex_elX rfl rfl hx23) rfl ?_
      refine Run.opG wantS_none (ex_load1 rfl (hH.ptrF hp23) rdLe_rfl agg3) rfl ?_
      obtain ⟨r25, hr25, h⟩ := bnd_some h
      refine Run.callP wantS_none (ex_call rfl mkk39 cal39) rfl (ref00_Find_ok F v1 x23 sv1 _ _ (hH.slcF hv1) hr25) ?_
      refine Run.opG wantS_none (ex_lss rfl rfl) rfl ?_
      refine Run.opsEnd ?_
      rcases btf ((decide (r25 < (0 : Int)))) with hc27 | hc27
      · have h := bif_t hc27 h
        refine Run.condT' rfl hc27 ?_
        refine Run.seq (Run.region ?_)
        refine Run.opG wantS_none (ex_assign rfl) rfl ?_
        refine Run.opsEnd ?_
        cases h
        exact Run.ret Tryz.func40 rfl (res_tmp rfl res_nil) rfl
      · have h := bif_f hc27 h
        refine Run.condF' rfl hc27 ?_
        refine Run.skip (Run.inBlock (Run.region ?_))
        refine Run.opG wantS_none (ex_move rfl) rfl ?_
        refine Run.opG wantS_none (ex_add rfl rfl) rfl ?_
        refine Run.opG wantS_none (ex_assign rfl) rfl ?_
        refine Run.opsEnd (Run.inLoop ?_)
        exact Run.pick [0, 1, 5] (ih v0 v1 (w64 (v5 + (1 : Int))) sv0 sv1 _ _ _ hv0 hv1 hH h)
    · have h := bif_f hc21 h
      refine Run.condF' rfl hc21 ?_
      refine Run.exit rfl (Run.seq (Run.region ?_))
      refine Run.opG wantS_none (ex_assign rfl) rfl ?_
      refine Run.opsEnd ?_
      cases h
      exact Run.ret Tryz.func40 rfl (res_tmp rfl res_nil) rfl

def law09_inside (F : Nat) (a0 a1 : (List Int)) : Option (Bool) :=
  law09_inside_1 F F a0 a1 (0 : Int)

theorem law09_inside_ok (F : Nat) (a0 a1 : (List Int)) (s0 s1 : SV) (r : Bool) (M : Mem) (hs0 : Slc (rd M) 1 (FlatR enc3) s0 a0) (hs1 : Slc (rd M) 1 (FlatR enc3) s1 a1) (h : law09_inside F a0 a1 = some r) : CallsM Tryz.prog 40 [s0, s1] M (fun s M' => s = (.bool r) ∧ M' = M) := by
  refine CallsM.plain Tryz.func40 rfl rfl rfl (show Run _ _ _ (law09_inside_post r) _ _ _ from ?_)
  rw [law09_inside] at h
  replace hs0 := hs0.mono (rdLe_frozen M) (fun _ _ h => h)
  replace hs1 := hs1.mono (rdLe_frozen M) (fun _ _ h => h)
  have hH := Has.nil (frozen M)
  refine Run.seq (Run.region ?_)
  refine Run.opG wantS_none (ex_assign rfl) rfl ?_
  refine Run.opsEnd (Run.seq (Run.seq (Run.region ?_)))
  refine Run.opG wantS_none (ex_assign rfl) rfl ?_
  refine Run.opsEnd (Run.block (Run.loop ?_))
  exact Run.pick [0, 1, 5] (law09_inside_1_ok F F a0 a1 (0 : Int) s0 s1 _ _ _ hs0 hs1 hH h)

theorem mkk40 : makeK Tryz.prog 40 = none := by kernel_rfl
theorem cal40 : callable Tryz.prog 40 = true := by kernel_rfl
theorem plan8_1_1_1_1_1_1_1_0 : planOf Tryz.prog (opsC (atC Tryz.prog 8 [1, 1, 1, 1, 1, 1, 1, 0])) = some [.fl 0, .fl 1, .fl 2, .fl 3, .fl 4, .fl 5, .fl 6, .fl 7, .an 8 [], .fl 9, .fl 10, .fl 11, .fl 12, .fl 13, .sync] := by kernel_rfl
abbrev law09_SkyTrue_post (r : Bool) : SV → Mem → Prop := fun s _ => s = (.bool r)

def law09_SkyTrue_1 (F : Nat) (v30 : Bool) : Option (Bool) :=
  some v30

theorem law09_SkyTrue_1_ok (F : Nat) : ∀ (v30 : Bool) (Fr : Rd) (M : Mem) (r : Bool) (hH : Has Fr M [tb0, tb1, tb2]), law09_SkyTrue_1 F v30 = some r → Run Tryz.prog ⟨⟨8, [], none⟩, []⟩ 131 (law09_SkyTrue_post r) [(30, (.bool v30))] [itemC Tryz.prog 8 [1, 1, 0, 1, 0, 0] 6, codeC Tryz.prog 8 [1, 1, 0, 1, 0, 1], codeC Tryz.prog 8 [1, 1, 1]] M := by
  intro v30 Fr M r hH h
  rw [law09_SkyTrue_1] at h
  refine Run.opG wantS_none (ex_assign rfl) rfl ?_
  refine Run.opsEnd ?_
  cases h
  exact Run.ret Tryz.func8 rfl (res_tmp rfl res_nil) rfl

def law09_SkyTrue_6 (F : Nat) (v130 : Bool) : Option (Bool) :=
  some v130

theorem law09_SkyTrue_6_ok (F : Nat) : ∀ (v130 : Bool) (Fr : Rd) (M : Mem) (r : Bool) (hH : Has Fr M [tb0, tb1, tb2]), law09_SkyTrue_6 F v130 = some r → Run Tryz.prog ⟨⟨8, [], none⟩, []⟩ 131 (law09_SkyTrue_post r) [(130, (.bool v130))] [itemC Tryz.prog 8 [1, 1, 1, 1, 1, 1, 1, 1, 1, 1, 1, 0] 10, codeC Tryz.prog 8 [1, 1, 1, 1, 1, 1, 1, 1, 1, 1, 1, 1]] M := by
  intro v130 Fr M r hH h
  rw [law09_SkyTrue_6] at h
  refine Run.opG wantS_none (ex_assign rfl) rfl ?_
  refine Run.opsEnd ?_
  cases h
  exact Run.ret Tryz.func8 rfl (res_tmp rfl res_nil) rfl

def law09_SkyTrue_5 (F : Nat) (v127 : Bool) : Option (Bool) :=
  bif v127 then
    bnd (works F) fun r74 =>
    law09_SkyTrue_6 F r74
  else
    law09_SkyTrue_6 F false

theorem law09_SkyTrue_5_ok (F : Nat) : ∀ (v127 : Bool) (Fr : Rd) (M : Mem) (r : Bool) (hH : Has Fr M [tb0, tb1, tb2]), law09_SkyTrue_5 F v127 = some r → Run Tryz.prog ⟨⟨8, [], none⟩, []⟩ 131 (law09_SkyTrue_post r) [(127, (.bool v127))] [itemC Tryz.prog 8 [1, 1, 1, 1, 1, 1, 1, 1, 1, 1, 1, 0] 7, codeC Tryz.prog 8 [1, 1, 1, 1, 1, 1, 1, 1, 1, 1, 1, 1]] M := by
  intro v127 Fr M r hH h
  rw [law09_SkyTrue_5] at h
  refine Run.opG wantS_none (ex_move rfl) rfl ?_
  rcases btf (v127) with hc72 | hc72
  · have h := bif_t hc72 h
    obtain ⟨r74, hr74, h⟩ := bnd_some h
    refine Run.callP (wantS_yes' rfl rfl hc72) (ex_call rfl mkk18 cal18) rfl (works_ok F r74 _ hH (List.mem_of_getElem? (i := 0) rfl) (List.mem_of_getElem? (i := 1) rfl) (List.mem_of_getElem? (i := 2) rfl) hr74) ?_
    refine Run.opG wantS_none (ex_pickT' rfl hc72 rfl rfl) rfl ?_
    exact Run.pick [130] (law09_SkyTrue_6_ok F r74 _ _ _ hH h)
  · have h := bif_f hc72 h
    refine Run.no (wantS_not' rfl rfl hc72) rfl ?_
    refine Run.opG wantS_none (ex_pickF' rfl hc72 rfl rfl) rfl ?_
    exact Run.pick [130] (law09_SkyTrue_6_ok F false _ _ _ hH h)

def law09_SkyTrue_4 (F : Nat) : Nat → Int → (List S_api_Site) → Int → Int → Int → (List Int) → (List Int) → (List S_api_Arrival) → (List Int) → Option (Bool)
  | 0, _, _, _, _, _, _, _, _, _ => none
  | N + 1, v8, c25_0, c25_1, c25_2, c25_3, c25_4, c25_5, l41, l46 =>
    bif (decide (v8 < (l41.length : Int))) then
      bnd (idx l41 v8) fun x57 =>
      bnd (idx l41 v8) fun x58 =>
      bnd (idx l41 v8) fun x59 =>
      bnd (inn l41 v8) fun o60 =>
      bnd (upd l41 o60 (S_api_Arrival.mk x57.Site x58.Time (w64 (x59.Slack + (3 : Int))))) fun l61 =>
      (law09_SkyTrue_4 F N) (w64 (v8 + (1 : Int))) c25_0 c25_1 c25_2 c25_3 c25_4 c25_5 l61 l46
    else
      bnd (sky_Fits F c25_0 c25_1 l41) fun r65 =>
      bif (r65.2 == (0 : Int)) then
        bnd (law09_inside F l46 r65.1) fun r70 =>
        law09_SkyTrue_5 F r70
      else
        law09_SkyTrue_5 F false

theorem law09_SkyTrue_4_ok (F : Nat) : ∀ (N : Nat), ∀ (v8 : Int) (c25_0 : (List S_api_Site)) (c25_1 c25_2 c25_3 : Int) (c25_4 c25_5 : (List Int)) (l41 : (List S_api_Arrival)) (l46 : (List Int)) (sc25_0 sc25_4 sc25_5 : SV) (b25 : Pos) (s41 s46 : SV) (Fr : Rd) (M : Mem) (r : Bool) (hc25_0 : Slc Fr 10 (FlatR enc105) sc25_0 c25_0) (hc25_4 : Slc Fr 1 (FlatR enc3) sc25_4 c25_4) (hc25_5 : Slc Fr 1 (FlatR enc3) sc25_5 c25_5) (hH : Has Fr M [.obj b25 (.row 62 .whole [sc25_0, (.int .i64 c25_1), (.int .i64 c25_2), (.int .i64 c25_3), sc25_4, sc25_5]), .vec 67 3 l41.length s41 (l41.flatMap enc67), .vec 3 1 l46.length s46 (l46.flatMap enc3), tb0, tb1, tb2]), law09_SkyTrue_4 F N v8 c25_0 c25_1 c25_2 c25_3 c25_4 c25_5 l41 l46 = some r → Run Tryz.prog ⟨⟨8, [], none⟩, []⟩ 131 (law09_SkyTrue_post r) [(1, (.ptr b25 0)), (5, s41), (6, s46), (8, (.int .i64 v8))] [codeC Tryz.prog 8 [1, 1, 1, 1, 1, 1, 1, 1, 1, 0, 1, 0, 0], loopC Tryz.prog 8 [1, 1, 1, 1, 1, 1, 1, 1, 1, 0, 1, 0, 0], .inBlock 0, codeC Tryz.prog 8 [1, 1, 1, 1, 1, 1, 1, 1, 1, 1]] M := by
  intro N
  induction N with
  | zero =>
    intro v8 c25_0 c25_1 c25_2 c25_3 c25_4 c25_5 l41 l46 sc25_0 sc25_4 sc25_5 b25 s41 s46 Fr M r hc25_0 hc25_4 hc25_5 hH h
    simp [law09_SkyTrue_4] at h
  | succ N ih =>
    intro v8 c25_0 c25_1 c25_2 c25_3 c25_4 c25_5 l41 l46 sc25_0 sc25_4 sc25_5 b25 s41 s46 Fr M r hc25_0 hc25_4 hc25_5 hH h
    rw [law09_SkyTrue_4] at h
    refine Run.seq (Run.seq (Run.region ?_))
    refine Run.opG wantS_none (ex_move rfl) rfl ?_
    refine Run.opG wantS_none (ex_move rfl) rfl ?_
    refine Run.opG wantS_none (ex_len' rfl (hH.slc (i := 1) rfl enc67_len) lenk35) rfl ?_
    refine Run.opG wantS_none (ex_lss rfl rfl) rfl ?_
    refine Run.opsEnd ?_
    rcases btf ((decide (v8 < (l41.length : Int)))) with hc56 | hc56
    · have h := bif_t hc56 h
      refine Run.condT' rfl hc56 ?_
      refine Run.skip (Run.seq (Run.block ?_))
      refine Run.drawG plan8_1_1_1_1_1_1_1_1_1_0_1_0_0_1_0_0 ?_
      refine DrawG.fl rfl (ev_ex wantS_none (ex_move rfl)) rfl ?_
      refine DrawG.fl rfl (ev_ex wantS_none (ex_move rfl)) rfl ?_
      refine DrawG.fl rfl (ev_ex wantS_none (ex_move rfl)) rfl ?_
      refine DrawG.fl rfl (ev_ex wantS_none (ex_move rfl)) rfl ?_
      obtain ⟨x57, hx57, h⟩ := bnd_some h
      obtain ⟨p57, o57, hb57, hx57, he57⟩ := vec_elem (P := Tryz.prog) (t := 35) (kk := .i64) hH (i := 1) rfl hx57 els35
      refine DrawG.fl rfl (ev_ex wantS_none (ex_elX rfl rfl hx57)) rfl ?_
      refine DrawG.fl rfl (ev_ex wantS_none (ex_fieldAddr rfl off67_0)) rfl ?_
      refine DrawG.fl rfl (ev_ex wantS_none (ex_load1 rfl ((hH.at (enc := enc67) (a := x57) (i := 1) rfl hb57 he57 enc67_len).fld (o := 0) rfl) rdLe_rfl agg3)) rfl ?_
      refine DrawG.fl rfl (ev_ex wantS_none (ex_move rfl)) rfl ?_
      refine DrawG.fl rfl (ev_ex wantS_none (ex_move rfl)) rfl ?_
      obtain ⟨x58, hx58, h⟩ := bnd_some h
      obtain ⟨p58, o58, hb58, hx58, he58⟩ := vec_elem (P := Tryz.prog) (t := 35) (kk := .i64) hH (i := 1) rfl hx58 els35
      refine DrawG.fl rfl (ev_ex wantS_none (ex_elX rfl rfl hx58)) rfl ?_
      refine DrawG.fl rfl (ev_ex wantS_none (ex_fieldAddr rfl off67_1)) rfl ?_
      refine DrawG.fl rfl (ev_ex wantS_none (ex_load1 rfl ((hH.at (enc := enc67) (a := x58) (i := 1) rfl hb58 he58 enc67_len).fld (o := 1) rfl) rdLe_rfl agg3)) rfl ?_
      refine DrawG.fl rfl (ev_ex wantS_none (ex_move rfl)) rfl ?_
      refine DrawG.fl rfl (ev_ex wantS_none (ex_move rfl)) rfl ?_
      obtain ⟨x59, hx59, h⟩ := bnd_some h
      obtain ⟨p59, o59, hb59, hx59, he59⟩ := vec_elem (P := Tryz.prog) (t := 35) (kk := .i64) hH (i := 1) rfl hx59 els35
      refine DrawG.fl rfl (ev_ex wantS_none (ex_elX rfl rfl hx59)) rfl ?_
      refine DrawG.fl rfl (ev_ex wantS_none (ex_fieldAddr rfl off67_2)) rfl ?_
      refine DrawG.fl rfl (ev_ex wantS_none (ex_load1 rfl ((hH.at (enc := enc67) (a := x59) (i := 1) rfl hb59 he59 enc67_len).fld (o := 2) rfl) rdLe_rfl agg3)) rfl ?_
      refine DrawG.fl rfl (ev_ex wantS_none (ex_add rfl rfl)) rfl ?_
      refine DrawG.fl rfl (ev_ex wantS_none (ex_build (r := [(.int .i64 x57.Site), (.int .i64 x58.Time), (.int .i64 (w64 (x59.Slack + (3 : Int))))]) rfl zer67 pls67 rfl)) rfl ?_
      obtain ⟨o60, ho60, h⟩ := bnd_some h
      obtain ⟨p60, hb60, hx60⟩ := vec_place (P := Tryz.prog) (t := 35) (kk := .i64) hH (i := 1) rfl ho60 els35
      refine DrawG.fl rfl (ev_ex wantS_none (ex_elX rfl rfl hx60)) rfl ?_
      obtain ⟨l61, hl61, h⟩ := bnd_some h
      refine DrawG.opX rfl wantS_none rfl (ExG.storeEl rfl rfl hH (i := 1) rfl hb60 hl61 sz67 rfl enc67_len enc67_ones) ?_
      rintro _ M62 ⟨rfl, (hH62 : Has Fr M62 [.obj b25 (.row 62 .whole [sc25_0, (.int .i64 c25_1), (.int .i64 c25_2), (.int .i64 c25_3), sc25_4, sc25_5]), .vec 67 3 l61.length s41 (l61.flatMap enc67), .vec 3 1 l46.length s46 (l46.flatMap enc3), tb0, tb1, tb2])⟩
      refine ⟨st_nil, ?_⟩
      refine DrawG.sync ?_
      refine DrawG.nil ?_
      refine Run.inBlock (Run.region ?_)
      refine Run.opG wantS_none (ex_move rfl) rfl ?_
      refine Run.opG wantS_none (ex_add rfl rfl) rfl ?_
      refine Run.opG wantS_none (ex_assign rfl) rfl ?_
      refine Run.opsEnd (Run.inLoop ?_)
      exact Run.pick [1, 5, 6, 8] (ih (w64 (v8 + (1 : Int))) c25_0 c25_1 c25_2 c25_3 c25_4 c25_5 l61 l46 sc25_0 sc25_4 sc25_5 b25 s41 s46 _ _ _ hc25_0 hc25_4 hc25_5 hH62 h)
    · have h := bif_f hc56 h
      refine Run.condF' rfl hc56 ?_
      refine Run.exit rfl (Run.seq (Run.region ?_))
      refine Run.opG wantS_none (ex_fieldAddr rfl off62_0) rfl ?_
      refine Run.opG wantS_none (ex_fieldAddr rfl off33_0) rfl ?_
      refine Run.opG wantS_none (ex_load1 rfl (hH.cells (i := 0) rfl 0 rfl) rdLe_rfl agg31) rfl ?_
      refine Run.opG wantS_none (ex_fieldAddr rfl off62_0) rfl ?_
      refine Run.opG wantS_none (ex_fieldAddr rfl off33_1) rfl ?_
      refine Run.opG wantS_none (ex_load1 rfl (hH.cells (i := 0) rfl 1 rfl) rdLe_rfl agg3) rfl ?_
      refine Run.opG wantS_none (ex_move rfl) rfl ?_
      obtain ⟨r65, hr65, h⟩ := bnd_some h
      refine Run.callX wantS_none (ex_call rfl mkk22 cal22) rfl (sky_Fits_ok F c25_0 c25_1 l41 sc25_0 s41 _ _ (hH.slcF hc25_0) (hH.slc (i := 1) rfl enc67_len) hr65) ?_
      rintro _ M67 ⟨s65_0, rfl, hN65⟩
      have hH67 : Has Fr M67 [.vec 3 1 r65.1.length s65_0 (r65.1.flatMap enc3), .obj b25 (.row 62 .whole [sc25_0, (.int .i64 c25_1), (.int .i64 c25_2), (.int .i64 c25_3), sc25_4, sc25_5]), .vec 67 3 l41.length s41 (l41.flatMap enc67), .vec 3 1 l46.length s46 (l46.flatMap enc3), tb0, tb1, tb2] := hN65.1 _ _ hH
      refine Run.opG wantS_none (ex_move rfl) rfl ?_
      refine Run.opG wantS_none (ex_extract rfl rfl) rfl ?_
      refine Run.opG wantS_none (ex_extract rfl rfl) rfl ?_
      refine Run.opG wantS_none (ex_assign rfl) rfl ?_
      refine Run.opG wantS_none (ex_assign rfl) rfl ?_
      refine Run.opsEnd (Run.seq (Run.region ?_))
      refine Run.opG wantS_none (ex_move rfl) rfl ?_
      refine Run.opG wantS_none (ex_eql rfl rfl) rfl ?_
      refine Run.opG wantS_none (ex_move rfl) rfl ?_
      rcases btf ((r65.2 == (0 : Int))) with hc68 | hc68
      · have h := bif_t hc68 h
        refine Run.opG (wantS_yes' rfl rfl hc68) (ex_move rfl) rfl ?_
        refine Run.opG (wantS_yes' rfl rfl hc68) (ex_move rfl) rfl ?_
        obtain ⟨r70, hr70, h⟩ := bnd_some h
        refine Run.callP (wantS_yes' rfl rfl hc68) (ex_call rfl mkk40 cal40) rfl (law09_inside_ok F l46 r65.1 s46 s65_0 _ _ (hH67.slc (i := 3) rfl enc3_len) (hH67.slc (i := 0) rfl enc3_len) hr70) ?_
        refine Run.opG wantS_none (ex_pickT' rfl hc68 rfl rfl) rfl ?_
        exact Run.pick [127] (law09_SkyTrue_5_ok F r70 _ _ _ (hH67.pick [4, 5, 6] rfl rfl) h)
      · have h := bif_f hc68 h
        refine Run.no (wantS_not' rfl rfl hc68) rfl ?_
        refine Run.no (wantS_not' rfl rfl hc68) rfl ?_
        refine Run.no (wantS_not' rfl rfl hc68) rfl ?_
        refine Run.opG wantS_none (ex_pickF' rfl hc68 rfl rfl) rfl ?_
        exact Run.pick [127] (law09_SkyTrue_5_ok F false _ _ _ (hH67.pick [4, 5, 6] rfl rfl) h)

def law09_SkyTrue_3 (F : Nat) (v83 : Bool) (c25_0 : (List S_api_Site)) (c25_1 c25_2 c25_3 : Int) (c25_4 c25_5 : (List Int)) (l41 : (List S_api_Arrival)) (l46 : (List Int)) : Option (Bool) :=
  bif v83 then
    some false
  else
    law09_SkyTrue_4 F F (0 : Int) c25_0 c25_1 c25_2 c25_3 c25_4 c25_5 l41 l46

theorem law09_SkyTrue_3_ok (F : Nat) : ∀ (v83 : Bool) (c25_0 : (List S_api_Site)) (c25_1 c25_2 c25_3 : Int) (c25_4 c25_5 : (List Int)) (l41 : (List S_api_Arrival)) (l46 : (List Int)) (sc25_0 sc25_4 sc25_5 : SV) (b25 : Pos) (s41 s46 : SV) (Fr : Rd) (M : Mem) (r : Bool) (hc25_0 : Slc Fr 10 (FlatR enc105) sc25_0 c25_0) (hc25_4 : Slc Fr 1 (FlatR enc3) sc25_4 c25_4) (hc25_5 : Slc Fr 1 (FlatR enc3) sc25_5 c25_5) (hH : Has Fr M [.obj b25 (.row 62 .whole [sc25_0, (.int .i64 c25_1), (.int .i64 c25_2), (.int .i64 c25_3), sc25_4, sc25_5]), .vec 67 3 l41.length s41 (l41.flatMap enc67), .vec 3 1 l46.length s46 (l46.flatMap enc3), tb0, tb1, tb2]), law09_SkyTrue_3 F v83 c25_0 c25_1 c25_2 c25_3 c25_4 c25_5 l41 l46 = some r → Run Tryz.prog ⟨⟨8, [], none⟩, []⟩ 131 (law09_SkyTrue_post r) [(1, (.ptr b25 0)), (5, s41), (6, s46), (83, (.bool v83))] [codeC Tryz.prog 8 [1, 1, 1, 1, 1, 1, 1, 1, 0, 1], codeC Tryz.prog 8 [1, 1, 1, 1, 1, 1, 1, 1, 1]] M := by
  intro v83 c25_0 c25_1 c25_2 c25_3 c25_4 c25_5 l41 l46 sc25_0 sc25_4 sc25_5 b25 s41 s46 Fr M r hc25_0 hc25_4 hc25_5 hH h
  rw [law09_SkyTrue_3] at h
  rcases btf (v83) with hc55 | hc55
  · have h := bif_t hc55 h
    refine Run.condT' rfl hc55 ?_
    refine Run.seq (Run.region ?_)
    refine Run.opG wantS_none (ex_assign rfl) rfl ?_
    refine Run.opsEnd ?_
    cases h
    exact Run.ret Tryz.func8 rfl (res_tmp rfl res_nil) rfl
  · have h := bif_f hc55 h
    refine Run.condF' rfl hc55 ?_
    refine Run.skip (Run.seq (Run.seq (Run.region ?_)))
    refine Run.opG wantS_none (ex_assign rfl) rfl ?_
    refine Run.opsEnd (Run.block (Run.loop ?_))
    exact Run.pick [1, 5, 6, 8] (law09_SkyTrue_4_ok F F (0 : Int) c25_0 c25_1 c25_2 c25_3 c25_4 c25_5 l41 l46 sc25_0 sc25_4 sc25_5 b25 s41 s46 _ _ _ hc25_0 hc25_4 hc25_5 hH h)

def law09_SkyTrue_2 (F : Nat) (v63 : Bool) (c25_0 : (List S_api_Site)) (c25_1 c25_2 c25_3 : Int) (c25_4 c25_5 : (List Int)) (l41 : (List S_api_Arrival)) (l46 : (List Int)) : Option (Bool) :=
  bif v63 then
    some false
  else
    bnd (sub l41 0 (2 : Int)) fun l50 =>
    bnd (sky_Fits F c25_0 c25_1 l50) fun r51 =>
    bif (!(r51.2 == (0 : Int))) then
      law09_SkyTrue_3 F true c25_0 c25_1 c25_2 c25_3 c25_4 c25_5 l41 l46
    else
      bnd (law09_inside F l46 r51.1) fun r77 =>
      law09_SkyTrue_3 F (!r77) c25_0 c25_1 c25_2 c25_3 c25_4 c25_5 l41 l46

theorem law09_SkyTrue_2_ok (F : Nat) : ∀ (v63 : Bool) (c25_0 : (List S_api_Site)) (c25_1 c25_2 c25_3 : Int) (c25_4 c25_5 : (List Int)) (l41 : (List S_api_Arrival)) (l46 : (List Int)) (sc25_0 sc25_4 sc25_5 : SV) (b25 : Pos) (s41 s46 : SV) (Fr : Rd) (M : Mem) (r : Bool) (hc25_0 : Slc Fr 10 (FlatR enc105) sc25_0 c25_0) (hc25_4 : Slc Fr 1 (FlatR enc3) sc25_4 c25_4) (hc25_5 : Slc Fr 1 (FlatR enc3) sc25_5 c25_5) (hH : Has Fr M [.obj b25 (.row 62 .whole [sc25_0, (.int .i64 c25_1), (.int .i64 c25_2), (.int .i64 c25_3), sc25_4, sc25_5]), .vec 67 3 l41.length s41 (l41.flatMap enc67), .vec 3 1 l46.length s46 (l46.flatMap enc3), tb0, tb1, tb2]), law09_SkyTrue_2 F v63 c25_0 c25_1 c25_2 c25_3 c25_4 c25_5 l41 l46 = some r → Run Tryz.prog ⟨⟨8, [], none⟩, []⟩ 131 (law09_SkyTrue_post r) [(1, (.ptr b25 0)), (5, s41), (6, s46), (63, (.bool v63))] [codeC Tryz.prog 8 [1, 1, 1, 1, 1, 1, 0, 1], codeC Tryz.prog 8 [1, 1, 1, 1, 1, 1, 1]] M := by
  intro v63 c25_0 c25_1 c25_2 c25_3 c25_4 c25_5 l41 l46 sc25_0 sc25_4 sc25_5 b25 s41 s46 Fr M r hc25_0 hc25_4 hc25_5 hH h
  rw [law09_SkyTrue_2] at h
  rcases btf (v63) with hc49 | hc49
  · have h := bif_t hc49 h
    refine Run.condT' rfl hc49 ?_
    refine Run.seq (Run.region ?_)
    refine Run.opG wantS_none (ex_assign rfl) rfl ?_
    refine Run.opsEnd ?_
    cases h
    exact Run.ret Tryz.func8 rfl (res_tmp rfl res_nil) rfl
  · have h := bif_f hc49 h
    refine Run.condF' rfl hc49 ?_
    refine Run.skip (Run.seq ?_)
    refine Run.drawG plan8_1_1_1_1_1_1_1_0 ?_
    refine DrawG.fl rfl (ev_ex wantS_none (ex_fieldAddr rfl off62_0)) rfl ?_
    refine DrawG.fl rfl (ev_ex wantS_none (ex_fieldAddr rfl off33_0)) rfl ?_
    refine DrawG.fl rfl (ev_ex wantS_none (ex_load1 rfl (hH.cells (i := 0) rfl 0 rfl) rdLe_rfl agg31)) rfl ?_
    refine DrawG.fl rfl (ev_ex wantS_none (ex_fieldAddr rfl off62_0)) rfl ?_
    refine DrawG.fl rfl (ev_ex wantS_none (ex_fieldAddr rfl off33_1)) rfl ?_
    refine DrawG.fl rfl (ev_ex wantS_none (ex_load1 rfl (hH.cells (i := 0) rfl 1 rfl) rdLe_rfl agg3)) rfl ?_
    refine DrawG.fl rfl (ev_ex wantS_none (ex_move rfl)) rfl ?_
    obtain ⟨l50, hl50, h⟩ := bnd_some h
    obtain ⟨s50, hx50, hs50⟩ := sl_subH (P := Tryz.prog) (t := 35) (k0 := .i64) (hH.slc (i := 1) rfl enc67_len) hl50 slk35
    refine DrawG.fl rfl (ev_ex wantS_none (ex_slX rfl (argO_none) (argO_some rfl) hx50)) rfl ?_
    obtain ⟨r51, hr51, h⟩ := bnd_some h
    refine DrawG.call rfl wantS_none (ex_call rfl mkk22 cal22) rfl (sky_Fits_ok F c25_0 c25_1 l50 sc25_0 s50 _ _ (hH.slcF hc25_0) hs50 hr51) ?_
    rintro _ M53 ⟨s51_0, rfl, hN51⟩
    have hH53 : Has Fr M53 [.vec 3 1 r51.1.length s51_0 (r51.1.flatMap enc3), .obj b25 (.row 62 .whole [sc25_0, (.int .i64 c25_1), (.int .i64 c25_2), (.int .i64 c25_3), sc25_4, sc25_5]), .vec 67 3 l41.length s41 (l41.flatMap enc67), .vec 3 1 l46.length s46 (l46.flatMap enc3), tb0, tb1, tb2] := hN51.1 _ _ hH
    refine ⟨st_nil, ?_⟩
    refine DrawG.fl rfl (ev_ex wantS_none (ex_move rfl)) rfl ?_
    refine DrawG.fl rfl (ev_ex wantS_none (ex_extract rfl rfl)) rfl ?_
    refine DrawG.fl rfl (ev_ex wantS_none (ex_extract rfl rfl)) rfl ?_
    refine DrawG.fl rfl (ev_ex wantS_none (ex_assign rfl)) rfl ?_
    refine DrawG.fl rfl (ev_ex wantS_none (ex_assign rfl)) rfl ?_
    refine DrawG.sync ?_
    refine DrawG.nil ?_
    refine Run.seq (Run.seq (Run.region ?_))
    refine Run.opG wantS_none (ex_move rfl) rfl ?_
    refine Run.opG wantS_none (ex_neq rfl rfl) rfl ?_
    refine Run.opG wantS_none (ex_move rfl) rfl ?_
    rcases btf ((!(r51.2 == (0 : Int)))) with hc54 | hc54
    · have h := bif_t hc54 h
      refine Run.no (wantS_not' rfl rfl hc54) rfl ?_
      refine Run.no (wantS_not' rfl rfl hc54) rfl ?_
      refine Run.no (wantS_not' rfl rfl hc54) rfl ?_
      refine Run.no (wantS_not' rfl rfl hc54) rfl ?_
      refine Run.opG wantS_none (ex_pickT' rfl hc54 rfl rfl) rfl ?_
      refine Run.opsEnd ?_
      exact Run.pick [1, 5, 6, 83] (law09_SkyTrue_3_ok F true c25_0 c25_1 c25_2 c25_3 c25_4 c25_5 l41 l46 sc25_0 sc25_4 sc25_5 b25 s41 s46 _ _ _ hc25_0 hc25_4 hc25_5 (hH53.pick [1, 2, 3, 4, 5, 6] rfl rfl) h)
    · have h := bif_f hc54 h
      refine Run.opG (wantS_yes' rfl rfl hc54) (ex_move rfl) rfl ?_
      refine Run.opG (wantS_yes' rfl rfl hc54) (ex_move rfl) rfl ?_
      obtain ⟨r77, hr77, h⟩ := bnd_some h
      refine Run.callP (wantS_yes' rfl rfl hc54) (ex_call rfl mkk40 cal40) rfl (law09_inside_ok F l46 r51.1 s46 s51_0 _ _ (hH53.slc (i := 3) rfl enc3_len) (hH53.slc (i := 0) rfl enc3_len) hr77) ?_
      refine Run.opG (wantS_yes' rfl rfl hc54) (ex_not rfl) rfl ?_
      refine Run.opG wantS_none (ex_pickF' rfl hc54 rfl rfl) rfl ?_
      refine Run.opsEnd ?_
      exact Run.pick [1, 5, 6, 83] (law09_SkyTrue_3_ok F (!r77) c25_0 c25_1 c25_2 c25_3 c25_4 c25_5 l41 l46 sc25_0 sc25_4 sc25_5 b25 s41 s46 _ _ _ hc25_0 hc25_4 hc25_5 (hH53.pick [1, 2, 3, 4, 5, 6] rfl rfl) h)

def law09_SkyTrue (F : Nat) (a0 : S_ringdownlaw09_Shout) : Option (Bool) :=
  bnd (sky_Arrive F a0.X.L a0.X.N a0.X.Cell) fun r29 =>
  bif (!(r29.2 == (0 : Int))) then
    bif ((r29.1.length : Int) == (0 : Int)) then
      bnd (works F) fun r35 =>
      law09_SkyTrue_1 F r35
    else
      law09_SkyTrue_1 F false
  else
    bif (!((r29.1.length : Int) == (a0.X.L.length : Int))) then
      some false
    else
      bnd (law09_heard F (S_ringdownlaw09_Shout.mk a0.X a0.Time a0.Errors a0.Slack) r29.1 (r29.1.length : Int)) fun r40 =>
      bnd (sky_Fits F a0.X.L a0.X.N r40) fun r45 =>
      bif (!(r45.2 == (0 : Int))) then
        law09_SkyTrue_2 F true a0.X.L a0.X.N a0.X.Cell a0.Time a0.Errors a0.Slack r40 r45.1
      else
        bnd (ref00_Find F r45.1 a0.X.Cell) fun r80 =>
        law09_SkyTrue_2 F (decide (r80 < (0 : Int))) a0.X.L a0.X.N a0.X.Cell a0.Time a0.Errors a0.Slack r40 r45.1

theorem law09_SkyTrue_run (F : Nat) (a0 : S_ringdownlaw09_Shout) (s0 s1 s2 : SV) (r : Bool) (M : Mem) (hs0 : Slc (rd M) 10 (FlatR enc105) s0 a0.X.L) (hs1 : Slc (rd M) 1 (FlatR enc3) s1 a0.Errors) (hs2 : Slc (rd M) 1 (FlatR enc3) s2 a0.Slack) (hfx : FixIn M fixes) (h : law09_SkyTrue F a0 = some r) : Run Tryz.prog (fx0 8) 131 (law09_SkyTrue_post r) [(0, (.agg [s0, (.int .i64 a0.X.N), (.int .i64 a0.X.Cell), (.int .i64 a0.Time), s1, s2]))] [codeC Tryz.prog 8 []] (frozen M) := by
  rw [law09_SkyTrue] at h
  replace hs0 := hs0.mono (rdLe_frozen M) (fun _ _ h => h)
  replace hs1 := hs1.mono (rdLe_frozen M) (fun _ _ h => h)
  replace hs2 := hs2.mono (rdLe_frozen M) (fun _ _ h => h)
  have hH : Has (ro (frozen M)) (frozen M) [tb0, tb1, tb2] := Has.ofFix hfx.frozen
  refine Run.seq (Run.region ?_)
  refine Run.opX wantS_none rfl (ExG.box rfl rfl hH) ?_
  rintro _ M26 ⟨b25, rfl, hH26⟩
  refine Run.opG wantS_none (ex_assign rfl) rfl ?_
  refine Run.opsEnd (Run.seq (Run.region ?_))
  refine Run.opG wantS_none (ex_fieldAddr rfl off62_0) rfl ?_
  refine Run.opG wantS_none (ex_fieldAddr rfl off33_0) rfl ?_
  refine Run.opG wantS_none (ex_load1 rfl (hH26.cells (i := 0) rfl 0 rfl) rdLe_rfl agg31) rfl ?_
  refine Run.opG wantS_none (ex_fieldAddr rfl off62_0) rfl ?_
  refine Run.opG wantS_none (ex_fieldAddr rfl off33_1) rfl ?_
  refine Run.opG wantS_none (ex_load1 rfl (hH26.cells (i := 0) rfl 1 rfl) rdLe_rfl agg3) rfl ?_
  refine Run.opG wantS_none (ex_fieldAddr rfl off62_0) rfl ?_
  refine Run.opG wantS_none (ex_fieldAddr rfl off33_2) rfl ?_
  refine Run.opG wantS_none (ex_load1 rfl (hH26.cells (i := 0) rfl 2 rfl) rdLe_rfl agg3) rfl ?_
  obtain ⟨r29, hr29, h⟩ := bnd_some h
  refine Run.callX wantS_none (ex_call rfl mkk37 cal37) rfl (sky_Arrive_ok F a0.X.L a0.X.N a0.X.Cell s0 _ _ (hH26.slcF hs0) hr29) ?_
  rintro _ M31 ⟨s29_0, rfl, hN29⟩
  have hH31 : Has (ro (frozen M)) M31 [.vec 3 1 r29.1.length s29_0 (r29.1.flatMap enc3), .obj b25 (.row 62 .whole [s0, (.int .i64 a0.X.N), (.int .i64 a0.X.Cell), (.int .i64 a0.Time), s1, s2]), tb0, tb1, tb2] := hN29.1 _ _ hH26
  refine Run.opG wantS_none (ex_move rfl) rfl ?_
  refine Run.opG wantS_none (ex_extract rfl rfl) rfl ?_
  refine Run.opG wantS_none (ex_extract rfl rfl) rfl ?_
  refine Run.opG wantS_none (ex_assign rfl) rfl ?_
  refine Run.opG wantS_none (ex_assign rfl) rfl ?_
  refine Run.opsEnd (Run.seq (Run.seq (Run.region ?_)))
  refine Run.opG wantS_none (ex_move rfl) rfl ?_
  refine Run.opG wantS_none (ex_neq rfl rfl) rfl ?_
  refine Run.opsEnd ?_
  rcases btf ((!(r29.2 == (0 : Int)))) with hc32 | hc32
  · have h := bif_t hc32 h
    refine Run.condT' rfl hc32 ?_
    refine Run.seq (Run.region ?_)
    refine Run.opG wantS_none (ex_move rfl) rfl ?_
    refine Run.opG wantS_none (ex_len' rfl (hH31.slc (i := 0) rfl enc3_len) lenk36) rfl ?_
    refine Run.opG wantS_none (ex_eql rfl rfl) rfl ?_
    refine Run.opG wantS_none (ex_move rfl) rfl ?_
    rcases btf (((r29.1.length : Int) == (0 : Int))) with hc33 | hc33
    · have h := bif_t hc33 h
      obtain ⟨r35, hr35, h⟩ := bnd_some h
      refine Run.callP (wantS_yes' rfl rfl hc33) (ex_call rfl mkk18 cal18) rfl (works_ok F r35 _ hH31 (List.mem_of_getElem? (i := 2) rfl) (List.mem_of_getElem? (i := 3) rfl) (List.mem_of_getElem? (i := 4) rfl) hr35) ?_
      refine Run.opG wantS_none (ex_pickT' rfl hc33 rfl rfl) rfl ?_
      exact Run.pick [30] (law09_SkyTrue_1_ok F r35 _ _ _ (hH31.pick [2, 3, 4] rfl rfl) h)
    · have h := bif_f hc33 h
      refine Run.no (wantS_not' rfl rfl hc33) rfl ?_
      refine Run.opG wantS_none (ex_pickF' rfl hc33 rfl rfl) rfl ?_
      exact Run.pick [30] (law09_SkyTrue_1_ok F false _ _ _ (hH31.pick [2, 3, 4] rfl rfl) h)
  · have h := bif_f hc32 h
    refine Run.condF' rfl hc32 ?_
    refine Run.skip (Run.seq (Run.seq (Run.region ?_)))
    refine Run.opG wantS_none (ex_move rfl) rfl ?_
    refine Run.opG wantS_none (ex_len' rfl (hH31.slc (i := 0) rfl enc3_len) lenk36) rfl ?_
    refine Run.opG wantS_none (ex_fieldAddr rfl off62_0) rfl ?_
    refine Run.opG wantS_none (ex_fieldAddr rfl off33_0) rfl ?_
    refine Run.opG wantS_none (ex_load1 rfl (hH31.cells (i := 1) rfl 0 rfl) rdLe_rfl agg31) rfl ?_
    refine Run.opG wantS_none (ex_len' rfl hs0 lenk31) rfl ?_
    refine Run.opG wantS_none (ex_neq rfl rfl) rfl ?_
    refine Run.opsEnd ?_
    rcases btf ((!((r29.1.length : Int) == (a0.X.L.length : Int)))) with hc37 | hc37
    · have h := bif_t hc37 h
      refine Run.condT' rfl hc37 ?_
      refine Run.seq (Run.region ?_)
      refine Run.opG wantS_none (ex_assign rfl) rfl ?_
      refine Run.opsEnd ?_
      cases h
      exact Run.ret Tryz.func8 rfl (res_tmp rfl res_nil) rfl
    · have h := bif_f hc37 h
      refine Run.condF' rfl hc37 ?_
      refine Run.skip (Run.seq (Run.region ?_))
      refine Run.opG wantS_none (ex_loadA rfl (hH31.cells (i := 1) rfl 0 rfl) rdLe_rfl agg62 rfl rfl rfl) rfl ?_
      refine Run.opG wantS_none (ex_move rfl) rfl ?_
      refine Run.opG wantS_none (ex_move rfl) rfl ?_
      refine Run.opG wantS_none (ex_len' rfl (hH31.slc (i := 0) rfl enc3_len) lenk36) rfl ?_
      obtain ⟨r40, hr40, h⟩ := bnd_some h
      refine Run.callX wantS_none (ex_call rfl mkk38 cal38) rfl (law09_heard_ok F (S_ringdownlaw09_Shout.mk a0.X a0.Time a0.Errors a0.Slack) r29.1 (r29.1.length : Int) s0 s1 s2 s29_0 _ _ (hH31.slcF hs0) (hH31.slcF hs1) (hH31.slcF hs2) (hH31.slc (i := 0) rfl enc3_len) hr40) ?_
      rintro s40_0 M42 ⟨_, rfl, hN40⟩
      have hH42 : Has (ro (frozen M)) M42 [.vec 67 3 r40.length s40_0 (r40.flatMap enc67), .vec 3 1 r29.1.length s29_0 (r29.1.flatMap enc3), .obj b25 (.row 62 .whole [s0, (.int .i64 a0.X.N), (.int .i64 a0.X.Cell), (.int .i64 a0.Time), s1, s2]), tb0, tb1, tb2] := hN40.1 _ _ hH31
      refine Run.opG wantS_none (ex_assign rfl) rfl ?_
      refine Run.opsEnd (Run.seq (Run.region ?_))
      refine Run.opG wantS_none (ex_fieldAddr rfl off62_0) rfl ?_
      refine Run.opG wantS_none (ex_fieldAddr rfl off33_0) rfl ?_
      refine Run.opG wantS_none (ex_load1 rfl (hH42.cells (i := 2) rfl 0 rfl) rdLe_rfl agg31) rfl ?_
      refine Run.opG wantS_none (ex_fieldAddr rfl off62_0) rfl ?_
      refine Run.opG wantS_none (ex_fieldAddr rfl off33_1) rfl ?_
      refine Run.opG wantS_none (ex_load1 rfl (hH42.cells (i := 2) rfl 1 rfl) rdLe_rfl agg3) rfl ?_
      refine Run.opG wantS_none (ex_move rfl) rfl ?_
      obtain ⟨r45, hr45, h⟩ := bnd_some h
      refine Run.callX wantS_none (ex_call rfl mkk22 cal22) rfl (sky_Fits_ok F a0.X.L a0.X.N r40 s0 s40_0 _ _ (hH42.slcF hs0) (hH42.slc (i := 0) rfl enc67_len) hr45) ?_
      rintro _ M47 ⟨s45_0, rfl, hN45⟩
      have hH47 : Has (ro (frozen M)) M47 [.vec 3 1 r45.1.length s45_0 (r45.1.flatMap enc3), .vec 67 3 r40.length s40_0 (r40.flatMap enc67), .vec 3 1 r29.1.length s29_0 (r29.1.flatMap enc3), .obj b25 (.row 62 .whole [s0, (.int .i64 a0.X.N), (.int .i64 a0.X.Cell), (.int .i64 a0.Time), s1, s2]), tb0, tb1, tb2] := hN45.1 _ _ hH42
      refine Run.opG wantS_none (ex_move rfl) rfl ?_
      refine Run.opG wantS_none (ex_extract rfl rfl) rfl ?_
      refine Run.opG wantS_none (ex_extract rfl rfl) rfl ?_
      refine Run.opG wantS_none (ex_assign rfl) rfl ?_
      refine Run.opG wantS_none (ex_assign rfl) rfl ?_
      refine Run.opsEnd (Run.seq (Run.seq (Run.region ?_)))
      refine Run.opG wantS_none (ex_move rfl) rfl ?_
      refine Run.opG wantS_none (ex_neq rfl rfl) rfl ?_
      refine Run.opG wantS_none (ex_move rfl) rfl ?_
      rcases btf ((!(r45.2 == (0 : Int)))) with hc48 | hc48
      · have h := bif_t hc48 h
        refine Run.no (wantS_not' rfl rfl hc48) rfl ?_
        refine Run.no (wantS_not' rfl rfl hc48) rfl ?_
        refine Run.no (wantS_not' rfl rfl hc48) rfl ?_
        refine Run.no (wantS_not' rfl rfl hc48) rfl ?_
        refine Run.no (wantS_not' rfl rfl hc48) rfl ?_
        refine Run.no (wantS_not' rfl rfl hc48) rfl ?_
        refine Run.opG wantS_none (ex_pickT' rfl hc48 rfl rfl) rfl ?_
        refine Run.opsEnd ?_
        exact Run.pick [1, 5, 6, 63] (law09_SkyTrue_2_ok F true a0.X.L a0.X.N a0.X.Cell a0.Time a0.Errors a0.Slack r40 r45.1 s0 s1 s2 b25 s40_0 s45_0 _ _ _ hs0 hs1 hs2 (hH47.pick [3, 1, 0, 4, 5, 6] rfl rfl) h)
      · have h := bif_f hc48 h
        refine Run.opG (wantS_yes' rfl rfl hc48) (ex_move rfl) rfl ?_
        refine Run.opG (wantS_yes' rfl rfl hc48) (ex_fieldAddr rfl off62_0) rfl ?_
        refine Run.opG (wantS_yes' rfl rfl hc48) (ex_fieldAddr rfl off33_2) rfl ?_
        refine Run.opG (wantS_yes' rfl rfl hc48) (ex_load1 rfl (hH47.cells (i := 3) rfl 2 rfl) rdLe_rfl agg3) rfl ?_
        obtain ⟨r80, hr80, h⟩ := bnd_some h
        refine Run.callP (wantS_yes' rfl rfl hc48) (ex_call rfl mkk39 cal39) rfl (ref00_Find_ok F r45.1 a0.X.Cell s45_0 _ _ (hH47.slc (i := 0) rfl enc3_len) hr80) ?_
        refine Run.opG (wantS_yes' rfl rfl hc48) (ex_lss rfl rfl) rfl ?_
        refine Run.opG wantS_none (ex_pickF' rfl hc48 rfl rfl) rfl ?_
        refine Run.opsEnd ?_
        exact Run.pick [1, 5, 6, 63] (law09_SkyTrue_2_ok F (decide (r80 < (0 : Int))) a0.X.L a0.X.N a0.X.Cell a0.Time a0.Errors a0.Slack r40 r45.1 s0 s1 s2 b25 s40_0 s45_0 _ _ _ hs0 hs1 hs2 (hH47.pick [3, 1, 0, 4, 5, 6] rfl rfl) h)

end Go.Ev.SkyTrue
