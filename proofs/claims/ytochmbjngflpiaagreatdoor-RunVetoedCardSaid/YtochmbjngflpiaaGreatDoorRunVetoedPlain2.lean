/- Plain functions that say what functions of the program come to, and proofs of it, written by a program of the verifier's own. -/
import Derived.Test.YtochmbjngflpiaaGreatDoorSort
import Derived.Test.YtochmbjngflpiaaGreatDoorRunVetoedPlain
namespace Go.Ev.RunVetoed
open Go Go.Ev Go.Proofs
set_option maxRecDepth 100000
set_option linter.unusedVariables false

abbrev glitch_held_post (r : (List S_api_Segment)) : SV → Mem → Prop := fun s Me => ∃ q1, s = q1 ∧ Has (fun _ => none) Me [.vec 106 2 r.length q1 (r.flatMap enc106)]

def glitch_held_2 (F : Nat) (hd1 : (List S_api_Segment) → Int → Int → Int → (List S_api_Segment) → Option ((List S_api_Segment))) (v10 : (List S_api_Segment)) (v11 v12 c22_0 : Int) (l52 : (List S_api_Segment)) : Option ((List S_api_Segment)) :=
 hd1 v10 v11 (w64 (v12 + (1 : Int))) c22_0 l52

theorem glitch_held_2_ok (F : Nat) (hd1 : (List S_api_Segment) → Int → Int → Int → (List S_api_Segment) → Option ((List S_api_Segment))) (hhd1 : ∀ (v10 : (List S_api_Segment)) (v11 v12 c22_0 : Int) (l24 : (List S_api_Segment)) (sv10 : SV) (b22 : Pos) (s24 : SV) (Fr : Rd) (M : Mem) (r : (List S_api_Segment)) (hv10 : Slc Fr 2 (FlatR enc106) sv10 v10) (hH : Has Fr M [.obj b22 (.row 3 .whole [(.int .i64 c22_0)]), .vec 106 2 l24.length s24 (l24.flatMap enc106)]), hd1 v10 v11 v12 c22_0 l24 = some r → Run Tryz.prog ⟨⟨101, [], none⟩, [.mk ⟨79, [], none⟩ 54 (treeOf []) [itemC Tryz.prog 79 [1, 0] 2, codeC Tryz.prog 79 [1, 1]]]⟩ 29 (glitch_held_post r) [(1, (.fn (.func 102) [] [(.ptr b22 0)])), (5, s24), (10, sv10), (11, (.int .i64 v11)), (12, (.int .i64 v12))] [codeC Tryz.prog 101 [1, 1, 0, 1, 0, 0], loopC Tryz.prog 101 [1, 1, 0, 1, 0, 0], .inBlock 0, codeC Tryz.prog 101 [1, 1, 1]] M) : ∀ (v10 : (List S_api_Segment)) (v11 v12 c22_0 : Int) (l52 : (List S_api_Segment)) (sv10 : SV) (b22 : Pos) (s52 : SV) (Fr : Rd) (M : Mem) (r : (List S_api_Segment)) (hv10 : Slc Fr 2 (FlatR enc106) sv10 v10) (hH : Has Fr M [.obj b22 (.row 3 .whole [(.int .i64 c22_0)]), .vec 106 2 l52.length s52 (l52.flatMap enc106)]), glitch_held_2 F hd1 v10 v11 v12 c22_0 l52 = some r → Run Tryz.prog ⟨⟨101, [], none⟩, [.mk ⟨79, [], none⟩ 54 (treeOf []) [itemC Tryz.prog 79 [1, 0] 2, codeC Tryz.prog 79 [1, 1]]]⟩ 29 (glitch_held_post r) [(1, (.fn (.func 102) [] [(.ptr b22 0)])), (5, s52), (10, sv10), (11, (.int .i64 v11)), (12, (.int .i64 v12))] [itemC Tryz.prog 101 [1, 1, 0, 1, 0, 0, 1, 1, 1] 0, loopC Tryz.prog 101 [1, 1, 0, 1, 0, 0], .inBlock 0, codeC Tryz.prog 101 [1, 1, 1]] M := by
 intro v10 v11 v12 c22_0 l52 sv10 b22 s52 Fr M r hv10 hH h
 rw [glitch_held_2] at h
 refine Run.opG wantS_none (ex_add rfl rfl) rfl ?_
 refine Run.opG wantS_none (ex_move rfl) rfl ?_
 refine Run.opsEnd (Run.inLoop ?_)
 exact Run.low (.cons (fle_pick [] rfl) .nil) (Run.pick [1, 5, 10, 11, 12] (hhd1 v10 v11 (w64 (v12 + (1 : Int))) c22_0 l52 sv10 b22 s52 _ _ _ hv10 hH h))

def glitch_held_5 (F : Nat) (hd3 : Int → Int → (List S_api_Segment) → (List S_api_Segment) → Option ((List S_api_Segment))) (v16 v17 : Int) (l57 l24 : (List S_api_Segment)) : Option ((List S_api_Segment)) :=
 hd3 v16 (w64 (v17 + (1 : Int))) l57 l24

theorem glitch_held_5_ok (F : Nat) (hd3 : Int → Int → (List S_api_Segment) → (List S_api_Segment) → Option ((List S_api_Segment))) (hhd3 : ∀ (v16 v17 : Int) (l57 l24 : (List S_api_Segment)) (s57 s24 : SV) (Fr : Rd) (M : Mem) (r : (List S_api_Segment)) (hH : Has Fr M [.vec 106 2 l57.length s57 (l57.flatMap enc106), .vec 106 2 l24.length s24 (l24.flatMap enc106)]), hd3 v16 v17 l57 l24 = some r → Run Tryz.prog ⟨⟨79, [], none⟩, []⟩ 54 (glitch_held_post r) [(6, s57), (15, s24), (16, (.int .i64 v16)), (17, (.int .i64 v17))] [codeC Tryz.prog 79 [1, 1, 1, 1, 0, 1, 0, 0], loopC Tryz.prog 79 [1, 1, 1, 1, 0, 1, 0, 0], .inBlock 0, codeC Tryz.prog 79 [1, 1, 1, 1, 1]] M) : ∀ (v16 v17 : Int) (l57 l24 : (List S_api_Segment)) (s57 s24 : SV) (Fr : Rd) (M : Mem) (r : (List S_api_Segment)) (hH : Has Fr M [.vec 106 2 l57.length s57 (l57.flatMap enc106), .vec 106 2 l24.length s24 (l24.flatMap enc106)]), glitch_held_5 F hd3 v16 v17 l57 l24 = some r → Run Tryz.prog ⟨⟨79, [], none⟩, []⟩ 54 (glitch_held_post r) [(6, s57), (15, s24), (16, (.int .i64 v16)), (17, (.int .i64 v17))] [itemC Tryz.prog 79 [1, 1, 1, 1, 0, 1, 0, 0, 1, 1, 1] 0, loopC Tryz.prog 79 [1, 1, 1, 1, 0, 1, 0, 0], .inBlock 0, codeC Tryz.prog 79 [1, 1, 1, 1, 1]] M := by
 intro v16 v17 l57 l24 s57 s24 Fr M r hH h
 rw [glitch_held_5] at h
 refine Run.opG wantS_none (ex_add rfl rfl) rfl ?_
 refine Run.opG wantS_none (ex_move rfl) rfl ?_
 refine Run.opsEnd (Run.inLoop ?_)
 exact Run.pick [6, 15, 16, 17] (hhd3 v16 (w64 (v17 + (1 : Int))) l57 l24 s57 s24 _ _ _ hH h)

def glitch_held_4 (F : Nat) (hd3 : Int → Int → (List S_api_Segment) → (List S_api_Segment) → Option ((List S_api_Segment))) (v9 v16 v17 : Int) (v35 : Bool) (c63 : S_api_Segment) (l57 l24 : (List S_api_Segment)) : Option ((List S_api_Segment)) :=
 bif v35 then
  bnd (idx l57 v9) fun x69 =>
  bnd (inn l57 v9) fun o70 =>
  bnd (l57[o70]?) fun x71 =>
  bnd (upd l57 o70 (S_api_Segment.mk x71.From (max x69.To c63.To))) fun l71 =>
  glitch_held_5 F hd3 v16 v17 l71 l24
 else
  bnd (apd 16 l57 ([c63] : List S_api_Segment)) fun l78 =>
  glitch_held_5 F hd3 v16 v17 l78 l24

theorem glitch_held_4_ok (F : Nat) (hd3 : Int → Int → (List S_api_Segment) → (List S_api_Segment) → Option ((List S_api_Segment))) (hhd3 : ∀ (v16 v17 : Int) (l57 l24 : (List S_api_Segment)) (s57 s24 : SV) (Fr : Rd) (M : Mem) (r : (List S_api_Segment)) (hH : Has Fr M [.vec 106 2 l57.length s57 (l57.flatMap enc106), .vec 106 2 l24.length s24 (l24.flatMap enc106)]), hd3 v16 v17 l57 l24 = some r → Run Tryz.prog ⟨⟨79, [], none⟩, []⟩ 54 (glitch_held_post r) [(6, s57), (15, s24), (16, (.int .i64 v16)), (17, (.int .i64 v17))] [codeC Tryz.prog 79 [1, 1, 1, 1, 0, 1, 0, 0], loopC Tryz.prog 79 [1, 1, 1, 1, 0, 1, 0, 0], .inBlock 0, codeC Tryz.prog 79 [1, 1, 1, 1, 1]] M) : ∀ (v9 v16 v17 : Int) (v35 : Bool) (c63 : S_api_Segment) (l57 l24 : (List S_api_Segment)) (s57 : SV) (b63 : Pos) (s24 : SV) (Fr : Rd) (M : Mem) (r : (List S_api_Segment)) (hH : Has Fr M [.vec 106 2 l57.length s57 (l57.flatMap enc106), .obj b63 (.row 106 .whole [(.int .i64 c63.From), (.int .i64 c63.To)]), .vec 106 2 l24.length s24 (l24.flatMap enc106)]), glitch_held_4 F hd3 v9 v16 v17 v35 c63 l57 l24 = some r → Run Tryz.prog ⟨⟨79, [], none⟩, []⟩ 54 (glitch_held_post r) [(6, s57), (8, (.ptr b63 0)), (9, (.int .i64 v9)), (15, s24), (16, (.int .i64 v16)), (17, (.int .i64 v17)), (35, (.bool v35))] [codeC Tryz.prog 79 [1, 1, 1, 1, 0, 1, 0, 0, 1, 1, 0, 0, 1, 1, 1], .inBlock 1, codeC Tryz.prog 79 [1, 1, 1, 1, 0, 1, 0, 0, 1, 1, 1], loopC Tryz.prog 79 [1, 1, 1, 1, 0, 1, 0, 0], .inBlock 0, codeC Tryz.prog 79 [1, 1, 1, 1, 1]] M := by
 intro v9 v16 v17 v35 c63 l57 l24 s57 b63 s24 Fr M r hH h
 rw [glitch_held_4] at h
 rcases btf (v35) with hc68 | hc68
 ·have h := bif_t hc68 h
  refine Run.condT' rfl hc68 ?_
  refine Run.drawG plan79_1_1_1_1_0_1_0_0_1_1_0_0_1_1_1_0 ?_
  refine DrawG.fl rfl (ev_ex wantS_none (ex_move rfl)) rfl ?_
  refine DrawG.fl rfl (ev_ex wantS_none (ex_move rfl)) rfl ?_
  refine DrawG.fl rfl (ev_ex wantS_none (ex_move rfl)) rfl ?_
  refine DrawG.fl rfl (ev_ex wantS_none (ex_move rfl)) rfl ?_
  obtain ⟨x69, hx69, h⟩ := bnd_some h
  obtain ⟨p69, o69, hb69, hx69, he69⟩ := vec_elem (P := Tryz.prog) (t := 33) (kk := .i64) hH (i := 0) rfl hx69 els33
  refine DrawG.fl rfl (ev_ex wantS_none (ex_elX rfl rfl hx69)) rfl ?_
  refine DrawG.fl rfl (ev_ex wantS_none (ex_fieldAddr rfl off106_1)) rfl ?_
  refine DrawG.fl rfl (ev_ex wantS_none (ex_load1 rfl ((hH.at (enc := enc106) (a := x69) (i := 0) rfl hb69 he69 enc106_len).fld (o := 1) rfl) rdLe_rfl agg3)) rfl ?_
  refine DrawG.fl rfl (ev_ex wantS_none (ex_fieldAddr rfl off106_1)) rfl ?_
  refine DrawG.fl rfl (ev_ex wantS_none (ex_load1 rfl (hH.cells (i := 1) rfl 1 rfl) rdLe_rfl agg3)) rfl ?_
  refine DrawG.fl rfl (ev_ex wantS_none (ex_max rfl rfl)) rfl ?_
  obtain ⟨o70, ho70, h⟩ := bnd_some h
  obtain ⟨p70, hb70, hx70⟩ := vec_place (P := Tryz.prog) (t := 33) (kk := .i64) hH (i := 0) rfl ho70 els33
  refine DrawG.fl rfl (ev_ex wantS_none (ex_elX rfl rfl hx70)) rfl ?_
  refine DrawG.fl rfl (ev_ex wantS_none (ex_fieldAddr rfl off106_1)) rfl ?_
  obtain ⟨x71, hx71, h⟩ := bnd_some h
  obtain ⟨l71, hl71, h⟩ := bnd_some h
  refine DrawG.opX rfl wantS_none rfl (ExG.storeFld (o := 1) rfl rfl hH (i := 0) rfl hb70 hx71 hl71 sz3 rfl rfl rfl rfl enc106_len) ?_
  rintro _ M72 ⟨rfl, (hH72 : Has Fr M72 [.vec 106 2 l71.length s57 (l71.flatMap enc106), .obj b63 (.row 106 .whole [(.int .i64 c63.From), (.int .i64 c63.To)]), .vec 106 2 l24.length s24 (l24.flatMap enc106)])⟩
  refine ⟨st_nil, ?_⟩
  refine DrawG.sync ?_
  refine DrawG.nil ?_
  refine Run.inBlock (Run.region ?_)
  exact Run.pick [6, 15, 16, 17] (glitch_held_5_ok F hd3 hhd3 v16 v17 l71 l24 s57 s24 _ _ _ (hH72.pick [0, 2] rfl rfl) h)
 ·have h := bif_f hc68 h
  refine Run.condF' rfl hc68 ?_
  refine Run.region ?_
  refine Run.opG wantS_none (ex_move rfl) rfl ?_
  refine Run.opG wantS_none (ex_loadA rfl (hH.cells (i := 1) rfl 0 rfl) rdLe_rfl agg106 rfl rfl rfl) rfl ?_
  refine Run.opX wantS_none rfl (ExG.built (enc := enc106) (l := ([c63] : List S_api_Segment)) (z := 2) rfl elt33 rfl rfl rfl enc106_len hH) ?_
  rintro s74 M75 (hH75 : Has Fr M75 [.vec 106 2 ([c63] : List S_api_Segment).length s74 (([c63] : List S_api_Segment).flatMap enc106), .vec 106 2 l57.length s57 (l57.flatMap enc106), .obj b63 (.row 106 .whole [(.int .i64 c63.From), (.int .i64 c63.To)]), .vec 106 2 l24.length s24 (l24.flatMap enc106)])
  obtain ⟨l78, hl78, h⟩ := bnd_some h
  refine Run.opX wantS_none rfl (ExG.append rfl rfl hH75 (i := 1) rfl enc106_len rfl enc106_ones appt33_33 rfl (len_slc (hH75.slc (i := 0) rfl enc106_len)) (first_slc (hH75.slc (i := 0) rfl enc106_len) (rdLe_rdRow _) enc106_len) hl78) ?_
  rintro s78 M80 (hH80 : Has Fr M80 [.vec 106 2 ([c63] : List S_api_Segment).length s74 (([c63] : List S_api_Segment).flatMap enc106), .vec 106 2 l78.length s78 (l78.flatMap enc106), .obj b63 (.row 106 .whole [(.int .i64 c63.From), (.int .i64 c63.To)]), .vec 106 2 l24.length s24 (l24.flatMap enc106)])
  refine Run.opG wantS_none (ex_assign rfl) rfl ?_
  refine Run.opsEnd (Run.inBlock (Run.region ?_))
  exact Run.pick [6, 15, 16, 17] (glitch_held_5_ok F hd3 hhd3 v16 v17 l78 l24 s78 s24 _ _ _ (hH80.pick [1, 3] rfl rfl) h)

def glitch_held_3 (F : Nat) : Nat → Int → Int → (List S_api_Segment) → (List S_api_Segment) → Option ((List S_api_Segment))
 | 0, _, _, _, _ => none
 | N + 1, v16, v17, l57, l24 =>
  bif (decide (v17 < v16)) then
   bnd (idx l24 v17) fun x61 =>
   bif (decide ((0 : Int) ≤ (w64 ((l57.length : Int) - (1 : Int))))) then
    bnd (idx l57 (w64 ((l57.length : Int) - (1 : Int)))) fun x67 =>
    glitch_held_4 F (glitch_held_3 F N) (w64 ((l57.length : Int) - (1 : Int))) v16 v17 (decide (x61.From ≤ x67.To)) x61 l57 l24
   else
    glitch_held_4 F (glitch_held_3 F N) (w64 ((l57.length : Int) - (1 : Int))) v16 v17 false x61 l57 l24
  else
   some l57

theorem glitch_held_3_ok (F : Nat) : ∀ (N : Nat), ∀ (v16 v17 : Int) (l57 l24 : (List S_api_Segment)) (s57 s24 : SV) (Fr : Rd) (M : Mem) (r : (List S_api_Segment)) (hH : Has Fr M [.vec 106 2 l57.length s57 (l57.flatMap enc106), .vec 106 2 l24.length s24 (l24.flatMap enc106)]), glitch_held_3 F N v16 v17 l57 l24 = some r → Run Tryz.prog ⟨⟨79, [], none⟩, []⟩ 54 (glitch_held_post r) [(6, s57), (15, s24), (16, (.int .i64 v16)), (17, (.int .i64 v17))] [codeC Tryz.prog 79 [1, 1, 1, 1, 0, 1, 0, 0], loopC Tryz.prog 79 [1, 1, 1, 1, 0, 1, 0, 0], .inBlock 0, codeC Tryz.prog 79 [1, 1, 1, 1, 1]] M := by
 intro N
 induction N with
 | zero =>
  intro v16 v17 l57 l24 s57 s24 Fr M r hH h
  simp [glitch_held_3] at h
 | succ N ih =>
  intro v16 v17 l57 l24 s57 s24 Fr M r hH h
  rw [glitch_held_3] at h
  refine Run.seq (Run.region ?_)
  refine Run.opG wantS_none (ex_lss rfl rfl) rfl ?_
  refine Run.opsEnd (Run.seq ?_)
  rcases btf ((decide (v17 < v16))) with hc59 | hc59
  ·have h := bif_t hc59 h
   refine Run.condT' rfl hc59 ?_
   refine Run.skip (Run.seq (Run.block (Run.seq (Run.region ?_))))
   obtain ⟨x61, hx61, h⟩ := bnd_some h
   obtain ⟨p61, o61, hb61, hx61, he61⟩ := vec_elem (P := Tryz.prog) (t := 33) (kk := .i64) hH (i := 1) rfl hx61 els33
   refine Run.opG wantS_none (ex_elX rfl rfl hx61) rfl ?_
   refine Run.opG wantS_none (ex_loadA rfl (hH.at (enc := enc106) (a := x61) (i := 1) rfl hb61 he61 enc106_len) rdLe_rfl agg106 rfl rfl rfl) rfl ?_
   refine Run.opX wantS_none rfl (ExG.new (v := fun b => .ptr b 0) (ex_alloc zer106) hH) ?_
   rintro _ M64 ⟨b63, rfl, hH64⟩
   refine Run.opX wantS_none rfl (ExG.storeC (c' := [(.int .i64 x61.From), (.int .i64 x61.To)]) rfl rfl rfl hH64 (i := 0) rfl sz106 rfl rfl rfl rfl rfl) ?_
   rintro _ M65 ⟨rfl, (hH65 : Has Fr M65 [.obj b63 (.row 106 .whole [(.int .i64 x61.From), (.int .i64 x61.To)]), .vec 106 2 l57.length s57 (l57.flatMap enc106), .vec 106 2 l24.length s24 (l24.flatMap enc106)])⟩
   refine Run.opsEnd (Run.seq (Run.region ?_))
   refine Run.opG wantS_none (ex_move rfl) rfl ?_
   refine Run.opG wantS_none (ex_len' rfl (hH65.slc (i := 1) rfl enc106_len) lenk33) rfl ?_
   refine Run.opG wantS_none (ex_sub rfl rfl) rfl ?_
   refine Run.opG wantS_none (ex_assign rfl) rfl ?_
   refine Run.opsEnd (Run.seq ?_)
   refine Run.drawG plan79_1_1_1_1_0_1_0_0_1_1_0_0_1_1_0 ?_
   refine DrawG.fl rfl (ev_ex wantS_none (ex_move rfl)) rfl ?_
   refine DrawG.fl rfl (ev_ex wantS_none (ex_geq rfl rfl)) rfl ?_
   refine DrawG.fl rfl (ev_ex wantS_none (ex_move rfl)) rfl ?_
   rcases btf ((decide ((0 : Int) ≤ (w64 ((l57.length : Int) - (1 : Int)))))) with hc66 | hc66
   ·have h := bif_t hc66 h
    refine DrawG.fl rfl (ev_ex (wantS_yes' rfl rfl hc66) (ex_fieldAddr rfl off106_0)) rfl ?_
    refine DrawG.fl rfl (ev_ex (wantS_yes' rfl rfl hc66) (ex_load1 rfl (hH65.cells (i := 0) rfl 0 rfl) rdLe_rfl agg3)) rfl ?_
    refine DrawG.fl rfl (ev_ex (wantS_yes' rfl rfl hc66) (ex_move rfl)) rfl ?_
    refine DrawG.fl rfl (ev_ex (wantS_yes' rfl rfl hc66) (ex_move rfl)) rfl ?_
    obtain ⟨x67, hx67, h⟩ := bnd_some h
    obtain ⟨p67, o67, hb67, hx67, he67⟩ := vec_elem (P := Tryz.prog) (t := 33) (kk := .i64) hH65 (i := 1) rfl hx67 els33
    refine DrawG.fl rfl (ev_ex (wantS_yes' rfl rfl hc66) (ex_elX rfl rfl hx67)) rfl ?_
    refine DrawG.fl rfl (ev_ex (wantS_yes' rfl rfl hc66) (ex_fieldAddr rfl off106_1)) rfl ?_
    refine DrawG.fl rfl (ev_ex (wantS_yes' rfl rfl hc66) (ex_load1 rfl ((hH65.at (enc := enc106) (a := x67) (i := 1) rfl hb67 he67 enc106_len).fld (o := 1) rfl) rdLe_rfl agg3)) rfl ?_
    refine DrawG.fl rfl (ev_ex (wantS_yes' rfl rfl hc66) (ex_leq rfl rfl)) rfl ?_
    refine DrawG.fl rfl (ev_ex wantS_none (ex_pickT' rfl hc66 rfl rfl)) rfl ?_
    refine DrawG.sync ?_
    refine DrawG.nil ?_
    exact Run.pick [6, 8, 9, 15, 16, 17, 35] (glitch_held_4_ok F (glitch_held_3 F N) ih (w64 ((l57.length : Int) - (1 : Int))) v16 v17 (decide (x61.From ≤ x67.To)) x61 l57 l24 s57 b63 s24 _ _ _ (hH65.pick [1, 0, 2] rfl rfl) h)
   ·have h := bif_f hc66 h
    refine DrawG.fl rfl (ev_no (wantS_not' rfl rfl hc66)) rfl ?_
    refine DrawG.fl rfl (ev_no (wantS_not' rfl rfl hc66)) rfl ?_
    refine DrawG.fl rfl (ev_no (wantS_not' rfl rfl hc66)) rfl ?_
    refine DrawG.fl rfl (ev_no (wantS_not' rfl rfl hc66)) rfl ?_
    refine DrawG.fl rfl (ev_no (wantS_not' rfl rfl hc66)) rfl ?_
    refine DrawG.fl rfl (ev_no (wantS_not' rfl rfl hc66)) rfl ?_
    refine DrawG.fl rfl (ev_no (wantS_not' rfl rfl hc66)) rfl ?_
    refine DrawG.fl rfl (ev_no (wantS_not' rfl rfl hc66)) rfl ?_
    refine DrawG.fl rfl (ev_ex wantS_none (ex_pickF' rfl hc66 rfl rfl)) rfl ?_
    refine DrawG.sync ?_
    refine DrawG.nil ?_
    exact Run.pick [6, 8, 9, 15, 16, 17, 35] (glitch_held_4_ok F (glitch_held_3 F N) ih (w64 ((l57.length : Int) - (1 : Int))) v16 v17 false x61 l57 l24 s57 b63 s24 _ _ _ (hH65.pick [1, 0, 2] rfl rfl) h)
  ·have h := bif_f hc59 h
   refine Run.condF' rfl hc59 ?_
   refine Run.exit rfl (Run.seq (Run.region ?_))
   refine Run.opG wantS_none (ex_move rfl) rfl ?_
   refine Run.opG wantS_none (ex_assign rfl) rfl ?_
   refine Run.opsEnd ?_
   cases h
   exact Run.ret Tryz.func79 rfl (res_tmp rfl res_nil) ⟨_, rfl, (hH.pick [0] rfl rfl).upF (none_le _)⟩

def glitch_held_1 (F : Nat) : Nat → (List S_api_Segment) → Int → Int → Int → (List S_api_Segment) → Option ((List S_api_Segment))
 | 0, _, _, _, _, _ => none
 | N + 1, v10, v11, v12, c22_0, l24 =>
  bif (decide (v12 < v11)) then
   bnd (idx v10 v12) fun x28 =>
   bif (decide (x28.From < (min x28.To c22_0))) then
    bnd (apd 16 l24 ([(S_api_Segment.mk x28.From (min x28.To c22_0))] : List S_api_Segment)) fun l51 =>
    glitch_held_2 F (glitch_held_1 F N) v10 v11 v12 c22_0 l51
   else
    glitch_held_2 F (glitch_held_1 F N) v10 v11 v12 c22_0 l24
  else
   bnd (sortP (fun a => a.From) l24) fun l55 =>
   glitch_held_3 F F (l55.length : Int) (0 : Int) ([] : List S_api_Segment) l55

theorem glitch_held_1_ok (F : Nat) : ∀ (N : Nat), ∀ (v10 : (List S_api_Segment)) (v11 v12 c22_0 : Int) (l24 : (List S_api_Segment)) (sv10 : SV) (b22 : Pos) (s24 : SV) (Fr : Rd) (M : Mem) (r : (List S_api_Segment)) (hv10 : Slc Fr 2 (FlatR enc106) sv10 v10) (hH : Has Fr M [.obj b22 (.row 3 .whole [(.int .i64 c22_0)]), .vec 106 2 l24.length s24 (l24.flatMap enc106)]), glitch_held_1 F N v10 v11 v12 c22_0 l24 = some r → Run Tryz.prog ⟨⟨101, [], none⟩, [.mk ⟨79, [], none⟩ 54 (treeOf []) [itemC Tryz.prog 79 [1, 0] 2, codeC Tryz.prog 79 [1, 1]]]⟩ 29 (glitch_held_post r) [(1, (.fn (.func 102) [] [(.ptr b22 0)])), (5, s24), (10, sv10), (11, (.int .i64 v11)), (12, (.int .i64 v12))] [codeC Tryz.prog 101 [1, 1, 0, 1, 0, 0], loopC Tryz.prog 101 [1, 1, 0, 1, 0, 0], .inBlock 0, codeC Tryz.prog 101 [1, 1, 1]] M := by
 intro N
 induction N with
 | zero =>
  intro v10 v11 v12 c22_0 l24 sv10 b22 s24 Fr M r hv10 hH h
  simp [glitch_held_1] at h
 | succ N ih =>
  intro v10 v11 v12 c22_0 l24 sv10 b22 s24 Fr M r hv10 hH h
  rw [glitch_held_1] at h
  refine Run.seq (Run.region ?_)
  refine Run.opG wantS_none (ex_lss rfl rfl) rfl ?_
  refine Run.opsEnd (Run.seq ?_)
  rcases btf ((decide (v12 < v11))) with hc26 | hc26
  ·have h := bif_t hc26 h
   refine Run.condT' rfl hc26 ?_
   refine Run.skip (Run.seq (Run.block (Run.seq (Run.region ?_))))
   obtain ⟨x28, hx28, h⟩ := bnd_some h
   obtain ⟨p28, o28, _, hx28, hp28, rfl⟩ := sl_elem (P := Tryz.prog) (t := 33) (kk := .i64) hv10 hx28 els33
   refine Run.opG wantS_none (ex_elX rfl rfl hx28) rfl ?_
   refine Run.opG wantS_none (ex_loadA rfl (hH.ptrF hp28) rdLe_rfl agg106 rfl rfl rfl) rfl ?_
   refine Run.opX wantS_none rfl (ExG.new (v := fun b => .ptr b 0) (ex_alloc zer106) hH) ?_
   rintro _ M31 ⟨b30, rfl, hH31⟩
   refine Run.opX wantS_none rfl (ExG.storeC (c' := [(.int .i64 x28.From), (.int .i64 x28.To)]) rfl rfl rfl hH31 (i := 0) rfl sz106 rfl rfl rfl rfl rfl) ?_
   rintro _ M32 ⟨rfl, (hH32 : Has Fr M32 [.obj b30 (.row 106 .whole [(.int .i64 x28.From), (.int .i64 x28.To)]), .obj b22 (.row 3 .whole [(.int .i64 c22_0)]), .vec 106 2 l24.length s24 (l24.flatMap enc106)])⟩
   refine Run.opsEnd (Run.seq (Run.region ?_))
   refine Run.opG wantS_none (ex_move rfl) rfl ?_
   refine Run.opG wantS_none (ex_loadA rfl (hH32.cells (i := 0) rfl 0 rfl) rdLe_rfl agg106 rfl rfl rfl) rfl ?_
   refine Run.enter wantS_none (ex_closure rfl rfl mkk102 cal102) Tryz.func102 rfl rfl ?_
   refine Run.seq (Run.region ?_)
   refine Run.opX wantS_none rfl (ExG.box rfl rfl hH32) ?_
   rintro _ M35 ⟨b34, rfl, hH35⟩
   refine Run.opX wantS_none rfl (ExG.new (v := fun b => .ptr b 0) (ex_alloc zer106) hH35) ?_
   rintro _ M38 ⟨b37, rfl, hH38⟩
   refine Run.opG wantS_none (ex_assign rfl) rfl ?_
   refine Run.opsEnd (Run.seq (Run.region ?_))
   refine Run.opG wantS_none (ex_fieldAddr rfl off106_1) rfl ?_
   refine Run.opG wantS_none (ex_load1 rfl (hH38.cells (i := 1) rfl 1 rfl) rdLe_rfl agg3) rfl ?_
   refine Run.opG wantS_none (ex_load1 rfl (hH38.cells (i := 3) rfl 0 rfl) rdLe_rfl agg3) rfl ?_
   refine Run.opG wantS_none (ex_min rfl rfl) rfl ?_
   refine Run.opG wantS_none (ex_fieldAddr rfl off106_1) rfl ?_
   refine Run.opX wantS_none rfl (ExG.storeC (c' := [(.int .i64 x28.From), (.int .i64 (min x28.To c22_0))]) rfl rfl rfl hH38 (i := 1) rfl sz3 rfl rfl rfl rfl rfl) ?_
   rintro _ M39 ⟨rfl, (hH39 : Has Fr M39 [.obj b37 (.row 106 .whole [(.int .i64 0), (.int .i64 0)]), .obj b34 (.row 106 .whole [(.int .i64 x28.From), (.int .i64 (min x28.To c22_0))]), .obj b30 (.row 106 .whole [(.int .i64 x28.From), (.int .i64 x28.To)]), .obj b22 (.row 3 .whole [(.int .i64 c22_0)]), .vec 106 2 l24.length s24 (l24.flatMap enc106)])⟩
   refine Run.opsEnd (Run.seq ?_)
   refine Run.drawG plan102_1_1_0 ?_
   refine DrawG.fl rfl (ev_ex wantS_none (ex_loadA rfl (hH39.cells (i := 1) rfl 0 rfl) rdLe_rfl agg106 rfl rfl rfl)) rfl ?_
   refine DrawG.fl rfl (ev_ex wantS_none (ex_fieldAddr rfl off106_0)) rfl ?_
   refine DrawG.fl rfl (ev_ex wantS_none (ex_load1 rfl (hH39.cells (i := 1) rfl 0 rfl) rdLe_rfl agg3)) rfl ?_
   refine DrawG.fl rfl (ev_ex wantS_none (ex_fieldAddr rfl off106_1)) rfl ?_
   refine DrawG.fl rfl (ev_ex wantS_none (ex_load1 rfl (hH39.cells (i := 1) rfl 1 rfl) rdLe_rfl agg3)) rfl ?_
   refine DrawG.fl rfl (ev_ex wantS_none (ex_lss rfl rfl)) rfl ?_
   refine DrawG.opX rfl wantS_none rfl (ExG.storeC (c' := [(.int .i64 x28.From), (.int .i64 (min x28.To c22_0))]) rfl rfl rfl hH39 (i := 0) rfl sz106 rfl rfl rfl rfl rfl) ?_
   rintro _ M40 ⟨rfl, (hH40 : Has Fr M40 [.obj b37 (.row 106 .whole [(.int .i64 x28.From), (.int .i64 (min x28.To c22_0))]), .obj b34 (.row 106 .whole [(.int .i64 x28.From), (.int .i64 (min x28.To c22_0))]), .obj b30 (.row 106 .whole [(.int .i64 x28.From), (.int .i64 x28.To)]), .obj b22 (.row 3 .whole [(.int .i64 c22_0)]), .vec 106 2 l24.length s24 (l24.flatMap enc106)])⟩
   refine ⟨(st_cons rfl (ev_ex wantS_none (ex_lss rfl rfl)) rfl rfl rfl (st_cons rfl (ev_ex wantS_none (ex_load1 rfl (hH40.cells (i := 1) rfl 1 rfl) rdLe_rfl agg3)) rfl rfl rfl (st_cons rfl (ev_ex wantS_none (ex_fieldAddr rfl off106_1)) rfl rfl rfl (st_cons rfl (ev_ex wantS_none (ex_load1 rfl (hH40.cells (i := 1) rfl 0 rfl) rdLe_rfl agg3)) rfl rfl rfl (st_cons rfl (ev_ex wantS_none (ex_fieldAddr rfl off106_0)) rfl rfl rfl st_nil))))), ?_⟩
   refine DrawG.fl rfl (ev_ex wantS_none (ex_assign rfl)) rfl ?_
   refine DrawG.sync ?_
   refine DrawG.nil ?_
   refine Run.retTo Tryz.func102 rfl (res_cell rfl (x_load (ex_loadA rfl (hH40.cells (i := 0) rfl 0 rfl) rdLe_rfl agg106 rfl rfl rfl)) (res_tmp rfl res_nil)) rfl ?_
   refine Run.opG wantS_none (ex_move rfl) rfl ?_
   refine Run.opG wantS_none (ex_extract rfl rfl) rfl ?_
   refine Run.opG wantS_none (ex_extract rfl rfl) rfl ?_
   refine Run.opX wantS_none rfl (ExG.new (v := fun b => .ptr b 0) (ex_alloc zer106) hH40) ?_
   rintro _ M43 ⟨b42, rfl, hH43⟩
   refine Run.opX wantS_none rfl (ExG.storeC (c' := [(.int .i64 x28.From), (.int .i64 (min x28.To c22_0))]) rfl rfl rfl hH43 (i := 0) rfl sz106 rfl rfl rfl rfl rfl) ?_
   rintro _ M44 ⟨rfl, (hH44 : Has Fr M44 [.obj b42 (.row 106 .whole [(.int .i64 x28.From), (.int .i64 (min x28.To c22_0))]), .obj b37 (.row 106 .whole [(.int .i64 x28.From), (.int .i64 (min x28.To c22_0))]), .obj b34 (.row 106 .whole [(.int .i64 x28.From), (.int .i64 (min x28.To c22_0))]), .obj b30 (.row 106 .whole [(.int .i64 x28.From), (.int .i64 x28.To)]), .obj b22 (.row 3 .whole [(.int .i64 c22_0)]), .vec 106 2 l24.length s24 (l24.flatMap enc106)])⟩
   refine Run.opG wantS_none (ex_assign rfl) rfl ?_
   refine Run.opsEnd (Run.seq (Run.region ?_))
   refine Run.opG wantS_none (ex_move rfl) rfl ?_
   refine Run.opsEnd ?_
   rcases btf ((decide (x28.From < (min x28.To c22_0)))) with hc45 | hc45
   ·have h := bif_t hc45 h
    refine Run.condT' rfl hc45 ?_
    refine Run.region ?_
    refine Run.opG wantS_none (ex_move rfl) rfl ?_
    refine Run.opG wantS_none (ex_loadA rfl (hH44.cells (i := 0) rfl 0 rfl) rdLe_rfl agg106 rfl rfl rfl) rfl ?_
    refine Run.opX wantS_none rfl (ExG.built (enc := enc106) (l := ([(S_api_Segment.mk x28.From (min x28.To c22_0))] : List S_api_Segment)) (z := 2) rfl elt33 rfl rfl rfl enc106_len hH44) ?_
    rintro s47 M48 (hH48 : Has Fr M48 [.vec 106 2 ([(S_api_Segment.mk x28.From (min x28.To c22_0))] : List S_api_Segment).length s47 (([(S_api_Segment.mk x28.From (min x28.To c22_0))] : List S_api_Segment).flatMap enc106), .obj b42 (.row 106 .whole [(.int .i64 x28.From), (.int .i64 (min x28.To c22_0))]), .obj b37 (.row 106 .whole [(.int .i64 x28.From), (.int .i64 (min x28.To c22_0))]), .obj b34 (.row 106 .whole [(.int .i64 x28.From), (.int .i64 (min x28.To c22_0))]), .obj b30 (.row 106 .whole [(.int .i64 x28.From), (.int .i64 x28.To)]), .obj b22 (.row 3 .whole [(.int .i64 c22_0)]), .vec 106 2 l24.length s24 (l24.flatMap enc106)])
    obtain ⟨l51, hl51, h⟩ := bnd_some h
    refine Run.opX wantS_none rfl (ExG.append rfl rfl hH48 (i := 6) rfl enc106_len rfl enc106_ones appt33_33 rfl (len_slc (hH48.slc (i := 0) rfl enc106_len)) (first_slc (hH48.slc (i := 0) rfl enc106_len) (rdLe_rdRow _) enc106_len) hl51) ?_
    rintro s51 M53 (hH53 : Has Fr M53 [.vec 106 2 ([(S_api_Segment.mk x28.From (min x28.To c22_0))] : List S_api_Segment).length s47 (([(S_api_Segment.mk x28.From (min x28.To c22_0))] : List S_api_Segment).flatMap enc106), .obj b42 (.row 106 .whole [(.int .i64 x28.From), (.int .i64 (min x28.To c22_0))]), .obj b37 (.row 106 .whole [(.int .i64 x28.From), (.int .i64 (min x28.To c22_0))]), .obj b34 (.row 106 .whole [(.int .i64 x28.From), (.int .i64 (min x28.To c22_0))]), .obj b30 (.row 106 .whole [(.int .i64 x28.From), (.int .i64 x28.To)]), .obj b22 (.row 3 .whole [(.int .i64 c22_0)]), .vec 106 2 l51.length s51 (l51.flatMap enc106)])
    refine Run.opG wantS_none (ex_assign rfl) rfl ?_
    refine Run.opsEnd (Run.inBlock (Run.region ?_))
    exact Run.low (.cons (fle_pick [] rfl) .nil) (Run.pick [1, 5, 10, 11, 12] (glitch_held_2_ok F (glitch_held_1 F N) ih v10 v11 v12 c22_0 l51 sv10 b22 s51 _ _ _ hv10 (hH53.pick [5, 6] rfl rfl) h))
   ·have h := bif_f hc45 h
    refine Run.condF' rfl hc45 ?_
    refine Run.skip (Run.inBlock (Run.region ?_))
    exact Run.low (.cons (fle_pick [] rfl) .nil) (Run.pick [1, 5, 10, 11, 12] (glitch_held_2_ok F (glitch_held_1 F N) ih v10 v11 v12 c22_0 l24 sv10 b22 s24 _ _ _ hv10 (hH44.pick [4, 5] rfl rfl) h))
  ·have h := bif_f hc26 h
   refine Run.condF' rfl hc26 ?_
   refine Run.exit rfl (Run.seq (Run.region ?_))
   refine Run.opG wantS_none (ex_move rfl) rfl ?_
   refine Run.opG wantS_none (ex_assign rfl) rfl ?_
   refine Run.opsEnd ?_
   refine Run.retTo Tryz.func101 rfl (res_tmp rfl res_nil) rfl ?_
   refine Run.opG wantS_none (ex_assign rfl) rfl ?_
   refine Run.opsEnd (Run.seq (Run.region ?_))
   refine Run.opG wantS_none (ex_move rfl) rfl ?_
   obtain ⟨l55, hl55, h⟩ := bnd_some h
   refine Run.callX wantS_none (ex_call rfl mkk103 cal103) rfl ((sort103 enc106 (fun a => a.From) (fun a => a.To) (fun _ => rfl)).callsP hH (i := 1) rfl hl55) ?_
   rintro _ M56 ⟨rfl, (hH56 : Has Fr M56 [.obj b22 (.row 3 .whole [(.int .i64 c22_0)]), .vec 106 2 l55.length s24 (l55.flatMap enc106)])⟩
   refine Run.opsEnd (Run.seq (Run.region ?_))
   refine Run.opG wantS_none (ex_assign rfl) rfl ?_
   refine Run.opsEnd (Run.seq (Run.seq (Run.region ?_)))
   refine Run.opG wantS_none (ex_move rfl) rfl ?_
   refine Run.opG wantS_none (ex_len' rfl (hH56.slc (i := 1) rfl enc106_len) lenk33) rfl ?_
   refine Run.opG wantS_none (ex_move rfl) rfl ?_
   refine Run.opsEnd (Run.block (Run.loop ?_))
   have hH58 : Has Fr M56 [.vec 106 2 ([] : List S_api_Segment).length .nils (([] : List S_api_Segment).flatMap enc106), .obj b22 (.row 3 .whole [(.int .i64 c22_0)]), .vec 106 2 l55.length s24 (l55.flatMap enc106)] := hH56.nils 106 2
   exact Run.pick [6, 15, 16, 17] (glitch_held_3_ok F F (l55.length : Int) (0 : Int) ([] : List S_api_Segment) l55 .nils s24 _ _ _ (hH58.pick [0, 2] rfl rfl) h)

def glitch_held (F : Nat) (a0 : (List S_api_Segment)) (a1 : Int) : Option ((List S_api_Segment)) :=
 glitch_held_1 F F a0 (a0.length : Int) (0 : Int) a1 ([] : List S_api_Segment)

theorem glitch_held_ok (F : Nat) (a0 : (List S_api_Segment)) (a1 : Int) (s0 : SV) (r : (List S_api_Segment)) (M : Mem) (hs0 : Slc (rd M) 2 (FlatR enc106) s0 a0) (h : glitch_held F a0 a1 = some r) : CallsM Tryz.prog 79 [s0, (.int .i64 a1)] M (fun s M' => ∃ q1, s = q1 ∧ New M M' [.vec 106 2 r.length q1 (r.flatMap enc106)]) := by
 refine CallsM.fresh (Q := glitch_held_post r) Tryz.func79 rfl rfl ?_ (by rintro s Me ⟨q1, rfl, hx⟩ ha hw; exact ⟨_, rfl, New.of rfl hx ha hw⟩)
 rw [glitch_held] at h
 replace hs0 := hs0.mono (rdLe_frozen M) (fun _ _ h => h)
 have hH := Has.nil (frozen M)
 refine Run.seq (Run.region ?_)
 refine Run.opX wantS_none rfl (ExG.box rfl rfl hH) ?_
 rintro _ M23 ⟨b22, rfl, hH23⟩
 refine Run.opG wantS_none (ex_assign rfl) rfl ?_
 refine Run.opsEnd (Run.seq (Run.region ?_))
 refine Run.opG wantS_none (ex_move rfl) rfl ?_
 refine Run.opG wantS_none (ex_makeFunc rfl rfl) rfl ?_
 refine Run.enter wantS_none (ex_call rfl mkk101 cal101) Tryz.func101 rfl rfl ?_
 refine Run.seq (Run.region ?_)
 refine Run.opG wantS_none (ex_assign rfl) rfl ?_
 refine Run.opsEnd (Run.seq (Run.region ?_))
 refine Run.opG wantS_none (ex_assign rfl) rfl ?_
 refine Run.opsEnd (Run.seq (Run.seq (Run.region ?_)))
 refine Run.opG wantS_none (ex_move rfl) rfl ?_
 refine Run.opG wantS_none (ex_len' rfl hs0 lenk33) rfl ?_
 refine Run.opG wantS_none (ex_move rfl) rfl ?_
 refine Run.opsEnd (Run.block (Run.loop ?_))
 have hH25 : Has (ro (frozen M)) M23 [.vec 106 2 ([] : List S_api_Segment).length .nils (([] : List S_api_Segment).flatMap enc106), .obj b22 (.row 3 .whole [(.int .i64 a1)])] := hH23.nils 106 2
 exact Run.low (.cons (fle_pick [] rfl) .nil) (Run.pick [1, 5, 10, 11, 12] (glitch_held_1_ok F F a0 (a0.length : Int) (0 : Int) a1 ([] : List S_api_Segment) s0 b22 .nils _ _ _ hs0 (hH25.pick [1, 0] rfl rfl) h))

theorem mkk79 : makeK Tryz.prog 79 = none := by kernel_rfl
theorem cal79 : callable Tryz.prog 79 = true := by kernel_rfl
abbrev glitch_Held_post (r : (List S_api_Segment) × Int) : SV → Mem → Prop := fun s Me => ∃ q1, s = (.tuple [q1, (.int .i64 r.2)]) ∧ Has (fun _ => none) Me [.vec 106 2 r.1.length q1 (r.1.flatMap enc106)]

def glitch_Held (F : Nat) (a0 : S_api_Veto) (a1 : Int) : Option ((List S_api_Segment) × Int) :=
 bnd (glitch_checkSpan F ([a0] : List S_api_Veto) a1) fun r28 =>
 bif (!(r28 == (0 : Int))) then
  some (([] : List S_api_Segment), r28)
 else
  bnd (glitch_held F a0.Segments a1) fun r35 =>
  some (r35, (0 : Int))

theorem glitch_Held_ok (F : Nat) (a0 : S_api_Veto) (a1 : Int) (s0 : SV) (r : (List S_api_Segment) × Int) (M : Mem) (hs0 : Slc (rd M) 2 (FlatR enc106) s0 a0.Segments) (h : glitch_Held F a0 a1 = some r) : CallsM Tryz.prog 68 [(.agg [(.str a0.Name), s0]), (.int .i64 a1)] M (fun s M' => ∃ q1, s = (.tuple [q1, (.int .i64 r.2)]) ∧ New M M' [.vec 106 2 r.1.length q1 (r.1.flatMap enc106)]) := by
 refine CallsM.fresh (Q := glitch_Held_post r) Tryz.func68 rfl rfl ?_ (by rintro s Me ⟨q1, rfl, hx⟩ ha hw; exact ⟨_, rfl, New.of rfl hx ha hw⟩)
 rw [glitch_Held] at h
 replace hs0 := hs0.mono (rdLe_frozen M) (fun _ _ h => h)
 have hH := Has.nil (frozen M)
 refine Run.seq (Run.region ?_)
 refine Run.opX wantS_none rfl (ExG.box rfl rfl hH) ?_
 rintro _ M23 ⟨b22, rfl, hH23⟩
 refine Run.opG wantS_none (ex_assign rfl) rfl ?_
 refine Run.opG wantS_none (ex_assign rfl) rfl ?_
 refine Run.opsEnd (Run.seq (Run.seq (Run.region ?_)))
 refine Run.opG wantS_none (ex_loadA rfl (hH23.cells (i := 0) rfl 0 rfl) rdLe_rfl agg127 rfl rfl rfl) rfl ?_
 have hr25 : Rows (rep127 (ro (frozen M))) 2 [(.str a0.Name), s0] ([a0] : List S_api_Veto) := (Rows.cons (cs := [(.str a0.Name), s0]) rfl ⟨s0, rfl, hs0⟩ Rows.nil)
 refine Run.opX wantS_none rfl (ExG.builtR (z := 2) (c := [(.str a0.Name), s0]) rfl elt34 rfl rfl rfl hH23) ?_
 rintro s25 M26 (hH26 : Has (ro (frozen M)) M26 [.vec 127 2 ([a0] : List S_api_Veto).length s25 [(.str a0.Name), s0], .obj b22 (.row 127 .whole [(.str a0.Name), s0])])
 refine Run.opG wantS_none (ex_move rfl) rfl ?_
 obtain ⟨r28, hr28, h⟩ := bnd_some h
 refine Run.callP wantS_none (ex_call rfl mkk46 cal46) rfl (glitch_checkSpan_ok F ([a0] : List S_api_Veto) a1 s25 _ _ (((hH26.slcR (i := 0) rfl hr25)).mono (fun _ _ h => h) (fun _ _ => rep127_mo hH26.le)) hr28) ?_
 refine Run.opG wantS_none (ex_assign rfl) rfl ?_
 refine Run.opsEnd (Run.seq (Run.region ?_))
 refine Run.opG wantS_none (ex_move rfl) rfl ?_
 refine Run.opG wantS_none (ex_neq rfl rfl) rfl ?_
 refine Run.opsEnd ?_
 rcases btf ((!(r28 == (0 : Int)))) with hc30 | hc30
 ·have h := bif_t hc30 h
  refine Run.condT' rfl hc30 ?_
  refine Run.seq (Run.region ?_)
  refine Run.opG wantS_none (ex_move rfl) rfl ?_
  refine Run.opG wantS_none (ex_assign rfl) rfl ?_
  refine Run.opG wantS_none (ex_assign rfl) rfl ?_
  refine Run.opsEnd ?_
  have hH32 : Has (ro (frozen M)) M26 [.vec 106 2 ([] : List S_api_Segment).length .nils (([] : List S_api_Segment).flatMap enc106), .vec 127 2 ([a0] : List S_api_Veto).length s25 [(.str a0.Name), s0], .obj b22 (.row 127 .whole [(.str a0.Name), s0])] := hH26.nils 106 2
  cases h
  exact Run.ret Tryz.func68 rfl (res_tmp rfl (res_tmp rfl res_nil)) ⟨_, rfl, (hH32.pick [0] rfl rfl).upF (none_le _)⟩
 ·have h := bif_f hc30 h
  refine Run.condF' rfl hc30 ?_
  refine Run.skip (Run.seq (Run.region ?_))
  refine Run.opG wantS_none (ex_fieldAddr rfl off127_1) rfl ?_
  refine Run.opG wantS_none (ex_load1 rfl (hH26.cells (i := 1) rfl 1 rfl) rdLe_rfl agg33) rfl ?_
  refine Run.opG wantS_none (ex_move rfl) rfl ?_
  obtain ⟨r35, hr35, h⟩ := bnd_some h
  refine Run.callX wantS_none (ex_call rfl mkk79 cal79) rfl (glitch_held_ok F a0.Segments a1 s0 _ _ (hH26.slcF hs0) hr35) ?_
  rintro s35_0 M37 ⟨_, rfl, hN35⟩
  have hH37 : Has (ro (frozen M)) M37 [.vec 106 2 r35.length s35_0 (r35.flatMap enc106), .vec 127 2 ([a0] : List S_api_Veto).length s25 [(.str a0.Name), s0], .obj b22 (.row 127 .whole [(.str a0.Name), s0])] := hN35.1 _ _ hH26
  refine Run.opG wantS_none (ex_assign rfl) rfl ?_
  refine Run.opG wantS_none (ex_assign rfl) rfl ?_
  refine Run.opsEnd ?_
  cases h
  exact Run.ret Tryz.func68 rfl (res_tmp rfl (res_tmp rfl res_nil)) ⟨_, rfl, (hH37.pick [0] rfl rfl).upF (none_le _)⟩

theorem mkk68 : makeK Tryz.prog 68 = none := by kernel_rfl
theorem cal68 : callable Tryz.prog 68 = true := by kernel_rfl
theorem plan40_1_1_1_1_0_1_0_0_1_1_0_0_1_0 : planOf Tryz.prog (opsC (atC Tryz.prog 40 [1, 1, 1, 1, 0, 1, 0, 0, 1, 1, 0, 0, 1, 0])) = some [.fl 0, .fl 1, .an 2 [0], .an 3 [], .fl 4, .fl 5, .fl 6, .fl 7, .fl 8, .sync] := by kernel_rfl
abbrev run_plan_quiet_post (r : (List Bool)) : SV → Mem → Prop := fun s Me => ∃ q1, s = q1 ∧ Has (fun _ => none) Me [.vec 4 1 r.length q1 (r.flatMap enc4)]

def run_plan_quiet_4 (F : Nat) (hd3 : (List S_api_Veto) → Int → Int → (List S_api_Duty) → (List S_api_Segment) → (List S_api_Veto) → (List S_api_Veto) → (List Int) → (List Int) → (List Bool) → Option ((List Bool))) : Nat → Int → Int → (List S_api_Veto) → Int → Int → (List S_api_Duty) → (List S_api_Segment) → (List S_api_Veto) → (List S_api_Veto) → (List Int) → (List Int) → (List Bool) → (List S_api_Segment) → Option ((List Bool))
 | 0, _, _, _, _, _, _, _, _, _, _, _, _, _ => none
 | N + 1, v6, v7, v23_f1, v24_f1, v25_f1, c22_0, c22_1, c22_2, c22_3, c22_4, c22_5, l33, l66 =>
  bif (decide (v7 < v6)) then
   bnd (idx l66 v7) fun x70 =>
   bnd (subP l33.length x70.From x70.To) fun l76 =>
   bnd (clrP l33 (0 + l76.1) l76.2 false) fun l78 =>
   (run_plan_quiet_4 F hd3 N) v6 (w64 (v7 + (1 : Int))) v23_f1 v24_f1 v25_f1 c22_0 c22_1 c22_2 c22_3 c22_4 c22_5 l78 l66
  else
   hd3 v23_f1 v24_f1 (w64 (v25_f1 + (1 : Int))) c22_0 c22_1 c22_2 c22_3 c22_4 c22_5 l33

theorem run_plan_quiet_4_ok (F : Nat) (hd3 : (List S_api_Veto) → Int → Int → (List S_api_Duty) → (List S_api_Segment) → (List S_api_Veto) → (List S_api_Veto) → (List Int) → (List Int) → (List Bool) → Option ((List Bool))) (hhd3 : ∀ (v23 : (List S_api_Veto)) (v24 v25 : Int) (c22_0 : (List S_api_Duty)) (c22_1 : (List S_api_Segment)) (c22_2 c22_3 : (List S_api_Veto)) (c22_4 c22_5 : (List Int)) (l33 : (List Bool)) (sv23 sc22_0 sc22_1 sc22_2 sc22_3 sc22_4 sc22_5 : SV) (b22 b36 : Pos) (s33 : SV) (Fr : Rd) (M : Mem) (r : (List Bool)) (hv23 : Slc Fr 2 (rep127 Fr) sv23 v23) (hc22_0 : Slc Fr 3 (FlatR enc43) sc22_0 c22_0) (hc22_1 : Slc Fr 2 (FlatR enc106) sc22_1 c22_1) (hc22_2 : Slc Fr 2 (rep127 Fr) sc22_2 c22_2) (hc22_3 : Slc Fr 2 (rep127 Fr) sc22_3 c22_3) (hc22_4 : Slc Fr 1 (FlatR enc3) sc22_4 c22_4) (hc22_5 : Slc Fr 1 (FlatR enc3) sc22_5 c22_5) (hH : Has Fr M [.obj b22 (.row 85 .whole [sc22_0, sc22_1, sc22_2, sc22_3, sc22_4, sc22_5]), .obj b36 (.row 48 .whole [s33]), .vec 4 1 l33.length s33 (l33.flatMap enc4)]), hd3 v23 v24 v25 c22_0 c22_1 c22_2 c22_3 c22_4 c22_5 l33 = some r → Run Tryz.prog ⟨⟨40, [], none⟩, []⟩ 41 (run_plan_quiet_post r) [(2, (.ptr b22 0)), (5, (.ptr b36 0)), (6, (.fn (.func 67) [] [(.ptr b36 0)])), (23, sv23), (24, (.int .i64 v24)), (25, (.int .i64 v25))] [codeC Tryz.prog 40 [1, 1, 1, 1, 0, 1, 0, 0], loopC Tryz.prog 40 [1, 1, 1, 1, 0, 1, 0, 0], .inBlock 0, codeC Tryz.prog 40 [1, 1, 1, 1, 1]] M) : ∀ (N : Nat), ∀ (v6 v7 : Int) (v23_f1 : (List S_api_Veto)) (v24_f1 v25_f1 : Int) (c22_0 : (List S_api_Duty)) (c22_1 : (List S_api_Segment)) (c22_2 c22_3 : (List S_api_Veto)) (c22_4 c22_5 : (List Int)) (l33 : (List Bool)) (l66 : (List S_api_Segment)) (sv23_f1 sc22_0 sc22_1 sc22_2 sc22_3 sc22_4 sc22_5 : SV) (b36 : Pos) (s33 s66 : SV) (b22 : Pos) (Fr : Rd) (M : Mem) (r : (List Bool)) (hv23_f1 : Slc Fr 2 (rep127 Fr) sv23_f1 v23_f1) (hc22_0 : Slc Fr 3 (FlatR enc43) sc22_0 c22_0) (hc22_1 : Slc Fr 2 (FlatR enc106) sc22_1 c22_1) (hc22_2 : Slc Fr 2 (rep127 Fr) sc22_2 c22_2) (hc22_3 : Slc Fr 2 (rep127 Fr) sc22_3 c22_3) (hc22_4 : Slc Fr 1 (FlatR enc3) sc22_4 c22_4) (hc22_5 : Slc Fr 1 (FlatR enc3) sc22_5 c22_5) (hH : Has Fr M [.obj b36 (.row 48 .whole [s33]), .vec 4 1 l33.length s33 (l33.flatMap enc4), .vec 106 2 l66.length s66 (l66.flatMap enc106), .obj b22 (.row 85 .whole [sc22_0, sc22_1, sc22_2, sc22_3, sc22_4, sc22_5])]), run_plan_quiet_4 F hd3 N v6 v7 v23_f1 v24_f1 v25_f1 c22_0 c22_1 c22_2 c22_3 c22_4 c22_5 l33 l66 = some r → Run Tryz.prog ⟨⟨67, [], none⟩, [.mk ⟨40, [], none⟩ 41 (treeOf [(2, (.ptr b22 0)), (5, (.ptr b36 0)), (6, (.fn (.func 67) [] [(.ptr b36 0)])), (23, sv23_f1), (24, (.int .i64 v24_f1)), (25, (.int .i64 v25_f1))]) [itemC Tryz.prog 40 [1, 1, 1, 1, 0, 1, 0, 0, 1, 1, 0, 0, 1, 1] 2, .inBlock 1, codeC Tryz.prog 40 [1, 1, 1, 1, 0, 1, 0, 0, 1, 1, 1], loopC Tryz.prog 40 [1, 1, 1, 1, 0, 1, 0, 0], .inBlock 0, codeC Tryz.prog 40 [1, 1, 1, 1, 1]]]⟩ 18 (run_plan_quiet_post r) [(1, (.ptr b36 0)), (5, s66), (6, (.int .i64 v6)), (7, (.int .i64 v7))] [codeC Tryz.prog 67 [1, 0, 0], loopC Tryz.prog 67 [1, 0, 0], .inBlock 0] M := by
 intro N
 induction N with
 | zero =>
  intro v6 v7 v23_f1 v24_f1 v25_f1 c22_0 c22_1 c22_2 c22_3 c22_4 c22_5 l33 l66 sv23_f1 sc22_0 sc22_1 sc22_2 sc22_3 sc22_4 sc22_5 b36 s33 s66 b22 Fr M r hv23_f1 hc22_0 hc22_1 hc22_2 hc22_3 hc22_4 hc22_5 hH h
  simp [run_plan_quiet_4] at h
 | succ N ih =>
  intro v6 v7 v23_f1 v24_f1 v25_f1 c22_0 c22_1 c22_2 c22_3 c22_4 c22_5 l33 l66 sv23_f1 sc22_0 sc22_1 sc22_2 sc22_3 sc22_4 sc22_5 b36 s33 s66 b22 Fr M r hv23_f1 hc22_0 hc22_1 hc22_2 hc22_3 hc22_4 hc22_5 hH h
  rw [run_plan_quiet_4] at h
  refine Run.seq (Run.region ?_)
  refine Run.opG wantS_none (ex_lss rfl rfl) rfl ?_
  refine Run.opsEnd (Run.seq ?_)
  rcases btf ((decide (v7 < v6))) with hc68 | hc68
  ·have h := bif_t hc68 h
   refine Run.condT' rfl hc68 ?_
   refine Run.skip (Run.seq (Run.block (Run.seq (Run.region ?_))))
   obtain ⟨x70, hx70, h⟩ := bnd_some h
   obtain ⟨p70, o70, hb70, hx70, he70⟩ := vec_elem (P := Tryz.prog) (t := 33) (kk := .i64) hH (i := 2) rfl hx70 els33
   refine Run.opG wantS_none (ex_elX rfl rfl hx70) rfl ?_
   refine Run.opG wantS_none (ex_loadA rfl (hH.at (enc := enc106) (a := x70) (i := 2) rfl hb70 he70 enc106_len) rdLe_rfl agg106 rfl rfl rfl) rfl ?_
   refine Run.opX wantS_none rfl (ExG.new (v := fun b => .ptr b 0) (ex_alloc zer106) hH) ?_
   rintro _ M73 ⟨b72, rfl, hH73⟩
   refine Run.opX wantS_none rfl (ExG.storeC (c' := [(.int .i64 x70.From), (.int .i64 x70.To)]) rfl rfl rfl hH73 (i := 0) rfl sz106 rfl rfl rfl rfl rfl) ?_
   rintro _ M74 ⟨rfl, (hH74 : Has Fr M74 [.obj b72 (.row 106 .whole [(.int .i64 x70.From), (.int .i64 x70.To)]), .obj b36 (.row 48 .whole [s33]), .vec 4 1 l33.length s33 (l33.flatMap enc4), .vec 106 2 l66.length s66 (l66.flatMap enc106), .obj b22 (.row 85 .whole [sc22_0, sc22_1, sc22_2, sc22_3, sc22_4, sc22_5])])⟩
   refine Run.opsEnd (Run.region ?_)
   refine Run.opG wantS_none (ex_load1 rfl (hH74.cells (i := 1) rfl 0 rfl) rdLe_rfl agg48) rfl ?_
   refine Run.opG wantS_none (ex_fieldAddr rfl off106_0) rfl ?_
   refine Run.opG wantS_none (ex_load1 rfl (hH74.cells (i := 0) rfl 0 rfl) rdLe_rfl agg3) rfl ?_
   refine Run.opG wantS_none (ex_fieldAddr rfl off106_1) rfl ?_
   refine Run.opG wantS_none (ex_load1 rfl (hH74.cells (i := 0) rfl 1 rfl) rdLe_rfl agg3) rfl ?_
   obtain ⟨l76, hl76, h⟩ := bnd_some h
   have hq76 := part_all hH74 (i := 2) rfl
   obtain ⟨s76, hx76, hp76⟩ := part_cutB (P := Tryz.prog) (t := 48) (k0 := .i64) (k1 := .i64) hq76 hl76 slk48
   refine Run.opG wantS_none (ex_slX rfl (argO_some rfl) (argO_some rfl) hx76) rfl ?_
   obtain ⟨l78, hl78, h⟩ := bnd_some h
   refine Run.opX wantS_none rfl (ExG.clearP rfl hH74 (i := 2) rfl hp76 hl78 elt48 rfl enc4_len enc4_ones) ?_
   rintro _ M79 ⟨rfl, (hH79 : Has Fr M79 [.obj b72 (.row 106 .whole [(.int .i64 x70.From), (.int .i64 x70.To)]), .obj b36 (.row 48 .whole [s33]), .vec 4 1 l78.length s33 (l78.flatMap enc4), .vec 106 2 l66.length s66 (l66.flatMap enc106), .obj b22 (.row 85 .whole [sc22_0, sc22_1, sc22_2, sc22_3, sc22_4, sc22_5])])⟩
   refine Run.opsEnd (Run.inBlock (Run.region ?_))
   refine Run.opG wantS_none (ex_add rfl rfl) rfl ?_
   refine Run.opG wantS_none (ex_move rfl) rfl ?_
   refine Run.opsEnd (Run.inLoop ?_)
   exact Run.low (.cons (fle_pick [2, 5, 6, 23, 24, 25] rfl) .nil) (Run.pick [1, 5, 6, 7] (ih v6 (w64 (v7 + (1 : Int))) v23_f1 v24_f1 v25_f1 c22_0 c22_1 c22_2 c22_3 c22_4 c22_5 l78 l66 sv23_f1 sc22_0 sc22_1 sc22_2 sc22_3 sc22_4 sc22_5 b36 s33 s66 b22 _ _ _ hv23_f1 hc22_0 hc22_1 hc22_2 hc22_3 hc22_4 hc22_5 (hH79.pick [1, 2, 3, 4] rfl rfl) h))
  ·have h := bif_f hc68 h
   refine Run.condF' rfl hc68 ?_
   refine Run.exit rfl ?_
   refine Run.fallTo Tryz.func67 rfl res_nil rfl ?_
   refine Run.opsEnd (Run.inBlock (Run.region ?_))
   refine Run.opG wantS_none (ex_add rfl rfl) rfl ?_
   refine Run.opG wantS_none (ex_move rfl) rfl ?_
   refine Run.opsEnd (Run.inLoop ?_)
   exact Run.pick [2, 5, 6, 23, 24, 25] (hhd3 v23_f1 v24_f1 (w64 (v25_f1 + (1 : Int))) c22_0 c22_1 c22_2 c22_3 c22_4 c22_5 l33 sv23_f1 sc22_0 sc22_1 sc22_2 sc22_3 sc22_4 sc22_5 b22 b36 s33 _ _ _ hv23_f1 hc22_0 hc22_1 hc22_2 hc22_3 hc22_4 hc22_5 (hH.pick [3, 0, 1] rfl rfl) h)

def run_plan_quiet_3 (F : Nat) : Nat → (List S_api_Veto) → Int → Int → (List S_api_Duty) → (List S_api_Segment) → (List S_api_Veto) → (List S_api_Veto) → (List Int) → (List Int) → (List Bool) → Option ((List Bool))
 | 0, _, _, _, _, _, _, _, _, _, _ => none
 | N + 1, v23, v24, v25, c22_0, c22_1, c22_2, c22_3, c22_4, c22_5, l33 =>
  bif (decide (v25 < v24)) then
   bnd (idx v23 v25) fun x58 =>
   bnd (run_plan_span F (S_run_plan.mk c22_0 c22_1 (S__2_api_Veto.mk c22_2 c22_3) (S__2_int.mk c22_4 c22_5))) fun r63 =>
   bnd (glitch_Held F x58 r63) fun r65 =>
   run_plan_quiet_4 F (run_plan_quiet_3 F N) F (r65.1.length : Int) (0 : Int) v23 v24 v25 c22_0 c22_1 c22_2 c22_3 c22_4 c22_5 l33 r65.1
  else
   some l33

theorem run_plan_quiet_3_ok (F : Nat) : ∀ (N : Nat), ∀ (v23 : (List S_api_Veto)) (v24 v25 : Int) (c22_0 : (List S_api_Duty)) (c22_1 : (List S_api_Segment)) (c22_2 c22_3 : (List S_api_Veto)) (c22_4 c22_5 : (List Int)) (l33 : (List Bool)) (sv23 sc22_0 sc22_1 sc22_2 sc22_3 sc22_4 sc22_5 : SV) (b22 b36 : Pos) (s33 : SV) (Fr : Rd) (M : Mem) (r : (List Bool)) (hv23 : Slc Fr 2 (rep127 Fr) sv23 v23) (hc22_0 : Slc Fr 3 (FlatR enc43) sc22_0 c22_0) (hc22_1 : Slc Fr 2 (FlatR enc106) sc22_1 c22_1) (hc22_2 : Slc Fr 2 (rep127 Fr) sc22_2 c22_2) (hc22_3 : Slc Fr 2 (rep127 Fr) sc22_3 c22_3) (hc22_4 : Slc Fr 1 (FlatR enc3) sc22_4 c22_4) (hc22_5 : Slc Fr 1 (FlatR enc3) sc22_5 c22_5) (hH : Has Fr M [.obj b22 (.row 85 .whole [sc22_0, sc22_1, sc22_2, sc22_3, sc22_4, sc22_5]), .obj b36 (.row 48 .whole [s33]), .vec 4 1 l33.length s33 (l33.flatMap enc4)]), run_plan_quiet_3 F N v23 v24 v25 c22_0 c22_1 c22_2 c22_3 c22_4 c22_5 l33 = some r → Run Tryz.prog ⟨⟨40, [], none⟩, []⟩ 41 (run_plan_quiet_post r) [(2, (.ptr b22 0)), (5, (.ptr b36 0)), (6, (.fn (.func 67) [] [(.ptr b36 0)])), (23, sv23), (24, (.int .i64 v24)), (25, (.int .i64 v25))] [codeC Tryz.prog 40 [1, 1, 1, 1, 0, 1, 0, 0], loopC Tryz.prog 40 [1, 1, 1, 1, 0, 1, 0, 0], .inBlock 0, codeC Tryz.prog 40 [1, 1, 1, 1, 1]] M := by
 intro N
 induction N with
 | zero =>
  intro v23 v24 v25 c22_0 c22_1 c22_2 c22_3 c22_4 c22_5 l33 sv23 sc22_0 sc22_1 sc22_2 sc22_3 sc22_4 sc22_5 b22 b36 s33 Fr M r hv23 hc22_0 hc22_1 hc22_2 hc22_3 hc22_4 hc22_5 hH h
  simp [run_plan_quiet_3] at h
 | succ N ih =>
  intro v23 v24 v25 c22_0 c22_1 c22_2 c22_3 c22_4 c22_5 l33 sv23 sc22_0 sc22_1 sc22_2 sc22_3 sc22_4 sc22_5 b22 b36 s33 Fr M r hv23 hc22_0 hc22_1 hc22_2 hc22_3 hc22_4 hc22_5 hH h
  rw [run_plan_quiet_3] at h
  refine Run.seq (Run.region ?_)
  refine Run.opG wantS_none (ex_lss rfl rfl) rfl ?_
  refine Run.opsEnd (Run.seq ?_)
  rcases btf ((decide (v25 < v24))) with hc56 | hc56
  ·have h := bif_t hc56 h
   refine Run.condT' rfl hc56 ?_
   refine Run.skip (Run.seq (Run.block (Run.seq (Run.region ?_))))
   obtain ⟨x58, hx58, h⟩ := bnd_some h
   obtain ⟨p58, o58, _, hx58, hp58, ⟨q58_0, rfl, hq58_0⟩⟩ := sl_elem (P := Tryz.prog) (t := 34) (kk := .i64) hv23 hx58 els34
   refine Run.opG wantS_none (ex_elX rfl rfl hx58) rfl ?_
   refine Run.opG wantS_none (ex_loadA rfl (hH.ptrF hp58) rdLe_rfl agg127 rfl rfl rfl) rfl ?_
   refine Run.opX wantS_none rfl (ExG.new (v := fun b => .ptr b 0) (ex_alloc zer127) hH) ?_
   rintro _ M61 ⟨b60, rfl, hH61⟩
   refine Run.opX wantS_none rfl (ExG.storeC (c' := [(.str x58.Name), q58_0]) rfl rfl rfl hH61 (i := 0) rfl sz127 rfl rfl rfl (ones_cons rfl (ones_cons (slc_one hq58_0) ones_nil)) rfl) ?_
   rintro _ M62 ⟨rfl, (hH62 : Has Fr M62 [.obj b60 (.row 127 .whole [(.str x58.Name), q58_0]), .obj b22 (.row 85 .whole [sc22_0, sc22_1, sc22_2, sc22_3, sc22_4, sc22_5]), .obj b36 (.row 48 .whole [s33]), .vec 4 1 l33.length s33 (l33.flatMap enc4)])⟩
   refine Run.opsEnd (Run.seq ?_)
   refine Run.drawG plan40_1_1_1_1_0_1_0_0_1_1_0_0_1_0 ?_
   refine DrawG.fl rfl (ev_ex wantS_none (ex_loadA rfl (hH62.cells (i := 0) rfl 0 rfl) rdLe_rfl agg127 rfl rfl rfl)) rfl ?_
   refine DrawG.fl rfl (ev_ex wantS_none (ex_loadA rfl (hH62.cells (i := 1) rfl 0 rfl) rdLe_rfl agg85 rfl rfl rfl)) rfl ?_
   obtain ⟨r63, hr63, h⟩ := bnd_some h
   refine DrawG.callP rfl wantS_none (ex_call rfl mkk37 cal37) rfl (run_plan_span_ok F (S_run_plan.mk c22_0 c22_1 (S__2_api_Veto.mk c22_2 c22_3) (S__2_int.mk c22_4 c22_5)) sc22_0 sc22_1 sc22_2 sc22_3 sc22_4 sc22_5 _ _ (hH62.slcF hc22_0) (hH62.slcF hc22_1) ((hc22_2).mono hH62.le (fun _ _ => rep127_mo hH62.le)) ((hc22_3).mono hH62.le (fun _ _ => rep127_mo hH62.le)) (hH62.slcF hc22_4) (hH62.slcF hc22_5) hr63) (st_cons rfl (ev_ex wantS_none (ex_loadA rfl (hH62.cells (i := 0) rfl 0 rfl) rdLe_rfl agg127 rfl rfl rfl)) rfl rfl (self_agg (self_cons rfl (self_cons (slc_self hq58_0) self_nil))) st_nil) ?_
   obtain ⟨r65, hr65, h⟩ := bnd_some h
   refine DrawG.call rfl wantS_none (ex_call rfl mkk68 cal68) rfl (glitch_Held_ok F x58 r63 q58_0 _ _ (hH62.slcF hq58_0) hr65) ?_
   rintro _ M67 ⟨s65_0, rfl, hN65⟩
   have hH67 : Has Fr M67 [.vec 106 2 r65.1.length s65_0 (r65.1.flatMap enc106), .obj b60 (.row 127 .whole [(.str x58.Name), q58_0]), .obj b22 (.row 85 .whole [sc22_0, sc22_1, sc22_2, sc22_3, sc22_4, sc22_5]), .obj b36 (.row 48 .whole [s33]), .vec 4 1 l33.length s33 (l33.flatMap enc4)] := hN65.1 _ _ hH62
   refine ⟨st_nil, ?_⟩
   refine DrawG.fl rfl (ev_ex wantS_none (ex_move rfl)) rfl ?_
   refine DrawG.fl rfl (ev_ex wantS_none (ex_extract rfl rfl)) rfl ?_
   refine DrawG.fl rfl (ev_ex wantS_none (ex_extract rfl rfl)) rfl ?_
   refine DrawG.fl rfl (ev_ex wantS_none (ex_assign rfl)) rfl ?_
   refine DrawG.fl rfl (ev_ex wantS_none (ex_assign rfl)) rfl ?_
   refine DrawG.sync ?_
   refine DrawG.nil ?_
   refine Run.region ?_
   refine Run.opG wantS_none (ex_move rfl) rfl ?_
   refine Run.opG wantS_none (ex_move rfl) rfl ?_
   refine Run.enter wantS_none (ex_closure rfl rfl mkk67 cal67) Tryz.func67 rfl rfl ?_
   refine Run.seq (Run.region ?_)
   refine Run.opG wantS_none (ex_move rfl) rfl ?_
   refine Run.opG wantS_none (ex_len' rfl (hH67.slc (i := 0) rfl enc106_len) lenk33) rfl ?_
   refine Run.opG wantS_none (ex_move rfl) rfl ?_
   refine Run.opsEnd (Run.block (Run.loop ?_))
   exact Run.low (.cons (fle_pick [2, 5, 6, 23, 24, 25] rfl) .nil) (Run.pick [1, 5, 6, 7] (run_plan_quiet_4_ok F (run_plan_quiet_3 F N) ih F (r65.1.length : Int) (0 : Int) v23 v24 v25 c22_0 c22_1 c22_2 c22_3 c22_4 c22_5 l33 r65.1 sv23 sc22_0 sc22_1 sc22_2 sc22_3 sc22_4 sc22_5 b36 s33 s65_0 b22 _ _ _ hv23 hc22_0 hc22_1 hc22_2 hc22_3 hc22_4 hc22_5 (hH67.pick [3, 4, 0, 2] rfl rfl) h))
  ·have h := bif_f hc56 h
   refine Run.condF' rfl hc56 ?_
   refine Run.exit rfl (Run.seq (Run.region ?_))
   refine Run.opG wantS_none (ex_load1 rfl (hH.cells (i := 1) rfl 0 rfl) rdLe_rfl agg48) rfl ?_
   refine Run.opG wantS_none (ex_assign rfl) rfl ?_
   refine Run.opsEnd ?_
   cases h
   exact Run.ret Tryz.func40 rfl (res_tmp rfl res_nil) ⟨_, rfl, (hH.pick [2] rfl rfl).upF (none_le _)⟩

def run_plan_quiet_2 (F : Nat) (c22_0 : (List S_api_Duty)) (c22_1 : (List S_api_Segment)) (c22_2 c22_3 : (List S_api_Veto)) (c22_4 c22_5 : (List Int)) (l33 : (List Bool)) : Option ((List Bool)) :=
 run_plan_quiet_3 F F c22_2 (c22_2.length : Int) (0 : Int) c22_0 c22_1 c22_2 c22_3 c22_4 c22_5 l33

theorem run_plan_quiet_2_ok (F : Nat) : ∀ (c22_0 : (List S_api_Duty)) (c22_1 : (List S_api_Segment)) (c22_2 c22_3 : (List S_api_Veto)) (c22_4 c22_5 : (List Int)) (l33 : (List Bool)) (sc22_0 sc22_1 sc22_2 sc22_3 sc22_4 sc22_5 : SV) (b22 b36 : Pos) (s33 : SV) (Fr : Rd) (M : Mem) (r : (List Bool)) (hc22_0 : Slc Fr 3 (FlatR enc43) sc22_0 c22_0) (hc22_1 : Slc Fr 2 (FlatR enc106) sc22_1 c22_1) (hc22_2 : Slc Fr 2 (rep127 Fr) sc22_2 c22_2) (hc22_3 : Slc Fr 2 (rep127 Fr) sc22_3 c22_3) (hc22_4 : Slc Fr 1 (FlatR enc3) sc22_4 c22_4) (hc22_5 : Slc Fr 1 (FlatR enc3) sc22_5 c22_5) (hH : Has Fr M [.obj b22 (.row 85 .whole [sc22_0, sc22_1, sc22_2, sc22_3, sc22_4, sc22_5]), .obj b36 (.row 48 .whole [s33]), .vec 4 1 l33.length s33 (l33.flatMap enc4)]), run_plan_quiet_2 F c22_0 c22_1 c22_2 c22_3 c22_4 c22_5 l33 = some r → Run Tryz.prog ⟨⟨40, [], none⟩, []⟩ 41 (run_plan_quiet_post r) [(2, (.ptr b22 0)), (5, (.ptr b36 0)), (6, (.fn (.func 67) [] [(.ptr b36 0)])), (22, (.ptr b22 2))] [itemC Tryz.prog 40 [1, 1, 1, 1, 0, 0] 3, codeC Tryz.prog 40 [1, 1, 1, 1, 0, 1], codeC Tryz.prog 40 [1, 1, 1, 1, 1]] M := by
 intro c22_0 c22_1 c22_2 c22_3 c22_4 c22_5 l33 sc22_0 sc22_1 sc22_2 sc22_3 sc22_4 sc22_5 b22 b36 s33 Fr M r hc22_0 hc22_1 hc22_2 hc22_3 hc22_4 hc22_5 hH h
 rw [run_plan_quiet_2] at h
 refine Run.opG wantS_none (ex_load1 rfl (hH.cells (i := 0) rfl 2 rfl) rdLe_rfl agg34) rfl ?_
 refine Run.opG wantS_none (ex_len' rfl hc22_2 lenk34) rfl ?_
 refine Run.opG wantS_none (ex_move rfl) rfl ?_
 refine Run.opsEnd (Run.block (Run.loop ?_))
 exact Run.pick [2, 5, 6, 23, 24, 25] (run_plan_quiet_3_ok F F c22_2 (c22_2.length : Int) (0 : Int) c22_0 c22_1 c22_2 c22_3 c22_4 c22_5 l33 sc22_2 sc22_0 sc22_1 sc22_2 sc22_3 sc22_4 sc22_5 b22 b36 s33 _ _ _ hc22_2 hc22_0 hc22_1 hc22_2 hc22_3 hc22_4 hc22_5 hH h)

def run_plan_quiet_5 (F : Nat) (c22_0 : (List S_api_Duty)) (c22_1 : (List S_api_Segment)) (c22_2 c22_3 : (List S_api_Veto)) (c22_4 c22_5 : (List Int)) (l33 : (List Bool)) : Option ((List Bool)) :=
 run_plan_quiet_3 F F c22_3 (c22_3.length : Int) (0 : Int) c22_0 c22_1 c22_2 c22_3 c22_4 c22_5 l33

theorem run_plan_quiet_5_ok (F : Nat) : ∀ (c22_0 : (List S_api_Duty)) (c22_1 : (List S_api_Segment)) (c22_2 c22_3 : (List S_api_Veto)) (c22_4 c22_5 : (List Int)) (l33 : (List Bool)) (sc22_0 sc22_1 sc22_2 sc22_3 sc22_4 sc22_5 : SV) (b22 b36 : Pos) (s33 : SV) (Fr : Rd) (M : Mem) (r : (List Bool)) (hc22_0 : Slc Fr 3 (FlatR enc43) sc22_0 c22_0) (hc22_1 : Slc Fr 2 (FlatR enc106) sc22_1 c22_1) (hc22_2 : Slc Fr 2 (rep127 Fr) sc22_2 c22_2) (hc22_3 : Slc Fr 2 (rep127 Fr) sc22_3 c22_3) (hc22_4 : Slc Fr 1 (FlatR enc3) sc22_4 c22_4) (hc22_5 : Slc Fr 1 (FlatR enc3) sc22_5 c22_5) (hH : Has Fr M [.obj b22 (.row 85 .whole [sc22_0, sc22_1, sc22_2, sc22_3, sc22_4, sc22_5]), .obj b36 (.row 48 .whole [s33]), .vec 4 1 l33.length s33 (l33.flatMap enc4)]), run_plan_quiet_5 F c22_0 c22_1 c22_2 c22_3 c22_4 c22_5 l33 = some r → Run Tryz.prog ⟨⟨40, [], none⟩, []⟩ 41 (run_plan_quiet_post r) [(2, (.ptr b22 0)), (5, (.ptr b36 0)), (6, (.fn (.func 67) [] [(.ptr b36 0)])), (22, (.ptr b22 3))] [itemC Tryz.prog 40 [1, 1, 1, 1, 0, 0] 3, codeC Tryz.prog 40 [1, 1, 1, 1, 0, 1], codeC Tryz.prog 40 [1, 1, 1, 1, 1]] M := by
 intro c22_0 c22_1 c22_2 c22_3 c22_4 c22_5 l33 sc22_0 sc22_1 sc22_2 sc22_3 sc22_4 sc22_5 b22 b36 s33 Fr M r hc22_0 hc22_1 hc22_2 hc22_3 hc22_4 hc22_5 hH h
 rw [run_plan_quiet_5] at h
 refine Run.opG wantS_none (ex_load1 rfl (hH.cells (i := 0) rfl 3 rfl) rdLe_rfl agg34) rfl ?_
 refine Run.opG wantS_none (ex_len' rfl hc22_3 lenk34) rfl ?_
 refine Run.opG wantS_none (ex_move rfl) rfl ?_
 refine Run.opsEnd (Run.block (Run.loop ?_))
 exact Run.pick [2, 5, 6, 23, 24, 25] (run_plan_quiet_3_ok F F c22_3 (c22_3.length : Int) (0 : Int) c22_0 c22_1 c22_2 c22_3 c22_4 c22_5 l33 sc22_3 sc22_0 sc22_1 sc22_2 sc22_3 sc22_4 sc22_5 b22 b36 s33 _ _ _ hc22_3 hc22_0 hc22_1 hc22_2 hc22_3 hc22_4 hc22_5 hH h)

def run_plan_quiet_1 (F : Nat) : Nat → (List S_api_Segment) → Int → Int → Int → (List S_api_Duty) → (List S_api_Segment) → (List S_api_Veto) → (List S_api_Veto) → (List Int) → (List Int) → (List Bool) → Option ((List Bool))
 | 0, _, _, _, _, _, _, _, _, _, _, _ => none
 | N + 1, v5, v6, v7, v1_f1, c22_0, c22_1, c22_2, c22_3, c22_4, c22_5, l33 =>
  bif (decide (v7 < v6)) then
   bnd (idx v5 v7) fun x41 =>
   bnd (subP l33.length x41.From x41.To) fun l47 =>
   bnd (clrP l33 (0 + l47.1) l47.2 false) fun l49 =>
   (run_plan_quiet_1 F N) v5 v6 (w64 (v7 + (1 : Int))) v1_f1 c22_0 c22_1 c22_2 c22_3 c22_4 c22_5 l49
  else
   bif (v1_f1 == (0 : Int)) then
    run_plan_quiet_2 F c22_0 c22_1 c22_2 c22_3 c22_4 c22_5 l33
   else
    bif (v1_f1 == (1 : Int)) then
     run_plan_quiet_5 F c22_0 c22_1 c22_2 c22_3 c22_4 c22_5 l33
    else
     none

theorem run_plan_quiet_1_ok (F : Nat) : ∀ (N : Nat), ∀ (v5 : (List S_api_Segment)) (v6 v7 v1_f1 : Int) (c22_0 : (List S_api_Duty)) (c22_1 : (List S_api_Segment)) (c22_2 c22_3 : (List S_api_Veto)) (c22_4 c22_5 : (List Int)) (l33 : (List Bool)) (sv5 sc22_0 sc22_1 sc22_2 sc22_3 sc22_4 sc22_5 : SV) (b36 : Pos) (s33 : SV) (b22 : Pos) (Fr : Rd) (M : Mem) (r : (List Bool)) (hv5 : Slc Fr 2 (FlatR enc106) sv5 v5) (hc22_0 : Slc Fr 3 (FlatR enc43) sc22_0 c22_0) (hc22_1 : Slc Fr 2 (FlatR enc106) sc22_1 c22_1) (hc22_2 : Slc Fr 2 (rep127 Fr) sc22_2 c22_2) (hc22_3 : Slc Fr 2 (rep127 Fr) sc22_3 c22_3) (hc22_4 : Slc Fr 1 (FlatR enc3) sc22_4 c22_4) (hc22_5 : Slc Fr 1 (FlatR enc3) sc22_5 c22_5) (hH : Has Fr M [.obj b36 (.row 48 .whole [s33]), .vec 4 1 l33.length s33 (l33.flatMap enc4), .obj b22 (.row 85 .whole [sc22_0, sc22_1, sc22_2, sc22_3, sc22_4, sc22_5])]), run_plan_quiet_1 F N v5 v6 v7 v1_f1 c22_0 c22_1 c22_2 c22_3 c22_4 c22_5 l33 = some r → Run Tryz.prog ⟨⟨67, [], none⟩, [.mk ⟨40, [], none⟩ 41 (treeOf [(1, (.int .i64 v1_f1)), (2, (.ptr b22 0)), (5, (.ptr b36 0)), (6, (.fn (.func 67) [] [(.ptr b36 0)]))]) [itemC Tryz.prog 40 [1, 1, 1, 0] 3, codeC Tryz.prog 40 [1, 1, 1, 1]]]⟩ 18 (run_plan_quiet_post r) [(1, (.ptr b36 0)), (5, sv5), (6, (.int .i64 v6)), (7, (.int .i64 v7))] [codeC Tryz.prog 67 [1, 0, 0], loopC Tryz.prog 67 [1, 0, 0], .inBlock 0] M := by
 intro N
 induction N with
 | zero =>
  intro v5 v6 v7 v1_f1 c22_0 c22_1 c22_2 c22_3 c22_4 c22_5 l33 sv5 sc22_0 sc22_1 sc22_2 sc22_3 sc22_4 sc22_5 b36 s33 b22 Fr M r hv5 hc22_0 hc22_1 hc22_2 hc22_3 hc22_4 hc22_5 hH h
  simp [run_plan_quiet_1] at h
 | succ N ih =>
  intro v5 v6 v7 v1_f1 c22_0 c22_1 c22_2 c22_3 c22_4 c22_5 l33 sv5 sc22_0 sc22_1 sc22_2 sc22_3 sc22_4 sc22_5 b36 s33 b22 Fr M r hv5 hc22_0 hc22_1 hc22_2 hc22_3 hc22_4 hc22_5 hH h
  rw [run_plan_quiet_1] at h
  refine Run.seq (Run.region ?_)
  refine Run.opG wantS_none (ex_lss rfl rfl) rfl ?_
  refine Run.opsEnd (Run.seq ?_)
  rcases btf ((decide (v7 < v6))) with hc39 | hc39
  ·have h := bif_t hc39 h
   refine Run.condT' rfl hc39 ?_
   refine Run.skip (Run.seq (Run.block (Run.seq (Run.region ?_))))
   obtain ⟨x41, hx41, h⟩ := bnd_some h
   obtain ⟨p41, o41, _, hx41, hp41, rfl⟩ := sl_elem (P := Tryz.prog) (t := 33) (kk := .i64) hv5 hx41 els33
   refine Run.opG wantS_none (ex_elX rfl rfl hx41) rfl ?_
   refine Run.opG wantS_none (ex_loadA rfl (hH.ptrF hp41) rdLe_rfl agg106 rfl rfl rfl) rfl ?_
   refine Run.opX wantS_none rfl (ExG.new (v := fun b => .ptr b 0) (ex_alloc zer106) hH) ?_
   rintro _ M44 ⟨b43, rfl, hH44⟩
   refine Run.opX wantS_none rfl (ExG.storeC (c' := [(.int .i64 x41.From), (.int .i64 x41.To)]) rfl rfl rfl hH44 (i := 0) rfl sz106 rfl rfl rfl rfl rfl) ?_
   rintro _ M45 ⟨rfl, (hH45 : Has Fr M45 [.obj b43 (.row 106 .whole [(.int .i64 x41.From), (.int .i64 x41.To)]), .obj b36 (.row 48 .whole [s33]), .vec 4 1 l33.length s33 (l33.flatMap enc4), .obj b22 (.row 85 .whole [sc22_0, sc22_1, sc22_2, sc22_3, sc22_4, sc22_5])])⟩
   refine Run.opsEnd (Run.region ?_)
   refine Run.opG wantS_none (ex_load1 rfl (hH45.cells (i := 1) rfl 0 rfl) rdLe_rfl agg48) rfl ?_
   refine Run.opG wantS_none (ex_fieldAddr rfl off106_0) rfl ?_
   refine Run.opG wantS_none (ex_load1 rfl (hH45.cells (i := 0) rfl 0 rfl) rdLe_rfl agg3) rfl ?_
   refine Run.opG wantS_none (ex_fieldAddr rfl off106_1) rfl ?_
   refine Run.opG wantS_none (ex_load1 rfl (hH45.cells (i := 0) rfl 1 rfl) rdLe_rfl agg3) rfl ?_
   obtain ⟨l47, hl47, h⟩ := bnd_some h
   have hq47 := part_all hH45 (i := 2) rfl
   obtain ⟨s47, hx47, hp47⟩ := part_cutB (P := Tryz.prog) (t := 48) (k0 := .i64) (k1 := .i64) hq47 hl47 slk48
   refine Run.opG wantS_none (ex_slX rfl (argO_some rfl) (argO_some rfl) hx47) rfl ?_
   obtain ⟨l49, hl49, h⟩ := bnd_some h
   refine Run.opX wantS_none rfl (ExG.clearP rfl hH45 (i := 2) rfl hp47 hl49 elt48 rfl enc4_len enc4_ones) ?_
   rintro _ M50 ⟨rfl, (hH50 : Has Fr M50 [.obj b43 (.row 106 .whole [(.int .i64 x41.From), (.int .i64 x41.To)]), .obj b36 (.row 48 .whole [s33]), .vec 4 1 l49.length s33 (l49.flatMap enc4), .obj b22 (.row 85 .whole [sc22_0, sc22_1, sc22_2, sc22_3, sc22_4, sc22_5])])⟩
   refine Run.opsEnd (Run.inBlock (Run.region ?_))
   refine Run.opG wantS_none (ex_add rfl rfl) rfl ?_
   refine Run.opG wantS_none (ex_move rfl) rfl ?_
   refine Run.opsEnd (Run.inLoop ?_)
   exact Run.low (.cons (fle_pick [1, 2, 5, 6] rfl) .nil) (Run.pick [1, 5, 6, 7] (ih v5 v6 (w64 (v7 + (1 : Int))) v1_f1 c22_0 c22_1 c22_2 c22_3 c22_4 c22_5 l49 sv5 sc22_0 sc22_1 sc22_2 sc22_3 sc22_4 sc22_5 b36 s33 b22 _ _ _ hv5 hc22_0 hc22_1 hc22_2 hc22_3 hc22_4 hc22_5 (hH50.pick [1, 2, 3] rfl rfl) h))
  ·have h := bif_f hc39 h
   refine Run.condF' rfl hc39 ?_
   refine Run.exit rfl ?_
   refine Run.fallTo Tryz.func67 rfl res_nil rfl ?_
   refine Run.opsEnd (Run.seq (Run.seq (Run.region ?_)))
   refine Run.opG wantS_none (ex_move rfl) rfl ?_
   refine Run.opG wantS_none (ex_fieldAddr rfl off85_2) rfl ?_
   rcases btf ((v1_f1 == (0 : Int))) with hc53 | hc53
   ·have h := bif_t hc53 h
    refine Run.opG wantS_none (ex_elX rfl rfl (arr_place (j := 0) (natIn_beq hc53 rfl rfl) els35)) rfl ?_
    exact Run.pick [2, 5, 6, 22] (run_plan_quiet_2_ok F c22_0 c22_1 c22_2 c22_3 c22_4 c22_5 l33 sc22_0 sc22_1 sc22_2 sc22_3 sc22_4 sc22_5 b22 b36 s33 _ _ _ hc22_0 hc22_1 hc22_2 hc22_3 hc22_4 hc22_5 (hH.pick [2, 0, 1] rfl rfl) h)
   ·have h := bif_f hc53 h
    rcases btf ((v1_f1 == (1 : Int))) with hc82 | hc82
    ·have h := bif_t hc82 h
     refine Run.opG wantS_none (ex_elX rfl rfl (arr_place (j := 1) (natIn_beq hc82 rfl rfl) els35)) rfl ?_
     exact Run.pick [2, 5, 6, 22] (run_plan_quiet_5_ok F c22_0 c22_1 c22_2 c22_3 c22_4 c22_5 l33 sc22_0 sc22_1 sc22_2 sc22_3 sc22_4 sc22_5 b22 b36 s33 _ _ _ hc22_0 hc22_1 hc22_2 hc22_3 hc22_4 hc22_5 (hH.pick [2, 0, 1] rfl rfl) h)
    ·have h := bif_f hc82 h
     cases h

def run_plan_quiet (F : Nat) (a0 : S_run_plan) (a1 : Int) : Option ((List Bool)) :=
 bnd (run_plan_span F a0) fun r28 =>
 bnd (slices_Repeat F ([true] : List Bool) r28) fun r32 =>
 run_plan_quiet_1 F F a0.work (a0.work.length : Int) (0 : Int) a1 a0.duties a0.work a0.vetoes.e0 a0.vetoes.e1 a0.data.e0 a0.data.e1 r32

theorem run_plan_quiet_ok (F : Nat) (a0 : S_run_plan) (a1 : Int) (s0 s1 s2 s3 s4 s5 : SV) (r : (List Bool)) (M : Mem) (hs0 : Slc (rd M) 3 (FlatR enc43) s0 a0.duties) (hs1 : Slc (rd M) 2 (FlatR enc106) s1 a0.work) (hs2 : Slc (rd M) 2 (rep127 (rd M)) s2 a0.vetoes.e0) (hs3 : Slc (rd M) 2 (rep127 (rd M)) s3 a0.vetoes.e1) (hs4 : Slc (rd M) 1 (FlatR enc3) s4 a0.data.e0) (hs5 : Slc (rd M) 1 (FlatR enc3) s5 a0.data.e1) (h : run_plan_quiet F a0 a1 = some r) : CallsM Tryz.prog 40 [(.agg [s0, s1, s2, s3, s4, s5]), (.int .i64 a1)] M (fun s M' => ∃ q1, s = q1 ∧ New M M' [.vec 4 1 r.length q1 (r.flatMap enc4)]) := by
 refine CallsM.fresh (Q := run_plan_quiet_post r) Tryz.func40 rfl rfl ?_ (by rintro s Me ⟨q1, rfl, hx⟩ ha hw; exact ⟨_, rfl, New.of rfl hx ha hw⟩)
 rw [run_plan_quiet] at h
 replace hs0 := hs0.mono (rdLe_frozen M) (fun _ _ h => h)
 replace hs1 := hs1.mono (rdLe_frozen M) (fun _ _ h => h)
 replace hs2 := hs2.mono (rdLe_frozen M) (fun _ _ => rep127_mo (rdLe_frozen M))
 replace hs3 := hs3.mono (rdLe_frozen M) (fun _ _ => rep127_mo (rdLe_frozen M))
 replace hs4 := hs4.mono (rdLe_frozen M) (fun _ _ h => h)
 replace hs5 := hs5.mono (rdLe_frozen M) (fun _ _ h => h)
 have hH := Has.nil (frozen M)
 refine Run.seq (Run.region ?_)
 refine Run.opX wantS_none rfl (ExG.box rfl rfl hH) ?_
 rintro _ M23 ⟨b22, rfl, hH23⟩
 refine Run.opG wantS_none (ex_assign rfl) rfl ?_
 refine Run.opsEnd (Run.seq (Run.region ?_))
 refine Run.opX wantS_none rfl (ExG.built (enc := enc4) (l := ([true] : List Bool)) (z := 1) rfl elt48 rfl rfl rfl enc4_len hH23) ?_
 rintro s25 M26 (hH26 : Has (ro (frozen M)) M26 [.vec 4 1 ([true] : List Bool).length s25 (([true] : List Bool).flatMap enc4), .obj b22 (.row 85 .whole [s0, s1, s2, s3, s4, s5])])
 refine Run.opG wantS_none (ex_loadA rfl (hH26.cells (i := 1) rfl 0 rfl) rdLe_rfl agg85 rfl rfl rfl) rfl ?_
 obtain ⟨r28, hr28, h⟩ := bnd_some h
 refine Run.callP wantS_none (ex_call rfl mkk37 cal37) rfl (run_plan_span_ok F a0 s0 s1 s2 s3 s4 s5 _ _ (hH26.slcF hs0) (hH26.slcF hs1) ((hs2).mono hH26.le (fun _ _ => rep127_mo hH26.le)) ((hs3).mono hH26.le (fun _ _ => rep127_mo hH26.le)) (hH26.slcF hs4) (hH26.slcF hs5) hr28) ?_
 obtain ⟨r32, hr32, h⟩ := bnd_some h
 refine Run.callX wantS_none (ex_call rfl mkk66 cal66) rfl (slices_Repeat_ok F ([true] : List Bool) r28 s25 _ _ (hH26.slc (i := 0) rfl enc4_len) hr32) ?_
 rintro s32_0 M34 ⟨_, rfl, hN32⟩
 have hH34 : Has (ro (frozen M)) M34 [.vec 4 1 r32.length s32_0 (r32.flatMap enc4), .vec 4 1 ([true] : List Bool).length s25 (([true] : List Bool).flatMap enc4), .obj b22 (.row 85 .whole [s0, s1, s2, s3, s4, s5])] := hN32.1 _ _ hH26
 refine Run.opX wantS_none rfl (ExG.new (v := fun b => .ptr b 0) (ex_alloc zer48) hH34) ?_
 rintro _ M37 ⟨b36, rfl, hH37⟩
 refine Run.opX wantS_none rfl (ExG.storeC (c' := [s32_0]) rfl rfl (cells_one (vec_one hH37 (i := 1) rfl)) hH37 (i := 0) rfl sz48 rfl rfl rfl (ones_cons (vec_one hH37 (i := 1) rfl) ones_nil) rfl) ?_
 rintro _ M38 ⟨rfl, (hH38 : Has (ro (frozen M)) M38 [.obj b36 (.row 48 .whole [s32_0]), .vec 4 1 r32.length s32_0 (r32.flatMap enc4), .vec 4 1 ([true] : List Bool).length s25 (([true] : List Bool).flatMap enc4), .obj b22 (.row 85 .whole [s0, s1, s2, s3, s4, s5])])⟩
 refine Run.opsEnd (Run.seq (Run.region ?_))
 refine Run.opG wantS_none (ex_makeFunc rfl rfl) rfl ?_
 refine Run.opG wantS_none (ex_assign rfl) rfl ?_
 refine Run.opsEnd (Run.seq (Run.region ?_))
 refine Run.opG wantS_none (ex_move rfl) rfl ?_
 refine Run.opG wantS_none (ex_fieldAddr rfl off85_1) rfl ?_
 refine Run.opG wantS_none (ex_load1 rfl (hH38.cells (i := 3) rfl 1 rfl) rdLe_rfl agg33) rfl ?_
 refine Run.enter wantS_none (ex_closure rfl rfl mkk67 cal67) Tryz.func67 rfl rfl ?_
 refine Run.seq (Run.region ?_)
 refine Run.opG wantS_none (ex_move rfl) rfl ?_
 refine Run.opG wantS_none (ex_len' rfl hs1 lenk33) rfl ?_
 refine Run.opG wantS_none (ex_move rfl) rfl ?_
 refine Run.opsEnd (Run.block (Run.loop ?_))
 exact Run.low (.cons (fle_pick [1, 2, 5, 6] rfl) .nil) (Run.pick [1, 5, 6, 7] (run_plan_quiet_1_ok F F a0.work (a0.work.length : Int) (0 : Int) a1 a0.duties a0.work a0.vetoes.e0 a0.vetoes.e1 a0.data.e0 a0.data.e1 r32 s1 s0 s1 s2 s3 s4 s5 b36 s32_0 b22 _ _ _ hs1 hs0 hs1 hs2 hs3 hs4 hs5 (hH38.pick [0, 1, 3] rfl rfl) h))

theorem mkk40 : makeK Tryz.prog 40 = none := by kernel_rfl
theorem cal40 : callable Tryz.prog 40 = true := by kernel_rfl
abbrev run_Quiet_post (r : (List Bool) × Int) : SV → Mem → Prop := fun s Me => ∃ q1, s = (.tuple [q1, (.int .i64 r.2)]) ∧ Has (fun _ => none) Me [.vec 4 1 r.1.length q1 (r.1.flatMap enc4)]

def run_Quiet (F : Nat) (a0 : S_api_Plan) (a1 : Int) : Option ((List Bool) × Int) :=
 bnd (run_checkDetector F a0 a1) fun r25 =>
 bif (!(r25 == (0 : Int))) then
  some (([] : List Bool), r25)
 else
  bnd (run_plan_quiet F (S_run_plan.mk a0.Duties a0.Work a0.Vetoes a0.Data) a1) fun r39 =>
  some (r39, (0 : Int))

theorem run_Quiet_ok (F : Nat) (a0 : S_api_Plan) (a1 : Int) (s0 s1 s2 s3 s4 s5 : SV) (r : (List Bool) × Int) (M : Mem) (hs0 : Slc (rd M) 3 (FlatR enc43) s0 a0.Duties) (hs1 : Slc (rd M) 2 (FlatR enc106) s1 a0.Work) (hs2 : Slc (rd M) 2 (rep127 (rd M)) s2 a0.Vetoes.e0) (hs3 : Slc (rd M) 2 (rep127 (rd M)) s3 a0.Vetoes.e1) (hs4 : Slc (rd M) 1 (FlatR enc3) s4 a0.Data.e0) (hs5 : Slc (rd M) 1 (FlatR enc3) s5 a0.Data.e1) (h : run_Quiet F a0 a1 = some r) : CallsM Tryz.prog 15 [(.agg [s0, s1, s2, s3, s4, s5]), (.int .i64 a1)] M (fun s M' => ∃ q1, s = (.tuple [q1, (.int .i64 r.2)]) ∧ New M M' [.vec 4 1 r.1.length q1 (r.1.flatMap enc4)]) := by
 refine CallsM.fresh (Q := run_Quiet_post r) Tryz.func15 rfl rfl ?_ (by rintro s Me ⟨q1, rfl, hx⟩ ha hw; exact ⟨_, rfl, New.of rfl hx ha hw⟩)
 rw [run_Quiet] at h
 replace hs0 := hs0.mono (rdLe_frozen M) (fun _ _ h => h)
 replace hs1 := hs1.mono (rdLe_frozen M) (fun _ _ h => h)
 replace hs2 := hs2.mono (rdLe_frozen M) (fun _ _ => rep127_mo (rdLe_frozen M))
 replace hs3 := hs3.mono (rdLe_frozen M) (fun _ _ => rep127_mo (rdLe_frozen M))
 replace hs4 := hs4.mono (rdLe_frozen M) (fun _ _ h => h)
 replace hs5 := hs5.mono (rdLe_frozen M) (fun _ _ h => h)
 have hH := Has.nil (frozen M)
 refine Run.seq (Run.region ?_)
 refine Run.opX wantS_none rfl (ExG.box rfl rfl hH) ?_
 rintro _ M23 ⟨b22, rfl, hH23⟩
 refine Run.opG wantS_none (ex_assign rfl) rfl ?_
 refine Run.opG wantS_none (ex_assign rfl) rfl ?_
 refine Run.opsEnd (Run.seq (Run.seq (Run.region ?_)))
 refine Run.opG wantS_none (ex_loadA rfl (hH23.cells (i := 0) rfl 0 rfl) rdLe_rfl agg38 rfl rfl rfl) rfl ?_
 refine Run.opG wantS_none (ex_move rfl) rfl ?_
 obtain ⟨r25, hr25, h⟩ := bnd_some h
 refine Run.callP wantS_none (ex_call rfl mkk39 cal39) rfl (run_checkDetector_ok F a0 a1 s0 s1 s2 s3 s4 s5 _ _ (hH23.slcF hs0) (hH23.slcF hs1) ((hs2).mono hH23.le (fun _ _ => rep127_mo hH23.le)) ((hs3).mono hH23.le (fun _ _ => rep127_mo hH23.le)) (hH23.slcF hs4) (hH23.slcF hs5) hr25) ?_
 refine Run.opG wantS_none (ex_assign rfl) rfl ?_
 refine Run.opsEnd (Run.seq (Run.region ?_))
 refine Run.opG wantS_none (ex_move rfl) rfl ?_
 refine Run.opG wantS_none (ex_neq rfl rfl) rfl ?_
 refine Run.opsEnd ?_
 rcases btf ((!(r25 == (0 : Int)))) with hc27 | hc27
 ·have h := bif_t hc27 h
  refine Run.condT' rfl hc27 ?_
  refine Run.seq (Run.region ?_)
  refine Run.opG wantS_none (ex_move rfl) rfl ?_
  refine Run.opG wantS_none (ex_assign rfl) rfl ?_
  refine Run.opG wantS_none (ex_assign rfl) rfl ?_
  refine Run.opsEnd ?_
  have hH29 : Has (ro (frozen M)) M23 [.vec 4 1 ([] : List Bool).length .nils (([] : List Bool).flatMap enc4), .obj b22 (.row 38 .whole [s0, s1, s2, s3, s4, s5])] := hH23.nils 4 1
  cases h
  exact Run.ret Tryz.func15 rfl (res_tmp rfl (res_tmp rfl res_nil)) ⟨_, rfl, (hH29.pick [0] rfl rfl).upF (none_le _)⟩
 ·have h := bif_f hc27 h
  refine Run.condF' rfl hc27 ?_
  refine Run.skip (Run.seq (Run.region ?_))
  refine Run.opG wantS_none (ex_loadA rfl (hH23.cells (i := 0) rfl 0 rfl) rdLe_rfl agg38 rfl rfl rfl) rfl ?_
  refine Run.enter wantS_none (ex_call rfl mkk35 cal35) Tryz.func35 rfl rfl ?_
  refine Run.seq (Run.region ?_)
  refine Run.opX wantS_none rfl (ExG.box rfl rfl hH23) ?_
  rintro _ M32 ⟨b31, rfl, hH32⟩
  refine Run.opX wantS_none rfl (ExG.new (v := fun b => .ptr b 0) (ex_alloc zer85) hH32) ?_
  rintro _ M35 ⟨b34, rfl, hH35⟩
  refine Run.opsEnd (Run.seq (Run.region ?_))
  refine Run.opG wantS_none (ex_fieldAddr rfl off38_0) rfl ?_
  refine Run.opG wantS_none (ex_load1 rfl (hH35.cells (i := 1) rfl 0 rfl) rdLe_rfl agg32) rfl ?_
  refine Run.opG wantS_none (ex_fieldAddr rfl off38_1) rfl ?_
  refine Run.opG wantS_none (ex_load1 rfl (hH35.cells (i := 1) rfl 1 rfl) rdLe_rfl agg33) rfl ?_
  refine Run.opG wantS_none (ex_fieldAddr rfl off38_2) rfl ?_
  refine Run.opG wantS_none (ex_loadA rfl (hH35.cells (i := 1) rfl 2 rfl) rdLe_rfl agg35 rfl rfl rfl) rfl ?_
  refine Run.opG wantS_none (ex_fieldAddr rfl off38_3) rfl ?_
  refine Run.opG wantS_none (ex_loadA rfl (hH35.cells (i := 1) rfl 4 rfl) rdLe_rfl agg36 rfl rfl rfl) rfl ?_
  refine Run.opG wantS_none (ex_build (r := [s0, s1, s2, s3, s4, s5]) rfl zer85 pls85 (by simp only [fillS, cells_one (slc_one hs0), cells_one (slc_one hs1)]; rfl)) rfl ?_
  refine Run.opX wantS_none rfl (ExG.storeC (c' := [s0, s1, s2, s3, s4, s5]) rfl rfl rfl hH35 (i := 0) rfl sz85 rfl rfl rfl (ones_cons (slc_one hs0) (ones_cons (slc_one hs1) (ones_cons (slc_one hs2) (ones_cons (slc_one hs3) (ones_cons (slc_one hs4) (ones_cons (slc_one hs5) ones_nil)))))) rfl) ?_
  rintro _ M36 ⟨rfl, (hH36 : Has (ro (frozen M)) M36 [.obj b34 (.row 85 .whole [s0, s1, s2, s3, s4, s5]), .obj b31 (.row 38 .whole [s0, s1, s2, s3, s4, s5]), .obj b22 (.row 38 .whole [s0, s1, s2, s3, s4, s5])])⟩
  refine Run.opsEnd ?_
  refine Run.retTo Tryz.func35 rfl (res_cell rfl (x_load (ex_loadA rfl (hH36.cells (i := 0) rfl 0 rfl) rdLe_rfl agg85 rfl rfl rfl)) res_nil) rfl ?_
  refine Run.opG wantS_none (ex_move rfl) rfl ?_
  obtain ⟨r39, hr39, h⟩ := bnd_some h
  refine Run.callX wantS_none (ex_call rfl mkk40 cal40) rfl (run_plan_quiet_ok F (S_run_plan.mk a0.Duties a0.Work a0.Vetoes a0.Data) a1 s0 s1 s2 s3 s4 s5 _ _ (hH36.slcF hs0) (hH36.slcF hs1) ((hs2).mono hH36.le (fun _ _ => rep127_mo hH36.le)) ((hs3).mono hH36.le (fun _ _ => rep127_mo hH36.le)) (hH36.slcF hs4) (hH36.slcF hs5) hr39) ?_
  rintro s39_0 M41 ⟨_, rfl, hN39⟩
  have hH41 : Has (ro (frozen M)) M41 [.vec 4 1 r39.length s39_0 (r39.flatMap enc4), .obj b34 (.row 85 .whole [s0, s1, s2, s3, s4, s5]), .obj b31 (.row 38 .whole [s0, s1, s2, s3, s4, s5]), .obj b22 (.row 38 .whole [s0, s1, s2, s3, s4, s5])] := hN39.1 _ _ hH36
  refine Run.opG wantS_none (ex_assign rfl) rfl ?_
  refine Run.opG wantS_none (ex_assign rfl) rfl ?_
  refine Run.opsEnd ?_
  cases h
  exact Run.ret Tryz.func15 rfl (res_tmp rfl (res_tmp rfl res_nil)) ⟨_, rfl, (hH41.pick [0] rfl rfl).upF (none_le _)⟩

theorem mkk15 : makeK Tryz.prog 15 = none := by kernel_rfl
theorem cal15 : callable Tryz.prog 15 = true := by kernel_rfl
theorem mkk9 : makeK Tryz.prog 9 = none := by kernel_rfl
theorem cal9 : callable Tryz.prog 9 = true := by kernel_rfl
theorem els48 : elems Tryz.prog 48 = some (.sl 1) := by kernel_rfl
theorem agg4 : aggSize Tryz.prog 4 = some none := by kernel_rfl
theorem elt24 : sliceElt Tryz.prog 24 = some (⟨1, 8, [(.int .i64 0)], 3⟩ : Elt) := by kernel_rfl
theorem appt24_24 : appT Tryz.prog 24 24 = some (⟨1, 8, [(.int .i64 0)], 3⟩ : Elt) := by kernel_rfl
abbrev glitch_areTimes_post (r : Bool) : SV → Mem → Prop := fun s _ => s = (.bool r)

def glitch_areTimes_1 (F : Nat) : Nat → Int → (List Int) → Int → Int → Option (Bool)
 | 0, _, _, _, _ => none
 | N + 1, v3, v9, v10, v11 =>
  bif (decide (v11 < v10)) then
   bnd (idx v9 v11) fun x24 =>
   bnd (glitch_isFrom F (w64 (v3 + (1 : Int))) x24 (1073741824 : Int)) fun r26 =>
   bif (!r26) then
    some false
   else
    (glitch_areTimes_1 F N) x24 v9 v10 (w64 (v11 + (1 : Int)))
  else
   some true

theorem glitch_areTimes_1_ok (F : Nat) : ∀ (N : Nat), ∀ (v3 : Int) (v9 : (List Int)) (v10 v11 : Int) (sv9 : SV) (Fr : Rd) (M : Mem) (r : Bool) (hv9 : Slc Fr 1 (FlatR enc3) sv9 v9) (hH : Has Fr M []), glitch_areTimes_1 F N v3 v9 v10 v11 = some r → Run Tryz.prog ⟨⟨44, [], none⟩, []⟩ 22 (glitch_areTimes_post r) [(3, (.int .i64 v3)), (9, sv9), (10, (.int .i64 v10)), (11, (.int .i64 v11))] [codeC Tryz.prog 44 [1, 1, 1, 0, 1, 0, 0], loopC Tryz.prog 44 [1, 1, 1, 0, 1, 0, 0], .inBlock 0, codeC Tryz.prog 44 [1, 1, 1, 1]] M := by
 intro N
 induction N with
 | zero =>
  intro v3 v9 v10 v11 sv9 Fr M r hv9 hH h
  simp [glitch_areTimes_1] at h
 | succ N ih =>
  intro v3 v9 v10 v11 sv9 Fr M r hv9 hH h
  rw [glitch_areTimes_1] at h
  refine Run.seq (Run.region ?_)
  refine Run.opG wantS_none (ex_lss rfl rfl) rfl ?_
  refine Run.opsEnd (Run.seq ?_)
  rcases btf ((decide (v11 < v10))) with hc22 | hc22
  ·have h := bif_t hc22 h
   refine Run.condT' rfl hc22 ?_
   refine Run.skip (Run.seq (Run.block (Run.seq (Run.region ?_))))
   obtain ⟨x24, hx24, h⟩ := bnd_some h
   obtain ⟨p24, o24, _, hx24, hp24, rfl⟩ := sl_elem (P := Tryz.prog) (t := 24) (kk := .i64) hv9 hx24 els24
   refine Run.opG wantS_none (ex_elX rfl rfl hx24) rfl ?_
   refine Run.opG wantS_none (ex_load1 rfl (hH.ptrF hp24) rdLe_rfl agg3) rfl ?_
   refine Run.opG wantS_none (ex_assign rfl) rfl ?_
   refine Run.opsEnd (Run.seq (Run.seq (Run.region ?_)))
   refine Run.opG wantS_none (ex_move rfl) rfl ?_
   refine Run.opG wantS_none (ex_add rfl rfl) rfl ?_
   refine Run.opG wantS_none (ex_move rfl) rfl ?_
   obtain ⟨r26, hr26, h⟩ := bnd_some h
   refine Run.callP wantS_none (ex_call rfl mkk72 cal72) rfl (glitch_isFrom_ok F (w64 (v3 + (1 : Int))) x24 (1073741824 : Int) _ _ hr26) ?_
   refine Run.opG wantS_none (ex_not rfl) rfl ?_
   refine Run.opsEnd ?_
   rcases btf ((!r26)) with hc28 | hc28
   ·have h := bif_t hc28 h
    refine Run.condT' rfl hc28 ?_
    refine Run.seq (Run.region ?_)
    refine Run.opG wantS_none (ex_assign rfl) rfl ?_
    refine Run.opsEnd ?_
    cases h
    exact Run.ret Tryz.func44 rfl (res_tmp rfl res_nil) rfl
   ·have h := bif_f hc28 h
    refine Run.condF' rfl hc28 ?_
    refine Run.skip (Run.region ?_)
    refine Run.opG wantS_none (ex_move rfl) rfl ?_
    refine Run.opG wantS_none (ex_assign rfl) rfl ?_
    refine Run.opsEnd (Run.inBlock (Run.region ?_))
    refine Run.opG wantS_none (ex_add rfl rfl) rfl ?_
    refine Run.opG wantS_none (ex_move rfl) rfl ?_
    refine Run.opsEnd (Run.inLoop ?_)
    exact Run.pick [3, 9, 10, 11] (ih x24 v9 v10 (w64 (v11 + (1 : Int))) sv9 _ _ _ hv9 hH h)
  ·have h := bif_f hc22 h
   refine Run.condF' rfl hc22 ?_
   refine Run.exit rfl (Run.seq (Run.region ?_))
   refine Run.opG wantS_none (ex_assign rfl) rfl ?_
   refine Run.opsEnd ?_
   cases h
   exact Run.ret Tryz.func44 rfl (res_tmp rfl res_nil) rfl

def glitch_areTimes (F : Nat) (a0 : (List Int)) : Option (Bool) :=
 bif (decide ((256 : Int) < (a0.length : Int))) then
  some false
 else
  glitch_areTimes_1 F F ((-1) : Int) a0 (a0.length : Int) (0 : Int)

theorem glitch_areTimes_ok (F : Nat) (a0 : (List Int)) (s0 : SV) (r : Bool) (M : Mem) (hs0 : Slc (rd M) 1 (FlatR enc3) s0 a0) (h : glitch_areTimes F a0 = some r) : CallsM Tryz.prog 44 [s0] M (fun s M' => s = (.bool r) ∧ M' = M) := by
 refine CallsM.plain Tryz.func44 rfl rfl rfl (show Run _ _ _ (glitch_areTimes_post r) _ _ _ from ?_)
 rw [glitch_areTimes] at h
 replace hs0 := hs0.mono (rdLe_frozen M) (fun _ _ h => h)
 have hH := Has.nil (frozen M)
 refine Run.seq (Run.region ?_)
 refine Run.opG wantS_none (ex_assign rfl) rfl ?_
 refine Run.opsEnd (Run.seq (Run.seq (Run.region ?_)))
 refine Run.opG wantS_none (ex_move rfl) rfl ?_
 refine Run.opG wantS_none (ex_len' rfl hs0 lenk24) rfl ?_
 refine Run.opG wantS_none (ex_gtr rfl rfl) rfl ?_
 refine Run.opsEnd ?_
 rcases btf ((decide ((256 : Int) < (a0.length : Int)))) with hc21 | hc21
 ·have h := bif_t hc21 h
  refine Run.condT' rfl hc21 ?_
  refine Run.seq (Run.region ?_)
  refine Run.opG wantS_none (ex_assign rfl) rfl ?_
  refine Run.opsEnd ?_
  cases h
  exact Run.ret Tryz.func44 rfl (res_tmp rfl res_nil) rfl
 ·have h := bif_f hc21 h
  refine Run.condF' rfl hc21 ?_
  refine Run.skip (Run.seq (Run.region ?_))
  refine Run.opG wantS_none (ex_assign rfl) rfl ?_
  refine Run.opsEnd (Run.seq (Run.seq (Run.region ?_)))
  refine Run.opG wantS_none (ex_move rfl) rfl ?_
  refine Run.opG wantS_none (ex_len' rfl hs0 lenk24) rfl ?_
  refine Run.opG wantS_none (ex_move rfl) rfl ?_
  refine Run.opsEnd (Run.block (Run.loop ?_))
  exact Run.pick [3, 9, 10, 11] (glitch_areTimes_1_ok F F ((-1) : Int) a0 (a0.length : Int) (0 : Int) s0 _ _ _ hs0 hH h)

theorem mkk44 : makeK Tryz.prog 44 = none := by kernel_rfl
theorem cal44 : callable Tryz.prog 44 = true := by kernel_rfl
theorem mkk73 : makeK Tryz.prog 73 = none := by kernel_rfl
theorem cal73 : callable Tryz.prog 73 = true := by kernel_rfl
theorem mkk74 : makeK Tryz.prog 74 = none := by kernel_rfl
theorem cal74 : callable Tryz.prog 74 = true := by kernel_rfl
theorem mkk77 : makeK Tryz.prog 77 = none := by kernel_rfl
theorem cal77 : callable Tryz.prog 77 = true := by kernel_rfl
theorem mkk100 : makeK Tryz.prog 100 = none := by kernel_rfl
theorem cal100 : callable Tryz.prog 100 = true := by kernel_rfl
theorem mkk75 : makeK Tryz.prog 75 = none := by kernel_rfl
theorem cal75 : callable Tryz.prog 75 = true := by kernel_rfl
theorem mkk99 : makeK Tryz.prog 99 = none := by kernel_rfl
theorem cal99 : callable Tryz.prog 99 = true := by kernel_rfl
abbrev glitch_holdsAt_post (r : Bool) : SV → Mem → Prop := fun s _ => s = (.bool r)

def glitch_holdsAt_2 (F : Nat) (hd1 : (List S_api_Segment) → Int → Int → Int → Option (Bool)) (v13 : Bool) (v0_f1 : (List S_api_Segment)) (v5_f1 v7_f1 v8_f1 c25_0 : Int) : Option (Bool) :=
 bif v13 then
  some (decide ((0 : Int) ≤ v5_f1))
 else
  hd1 v0_f1 v7_f1 (w64 (v8_f1 + (1 : Int))) c25_0

theorem glitch_holdsAt_2_ok (F : Nat) (hd1 : (List S_api_Segment) → Int → Int → Int → Option (Bool)) (hhd1 : ∀ (v0 : (List S_api_Segment)) (v7 v8 c25_0 : Int) (sv0 : SV) (b25 : Pos) (Fr : Rd) (M : Mem) (r : Bool) (hv0 : Slc Fr 2 (FlatR enc106) sv0 v0) (hH : Has Fr M [.obj b25 (.row 3 .whole [(.int .i64 c25_0)])]), hd1 v0 v7 v8 c25_0 = some r → Run Tryz.prog ⟨⟨134, [], none⟩, [.mk ⟨98, [], none⟩ 9 (treeOf []) [itemC Tryz.prog 98 [1, 0] 2, codeC Tryz.prog 98 [1, 1]], .mk ⟨76, [], none⟩ 9 (treeOf []) [itemC Tryz.prog 76 [1, 0] 3, codeC Tryz.prog 76 [1, 1]]]⟩ 19 (glitch_holdsAt_post r) [(0, sv0), (1, (.fn (.func 99) [] [(.ptr b25 0)])), (7, (.int .i64 v7)), (8, (.int .i64 v8))] [codeC Tryz.prog 134 [1, 0, 1, 0, 0], loopC Tryz.prog 134 [1, 0, 1, 0, 0], .inBlock 0, codeC Tryz.prog 134 [1, 1]] M) : ∀ (v13 : Bool) (v0_f1 : (List S_api_Segment)) (v5_f1 v7_f1 v8_f1 c25_0 : Int) (sv0_f1 : SV) (b25 : Pos) (Fr : Rd) (M : Mem) (r : Bool) (hv0_f1 : Slc Fr 2 (FlatR enc106) sv0_f1 v0_f1) (hH : Has Fr M [.obj b25 (.row 3 .whole [(.int .i64 c25_0)])]), glitch_holdsAt_2 F hd1 v13 v0_f1 v5_f1 v7_f1 v8_f1 c25_0 = some r → Run Tryz.prog ⟨⟨99, [], none⟩, [.mk ⟨134, [], none⟩ 19 (treeOf [(0, sv0_f1), (1, (.fn (.func 99) [] [(.ptr b25 0)])), (5, (.int .i64 v5_f1)), (7, (.int .i64 v7_f1)), (8, (.int .i64 v8_f1))]) [itemC Tryz.prog 134 [1, 0, 1, 0, 0, 1, 1, 0, 0, 1, 0] 5, codeC Tryz.prog 134 [1, 0, 1, 0, 0, 1, 1, 0, 0, 1, 1], .inBlock 1, codeC Tryz.prog 134 [1, 0, 1, 0, 0, 1, 1, 1], loopC Tryz.prog 134 [1, 0, 1, 0, 0], .inBlock 0, codeC Tryz.prog 134 [1, 1]], .mk ⟨98, [], none⟩ 9 (treeOf []) [itemC Tryz.prog 98 [1, 0] 2, codeC Tryz.prog 98 [1, 1]], .mk ⟨76, [], none⟩ 9 (treeOf []) [itemC Tryz.prog 76 [1, 0] 3, codeC Tryz.prog 76 [1, 1]]]⟩ 14 (glitch_holdsAt_post r) [(13, (.bool v13))] [itemC Tryz.prog 99 [1, 0] 10, codeC Tryz.prog 99 [1, 1]] M := by
 intro v13 v0_f1 v5_f1 v7_f1 v8_f1 c25_0 sv0_f1 b25 Fr M r hv0_f1 hH h
 rw [glitch_holdsAt_2] at h
 refine Run.opG wantS_none (ex_assign rfl) rfl ?_
 refine Run.opsEnd ?_
 refine Run.retTo Tryz.func99 rfl (res_tmp rfl res_nil) rfl ?_
 refine Run.opsEnd ?_
 rcases btf (v13) with hc34 | hc34
 ·have h := bif_t hc34 h
  refine Run.condT' rfl hc34 ?_
  refine Run.seq (Run.region ?_)
  refine Run.opG wantS_none (ex_move rfl) rfl ?_
  refine Run.opG wantS_none (ex_assign rfl) rfl ?_
  refine Run.opsEnd ?_
  refine Run.retTo Tryz.func134 rfl (res_tmp rfl res_nil) rfl ?_
  refine Run.opG wantS_none (ex_geq rfl rfl) rfl ?_
  refine Run.opG wantS_none (ex_assign rfl) rfl ?_
  refine Run.opsEnd ?_
  refine Run.retTo Tryz.func98 rfl (res_tmp rfl res_nil) rfl ?_
  refine Run.opG wantS_none (ex_assign rfl) rfl ?_
  refine Run.opsEnd ?_
  cases h
  exact Run.ret Tryz.func76 rfl (res_tmp rfl res_nil) rfl
 ·have h := bif_f hc34 h
  refine Run.condF' rfl hc34 ?_
  refine Run.skip (Run.inBlock (Run.region ?_))
  refine Run.opG wantS_none (ex_add rfl rfl) rfl ?_
  refine Run.opG wantS_none (ex_move rfl) rfl ?_
  refine Run.opsEnd (Run.inLoop ?_)
  exact Run.low (.cons (fle_pick [] rfl) (.cons (fle_pick [] rfl) .nil)) (Run.pick [0, 1, 7, 8] (hhd1 v0_f1 v7_f1 (w64 (v8_f1 + (1 : Int))) c25_0 sv0_f1 b25 _ _ _ hv0_f1 hH h))

def glitch_holdsAt_1 (F : Nat) : Nat → (List S_api_Segment) → Int → Int → Int → Option (Bool)
 | 0, _, _, _, _ => none
 | N + 1, v0, v7, v8, c25_0 =>
  bif (decide (v8 < v7)) then
   bnd (idx v0 v8) fun x29 =>
   bif (decide (x29.From ≤ c25_0)) then
    glitch_holdsAt_2 F (glitch_holdsAt_1 F N) (decide (c25_0 < x29.To)) v0 v8 v7 v8 c25_0
   else
    glitch_holdsAt_2 F (glitch_holdsAt_1 F N) false v0 v8 v7 v8 c25_0
  else
   some (decide ((0 : Int) ≤ ((-1) : Int)))

theorem glitch_holdsAt_1_ok (F : Nat) : ∀ (N : Nat), ∀ (v0 : (List S_api_Segment)) (v7 v8 c25_0 : Int) (sv0 : SV) (b25 : Pos) (Fr : Rd) (M : Mem) (r : Bool) (hv0 : Slc Fr 2 (FlatR enc106) sv0 v0) (hH : Has Fr M [.obj b25 (.row 3 .whole [(.int .i64 c25_0)])]), glitch_holdsAt_1 F N v0 v7 v8 c25_0 = some r → Run Tryz.prog ⟨⟨134, [], none⟩, [.mk ⟨98, [], none⟩ 9 (treeOf []) [itemC Tryz.prog 98 [1, 0] 2, codeC Tryz.prog 98 [1, 1]], .mk ⟨76, [], none⟩ 9 (treeOf []) [itemC Tryz.prog 76 [1, 0] 3, codeC Tryz.prog 76 [1, 1]]]⟩ 19 (glitch_holdsAt_post r) [(0, sv0), (1, (.fn (.func 99) [] [(.ptr b25 0)])), (7, (.int .i64 v7)), (8, (.int .i64 v8))] [codeC Tryz.prog 134 [1, 0, 1, 0, 0], loopC Tryz.prog 134 [1, 0, 1, 0, 0], .inBlock 0, codeC Tryz.prog 134 [1, 1]] M := by
 intro N
 induction N with
 | zero =>
  intro v0 v7 v8 c25_0 sv0 b25 Fr M r hv0 hH h
  simp [glitch_holdsAt_1] at h
 | succ N ih =>
  intro v0 v7 v8 c25_0 sv0 b25 Fr M r hv0 hH h
  rw [glitch_holdsAt_1] at h
  refine Run.seq (Run.region ?_)
  refine Run.opG wantS_none (ex_lss rfl rfl) rfl ?_
  refine Run.opsEnd (Run.seq ?_)
  rcases btf ((decide (v8 < v7))) with hc27 | hc27
  ·have h := bif_t hc27 h
   refine Run.condT' rfl hc27 ?_
   refine Run.skip (Run.seq (Run.block (Run.seq (Run.region ?_))))
   refine Run.opG wantS_none (ex_move rfl) rfl ?_
   refine Run.opG wantS_none (ex_assign rfl) rfl ?_
   refine Run.opsEnd (Run.seq (Run.region ?_))
   refine Run.opG wantS_none (ex_move rfl) rfl ?_
   refine Run.opG wantS_none (ex_move rfl) rfl ?_
   refine Run.opG wantS_none (ex_move rfl) rfl ?_
   obtain ⟨x29, hx29, h⟩ := bnd_some h
   obtain ⟨p29, o29, _, hx29, hp29, rfl⟩ := sl_elem (P := Tryz.prog) (t := 33) (kk := .i64) hv0 hx29 els33
   refine Run.opG wantS_none (ex_elX rfl rfl hx29) rfl ?_
   refine Run.opG wantS_none (ex_loadA rfl (hH.ptrF hp29) rdLe_rfl agg106 rfl rfl rfl) rfl ?_
   refine Run.enter wantS_none (ex_closure rfl rfl mkk99 cal99) Tryz.func99 rfl rfl ?_
   refine Run.seq (Run.region ?_)
   refine Run.opX wantS_none rfl (ExG.box rfl rfl hH) ?_
   rintro _ M32 ⟨b31, rfl, hH32⟩
   refine Run.opG wantS_none (ex_assign rfl) rfl ?_
   refine Run.opsEnd (Run.seq (Run.region ?_))
   refine Run.opG wantS_none (ex_fieldAddr rfl off106_0) rfl ?_
   refine Run.opG wantS_none (ex_load1 rfl (hH32.cells (i := 0) rfl 0 rfl) rdLe_rfl agg3) rfl ?_
   refine Run.opG wantS_none (ex_load1 rfl (hH32.cells (i := 1) rfl 0 rfl) rdLe_rfl agg3) rfl ?_
   refine Run.opG wantS_none (ex_leq rfl rfl) rfl ?_
   refine Run.opG wantS_none (ex_move rfl) rfl ?_
   rcases btf ((decide (x29.From ≤ c25_0))) with hc33 | hc33
   ·have h := bif_t hc33 h
    refine Run.opG (wantS_yes' rfl rfl hc33) (ex_load1 rfl (hH32.cells (i := 1) rfl 0 rfl) rdLe_rfl agg3) rfl ?_
    refine Run.opG (wantS_yes' rfl rfl hc33) (ex_fieldAddr rfl off106_1) rfl ?_
    refine Run.opG (wantS_yes' rfl rfl hc33) (ex_load1 rfl (hH32.cells (i := 0) rfl 1 rfl) rdLe_rfl agg3) rfl ?_
    refine Run.opG (wantS_yes' rfl rfl hc33) (ex_lss rfl rfl) rfl ?_
    refine Run.opG wantS_none (ex_pickT' rfl hc33 rfl rfl) rfl ?_
    exact Run.low (.cons (fle_pick [0, 1, 5, 7, 8] rfl) (.cons (fle_pick [] rfl) (.cons (fle_pick [] rfl) .nil))) (Run.pick [13] (glitch_holdsAt_2_ok F (glitch_holdsAt_1 F N) ih (decide (c25_0 < x29.To)) v0 v8 v7 v8 c25_0 sv0 b25 _ _ _ hv0 (hH32.pick [1] rfl rfl) h))
   ·have h := bif_f hc33 h
    refine Run.no (wantS_not' rfl rfl hc33) rfl ?_
    refine Run.no (wantS_not' rfl rfl hc33) rfl ?_
    refine Run.no (wantS_not' rfl rfl hc33) rfl ?_
    refine Run.no (wantS_not' rfl rfl hc33) rfl ?_
    refine Run.opG wantS_none (ex_pickF' rfl hc33 rfl rfl) rfl ?_
    exact Run.low (.cons (fle_pick [0, 1, 5, 7, 8] rfl) (.cons (fle_pick [] rfl) (.cons (fle_pick [] rfl) .nil))) (Run.pick [13] (glitch_holdsAt_2_ok F (glitch_holdsAt_1 F N) ih false v0 v8 v7 v8 c25_0 sv0 b25 _ _ _ hv0 (hH32.pick [1] rfl rfl) h))
  ·have h := bif_f hc27 h
   refine Run.condF' rfl hc27 ?_
   refine Run.exit rfl (Run.seq (Run.region ?_))
   refine Run.opG wantS_none (ex_assign rfl) rfl ?_
   refine Run.opsEnd ?_
   refine Run.retTo Tryz.func134 rfl (res_tmp rfl res_nil) rfl ?_
   refine Run.opG wantS_none (ex_geq rfl rfl) rfl ?_
   refine Run.opG wantS_none (ex_assign rfl) rfl ?_
   refine Run.opsEnd ?_
   refine Run.retTo Tryz.func98 rfl (res_tmp rfl res_nil) rfl ?_
   refine Run.opG wantS_none (ex_assign rfl) rfl ?_
   refine Run.opsEnd ?_
   cases h
   exact Run.ret Tryz.func76 rfl (res_tmp rfl res_nil) rfl

def glitch_holdsAt (F : Nat) (a0 : S_api_Veto) (a1 : Int) : Option (Bool) :=
 glitch_holdsAt_1 F F a0.Segments (a0.Segments.length : Int) (0 : Int) a1

theorem glitch_holdsAt_ok (F : Nat) (a0 : S_api_Veto) (a1 : Int) (s0 : SV) (r : Bool) (M : Mem) (hs0 : Slc (rd M) 2 (FlatR enc106) s0 a0.Segments) (h : glitch_holdsAt F a0 a1 = some r) : CallsM Tryz.prog 76 [(.agg [(.str a0.Name), s0]), (.int .i64 a1)] M (fun s M' => s = (.bool r) ∧ M' = M) := by
 refine CallsM.plain Tryz.func76 rfl rfl rfl (show Run _ _ _ (glitch_holdsAt_post r) _ _ _ from ?_)
 rw [glitch_holdsAt] at h
 replace hs0 := hs0.mono (rdLe_frozen M) (fun _ _ h => h)
 have hH := Has.nil (frozen M)
 refine Run.seq (Run.region ?_)
 refine Run.opX wantS_none rfl (ExG.box rfl rfl hH) ?_
 rintro _ M23 ⟨b22, rfl, hH23⟩
 refine Run.opX wantS_none rfl (ExG.box rfl rfl hH23) ?_
 rintro _ M26 ⟨b25, rfl, hH26⟩
 refine Run.opG wantS_none (ex_assign rfl) rfl ?_
 refine Run.opsEnd (Run.seq (Run.region ?_))
 refine Run.opG wantS_none (ex_fieldAddr rfl off127_1) rfl ?_
 refine Run.opG wantS_none (ex_load1 rfl (hH26.cells (i := 1) rfl 1 rfl) rdLe_rfl agg33) rfl ?_
 refine Run.opG wantS_none (ex_makeFunc rfl rfl) rfl ?_
 refine Run.enter wantS_none (ex_call rfl mkk98 cal98) Tryz.func98 rfl rfl ?_
 refine Run.seq (Run.region ?_)
 refine Run.opG wantS_none (ex_assign rfl) rfl ?_
 refine Run.opsEnd (Run.seq (Run.region ?_))
 refine Run.opG wantS_none (ex_move rfl) rfl ?_
 refine Run.opG wantS_none (ex_move rfl) rfl ?_
 refine Run.enter wantS_none (ex_call rfl mkk134 cal134) Tryz.func134 rfl rfl ?_
 refine Run.seq (Run.region ?_)
 refine Run.opG wantS_none (ex_assign rfl) rfl ?_
 refine Run.opsEnd (Run.seq (Run.seq (Run.region ?_)))
 refine Run.opG wantS_none (ex_move rfl) rfl ?_
 refine Run.opG wantS_none (ex_len' rfl hs0 lenk33) rfl ?_
 refine Run.opG wantS_none (ex_move rfl) rfl ?_
 refine Run.opsEnd (Run.block (Run.loop ?_))
 exact Run.low (.cons (fle_pick [] rfl) (.cons (fle_pick [] rfl) .nil)) (Run.pick [0, 1, 7, 8] (glitch_holdsAt_1_ok F F a0.Segments (a0.Segments.length : Int) (0 : Int) a1 s0 b25 _ _ _ hs0 (hH26.pick [0] rfl rfl) h))

theorem mkk76 : makeK Tryz.prog 76 = none := by kernel_rfl
theorem cal76 : callable Tryz.prog 76 = true := by kernel_rfl
abbrev slices_ContainsFunc_77_h1_post (e_v0 : (List S_api_Veto)) (e_c28_0 : Int) (se_v0 : SV) (e_b28 : Pos) (Fr0 : Rd) (Hr : List Ent) (r : Bool) : SV → Mem → Prop := fun s Me => s = (.bool r) ∧ Has Fr0 Me (([.obj e_b28 (.row 3 .whole [(.int .i64 e_c28_0)])] : List Ent) ++ Hr)

def slices_ContainsFunc_77_h1_1 (F : Nat) (e_v0 : (List S_api_Veto)) (e_c28_0 : Int) : Nat → (List S_api_Veto) → Int → Int → Option (Bool)
 | 0, _, _, _ => none
 | N + 1, v0, v7, v8 =>
  bif (decide (v8 < v7)) then
   bnd (idx v0 v8) fun x31 =>
   bnd (glitch_holdsAt F x31 e_c28_0) fun r36 =>
   bif r36 then
    some (decide ((0 : Int) ≤ v8))
   else
    (slices_ContainsFunc_77_h1_1 F e_v0 e_c28_0 N) v0 v7 (w64 (v8 + (1 : Int)))
  else
   some (decide ((0 : Int) ≤ ((-1) : Int)))

theorem slices_ContainsFunc_77_h1_1_ok (F : Nat) (e_v0 : (List S_api_Veto)) (e_c28_0 : Int) (se_v0 : SV) (e_b28 : Pos) (Fr0 : Rd) (Hr : List Ent) : ∀ (N : Nat), ∀ (v0 : (List S_api_Veto)) (v7 v8 : Int) (sv0 : SV) (M : Mem) (r : Bool) (hv0 : Slc Fr0 2 (rep127 Fr0) sv0 v0) (hH : Has Fr0 M (([.obj e_b28 (.row 3 .whole [(.int .i64 e_c28_0)])] : List Ent) ++ Hr)), slices_ContainsFunc_77_h1_1 F e_v0 e_c28_0 N v0 v7 v8 = some r → Run Tryz.prog ⟨⟨100, [], none⟩, [.mk ⟨77, [], none⟩ 9 (treeOf []) [itemC Tryz.prog 77 [1, 0] 2, codeC Tryz.prog 77 [1, 1]]]⟩ 19 (slices_ContainsFunc_77_h1_post e_v0 e_c28_0 se_v0 e_b28 Fr0 Hr r) [(0, sv0), (1, (.fn (.func 75) [] [(.ptr e_b28 0)])), (7, (.int .i64 v7)), (8, (.int .i64 v8))] [codeC Tryz.prog 100 [1, 0, 1, 0, 0], loopC Tryz.prog 100 [1, 0, 1, 0, 0], .inBlock 0, codeC Tryz.prog 100 [1, 1]] M := by
 intro N
 induction N with
 | zero =>
  intro v0 v7 v8 sv0 M r hv0 hH h
  simp [slices_ContainsFunc_77_h1_1] at h
 | succ N ih =>
  intro v0 v7 v8 sv0 M r hv0 hH h
  rw [slices_ContainsFunc_77_h1_1] at h
  refine Run.seq (Run.region ?_)
  refine Run.opG wantS_none (ex_lss rfl rfl) rfl ?_
  refine Run.opsEnd (Run.seq ?_)
  rcases btf ((decide (v8 < v7))) with hc29 | hc29
  ·have h := bif_t hc29 h
   refine Run.condT' rfl hc29 ?_
   refine Run.skip (Run.seq (Run.block (Run.seq (Run.region ?_))))
   refine Run.opG wantS_none (ex_move rfl) rfl ?_
   refine Run.opG wantS_none (ex_assign rfl) rfl ?_
   refine Run.opsEnd (Run.seq (Run.region ?_))
   refine Run.opG wantS_none (ex_move rfl) rfl ?_
   refine Run.opG wantS_none (ex_move rfl) rfl ?_
   refine Run.opG wantS_none (ex_move rfl) rfl ?_
   obtain ⟨x31, hx31, h⟩ := bnd_some h
   obtain ⟨p31, o31, _, hx31, hp31, ⟨q31_0, rfl, hq31_0⟩⟩ := sl_elem (P := Tryz.prog) (t := 34) (kk := .i64) hv0 hx31 els34
   refine Run.opG wantS_none (ex_elX rfl rfl hx31) rfl ?_
   refine Run.opG wantS_none (ex_loadA rfl (hH.ptrF hp31) rdLe_rfl agg127 rfl rfl rfl) rfl ?_
   refine Run.enter wantS_none (ex_closure rfl rfl mkk75 cal75) Tryz.func75 rfl rfl ?_
   refine Run.seq (Run.region ?_)
   refine Run.opX wantS_none rfl (ExG.box rfl rfl hH) ?_
   rintro _ M34 ⟨b33, rfl, (hH34 : Has Fr0 M34 (([.obj b33 (.row 127 .whole [(.str x31.Name), q31_0]), .obj e_b28 (.row 3 .whole [(.int .i64 e_c28_0)])] : List Ent) ++ Hr))⟩
   refine Run.opG wantS_none (ex_assign rfl) rfl ?_
   refine Run.opsEnd (Run.seq (Run.region ?_))
   refine Run.opG wantS_none (ex_loadA rfl (hH34.cells (i := 0) rfl 0 rfl) rdLe_rfl agg127 rfl rfl rfl) rfl ?_
   refine Run.opG wantS_none (ex_load1 rfl (hH34.cells (i := 1) rfl 0 rfl) rdLe_rfl agg3) rfl ?_
   obtain ⟨r36, hr36, h⟩ := bnd_some h
   refine Run.callP wantS_none (ex_call rfl mkk76 cal76) rfl (glitch_holdsAt_ok F x31 e_c28_0 q31_0 _ _ (hH34.slcF hq31_0) hr36) ?_
   refine Run.opG wantS_none (ex_assign rfl) rfl ?_
   refine Run.opsEnd ?_
   refine Run.retTo Tryz.func75 rfl (res_tmp rfl res_nil) rfl ?_
   refine Run.opsEnd ?_
   rcases btf (r36) with hc38 | hc38
   ·have h := bif_t hc38 h
    refine Run.condT' rfl hc38 ?_
    refine Run.seq (Run.region ?_)
    refine Run.opG wantS_none (ex_move rfl) rfl ?_
    refine Run.opG wantS_none (ex_assign rfl) rfl ?_
    refine Run.opsEnd ?_
    refine Run.retTo Tryz.func100 rfl (res_tmp rfl res_nil) rfl ?_
    refine Run.opG wantS_none (ex_geq rfl rfl) rfl ?_
    refine Run.opG wantS_none (ex_assign rfl) rfl ?_
    refine Run.opsEnd ?_
    cases h
    exact Run.ret Tryz.func77 rfl (res_tmp rfl res_nil) ⟨rfl, (hH34.pickT [1] rfl rfl).upF (fun b c hb => hH34.base b c hb)⟩
   ·have h := bif_f hc38 h
    refine Run.condF' rfl hc38 ?_
    refine Run.skip (Run.inBlock (Run.region ?_))
    refine Run.opG wantS_none (ex_add rfl rfl) rfl ?_
    refine Run.opG wantS_none (ex_move rfl) rfl ?_
    refine Run.opsEnd (Run.inLoop ?_)
    exact Run.low (.cons (fle_pick [] rfl) .nil) (Run.pick [0, 1, 7, 8] (ih v0 v7 (w64 (v8 + (1 : Int))) sv0 _ _ hv0 (hH34.pickT [1] rfl rfl) h))
  ·have h := bif_f hc29 h
   refine Run.condF' rfl hc29 ?_
   refine Run.exit rfl (Run.seq (Run.region ?_))
   refine Run.opG wantS_none (ex_assign rfl) rfl ?_
   refine Run.opsEnd ?_
   refine Run.retTo Tryz.func100 rfl (res_tmp rfl res_nil) rfl ?_
   refine Run.opG wantS_none (ex_geq rfl rfl) rfl ?_
   refine Run.opG wantS_none (ex_assign rfl) rfl ?_
   refine Run.opsEnd ?_
   cases h
   exact Run.ret Tryz.func77 rfl (res_tmp rfl res_nil) ⟨rfl, (hH.pickT [0] rfl rfl).upF (fun b c hb => hH.base b c hb)⟩

def slices_ContainsFunc_77_h1 (F : Nat) (e_v0 : (List S_api_Veto)) (e_c28_0 : Int) : Option (Bool) :=
 slices_ContainsFunc_77_h1_1 F e_v0 e_c28_0 F e_v0 (e_v0.length : Int) (0 : Int)

theorem slices_ContainsFunc_77_h1_ok (F : Nat) : ∀ (e_v0 : (List S_api_Veto)) (e_c28_0 : Int) (se_v0 : SV) (e_b28 : Pos) (Fr0 : Rd) (Hr : List Ent) (M : Mem) (r : Bool) (he_v0 : Slc Fr0 2 (rep127 Fr0) se_v0 e_v0) (hH : Has Fr0 M (([.obj e_b28 (.row 3 .whole [(.int .i64 e_c28_0)])] : List Ent) ++ Hr)) (h : slices_ContainsFunc_77_h1 F e_v0 e_c28_0 = some r), CallsM Tryz.prog 77 [se_v0, (.fn (.func 75) [] [(.ptr e_b28 0)])] M (slices_ContainsFunc_77_h1_post e_v0 e_c28_0 se_v0 e_b28 Fr0 Hr r) := by
 intro e_v0 e_c28_0 se_v0 e_b28 Fr0 Hr M r he_v0 hH h
 refine CallsM.run Tryz.func77 rfl rfl (show Run _ _ _ (slices_ContainsFunc_77_h1_post e_v0 e_c28_0 se_v0 e_b28 Fr0 Hr r) _ _ _ from ?_)
 rw [slices_ContainsFunc_77_h1] at h
 refine Run.seq (Run.region ?_)
 refine Run.opG wantS_none (ex_assign rfl) rfl ?_
 refine Run.opsEnd (Run.seq (Run.region ?_))
 refine Run.opG wantS_none (ex_move rfl) rfl ?_
 refine Run.opG wantS_none (ex_move rfl) rfl ?_
 refine Run.enter wantS_none (ex_call rfl mkk100 cal100) Tryz.func100 rfl rfl ?_
 refine Run.seq (Run.region ?_)
 refine Run.opG wantS_none (ex_assign rfl) rfl ?_
 refine Run.opsEnd (Run.seq (Run.seq (Run.region ?_)))
 refine Run.opG wantS_none (ex_move rfl) rfl ?_
 refine Run.opG wantS_none (ex_len' rfl he_v0 lenk34) rfl ?_
 refine Run.opG wantS_none (ex_move rfl) rfl ?_
 refine Run.opsEnd (Run.block (Run.loop ?_))
 exact Run.low (.cons (fle_pick [] rfl) .nil) (Run.pick [0, 1, 7, 8] (slices_ContainsFunc_77_h1_1_ok F e_v0 e_c28_0 se_v0 e_b28 Fr0 Hr F e_v0 (e_v0.length : Int) (0 : Int) se_v0 _ _ he_v0 hH h))

theorem plan74_1_1_0 : planOf Tryz.prog (opsC (atC Tryz.prog 74 [1, 1, 0])) = some [.fl 0, .fl 1, .fl 2, .an 3 [0], .fl 4, .fl 5, .fl 6, .sync] := by kernel_rfl
abbrev glitch_passed_post (r : (List Int)) : SV → Mem → Prop := fun s Me => ∃ q1, s = q1 ∧ Has (fun _ => none) Me [.vec 3 1 r.length q1 (r.flatMap enc3)]

def glitch_passed_2 (F : Nat) (hd1 : (List Int) → Int → Int → (List S_api_Veto) → (List Int) → Option ((List Int))) (v10 : (List Int)) (v11 v12 : Int) (c22_0 : (List S_api_Veto)) (l41 : (List Int)) : Option ((List Int)) :=
 hd1 v10 v11 (w64 (v12 + (1 : Int))) c22_0 l41

theorem glitch_passed_2_ok (F : Nat) (hd1 : (List Int) → Int → Int → (List S_api_Veto) → (List Int) → Option ((List Int))) (hhd1 : ∀ (v10 : (List Int)) (v11 v12 : Int) (c22_0 : (List S_api_Veto)) (l24 : (List Int)) (sv10 sc22_0 : SV) (b22 : Pos) (s24 : SV) (Fr : Rd) (M : Mem) (r : (List Int)) (hv10 : Slc Fr 1 (FlatR enc3) sv10 v10) (hc22_0 : Slc Fr 2 (rep127 Fr) sc22_0 c22_0) (hH : Has Fr M [.obj b22 (.row 34 .whole [sc22_0]), .vec 3 1 l24.length s24 (l24.flatMap enc3)]), hd1 v10 v11 v12 c22_0 l24 = some r → Run Tryz.prog ⟨⟨73, [], none⟩, [.mk ⟨45, [], none⟩ 8 (treeOf []) [itemC Tryz.prog 45 [1, 0] 2, codeC Tryz.prog 45 [1, 1]]]⟩ 29 (glitch_passed_post r) [(1, (.fn (.func 74) [] [(.ptr b22 0)])), (5, s24), (10, sv10), (11, (.int .i64 v11)), (12, (.int .i64 v12))] [codeC Tryz.prog 73 [1, 1, 0, 1, 0, 0], loopC Tryz.prog 73 [1, 1, 0, 1, 0, 0], .inBlock 0, codeC Tryz.prog 73 [1, 1, 1]] M) : ∀ (v10 : (List Int)) (v11 v12 : Int) (c22_0 : (List S_api_Veto)) (l41 : (List Int)) (sv10 sc22_0 : SV) (b22 : Pos) (s41 : SV) (Fr : Rd) (M : Mem) (r : (List Int)) (hv10 : Slc Fr 1 (FlatR enc3) sv10 v10) (hc22_0 : Slc Fr 2 (rep127 Fr) sc22_0 c22_0) (hH : Has Fr M [.obj b22 (.row 34 .whole [sc22_0]), .vec 3 1 l41.length s41 (l41.flatMap enc3)]), glitch_passed_2 F hd1 v10 v11 v12 c22_0 l41 = some r → Run Tryz.prog ⟨⟨73, [], none⟩, [.mk ⟨45, [], none⟩ 8 (treeOf []) [itemC Tryz.prog 45 [1, 0] 2, codeC Tryz.prog 45 [1, 1]]]⟩ 29 (glitch_passed_post r) [(1, (.fn (.func 74) [] [(.ptr b22 0)])), (5, s41), (10, sv10), (11, (.int .i64 v11)), (12, (.int .i64 v12))] [itemC Tryz.prog 73 [1, 1, 0, 1, 0, 0, 1, 1, 1] 0, loopC Tryz.prog 73 [1, 1, 0, 1, 0, 0], .inBlock 0, codeC Tryz.prog 73 [1, 1, 1]] M := by
 intro v10 v11 v12 c22_0 l41 sv10 sc22_0 b22 s41 Fr M r hv10 hc22_0 hH h
 rw [glitch_passed_2] at h
 refine Run.opG wantS_none (ex_add rfl rfl) rfl ?_
 refine Run.opG wantS_none (ex_move rfl) rfl ?_
 refine Run.opsEnd (Run.inLoop ?_)
 exact Run.low (.cons (fle_pick [] rfl) .nil) (Run.pick [1, 5, 10, 11, 12] (hhd1 v10 v11 (w64 (v12 + (1 : Int))) c22_0 l41 sv10 sc22_0 b22 s41 _ _ _ hv10 hc22_0 hH h))

def glitch_passed_1 (F : Nat) : Nat → (List Int) → Int → Int → (List S_api_Veto) → (List Int) → Option ((List Int))
 | 0, _, _, _, _, _ => none
 | N + 1, v10, v11, v12, c22_0, l24 =>
  bif (decide (v12 < v11)) then
   bnd (idx v10 v12) fun x28 =>
   bnd (slices_ContainsFunc_77_h1 F c22_0 x28) fun r32 =>
   bif (!r32) then
    bnd (apd 8 l24 ([x28] : List Int)) fun l40 =>
    glitch_passed_2 F (glitch_passed_1 F N) v10 v11 v12 c22_0 l40
   else
    glitch_passed_2 F (glitch_passed_1 F N) v10 v11 v12 c22_0 l24
  else
   some l24

theorem glitch_passed_1_ok (F : Nat) : ∀ (N : Nat), ∀ (v10 : (List Int)) (v11 v12 : Int) (c22_0 : (List S_api_Veto)) (l24 : (List Int)) (sv10 sc22_0 : SV) (b22 : Pos) (s24 : SV) (Fr : Rd) (M : Mem) (r : (List Int)) (hv10 : Slc Fr 1 (FlatR enc3) sv10 v10) (hc22_0 : Slc Fr 2 (rep127 Fr) sc22_0 c22_0) (hH : Has Fr M [.obj b22 (.row 34 .whole [sc22_0]), .vec 3 1 l24.length s24 (l24.flatMap enc3)]), glitch_passed_1 F N v10 v11 v12 c22_0 l24 = some r → Run Tryz.prog ⟨⟨73, [], none⟩, [.mk ⟨45, [], none⟩ 8 (treeOf []) [itemC Tryz.prog 45 [1, 0] 2, codeC Tryz.prog 45 [1, 1]]]⟩ 29 (glitch_passed_post r) [(1, (.fn (.func 74) [] [(.ptr b22 0)])), (5, s24), (10, sv10), (11, (.int .i64 v11)), (12, (.int .i64 v12))] [codeC Tryz.prog 73 [1, 1, 0, 1, 0, 0], loopC Tryz.prog 73 [1, 1, 0, 1, 0, 0], .inBlock 0, codeC Tryz.prog 73 [1, 1, 1]] M := by
 intro N
 induction N with
 | zero =>
  intro v10 v11 v12 c22_0 l24 sv10 sc22_0 b22 s24 Fr M r hv10 hc22_0 hH h
  simp [glitch_passed_1] at h
 | succ N ih =>
  intro v10 v11 v12 c22_0 l24 sv10 sc22_0 b22 s24 Fr M r hv10 hc22_0 hH h
  rw [glitch_passed_1] at h
  refine Run.seq (Run.region ?_)
  refine Run.opG wantS_none (ex_lss rfl rfl) rfl ?_
  refine Run.opsEnd (Run.seq ?_)
  rcases btf ((decide (v12 < v11))) with hc26 | hc26
  ·have h := bif_t hc26 h
   refine Run.condT' rfl hc26 ?_
   refine Run.skip (Run.seq (Run.block (Run.seq (Run.region ?_))))
   obtain ⟨x28, hx28, h⟩ := bnd_some h
   obtain ⟨p28, o28, _, hx28, hp28, rfl⟩ := sl_elem (P := Tryz.prog) (t := 24) (kk := .i64) hv10 hx28 els24
   refine Run.opG wantS_none (ex_elX rfl rfl hx28) rfl ?_
   refine Run.opG wantS_none (ex_load1 rfl (hH.ptrF hp28) rdLe_rfl agg3) rfl ?_
   refine Run.opG wantS_none (ex_assign rfl) rfl ?_
   refine Run.opsEnd (Run.seq (Run.region ?_))
   refine Run.opG wantS_none (ex_move rfl) rfl ?_
   refine Run.opG wantS_none (ex_move rfl) rfl ?_
   refine Run.enter wantS_none (ex_closure rfl rfl mkk74 cal74) Tryz.func74 rfl rfl ?_
   refine Run.seq (Run.region ?_)
   refine Run.opX wantS_none rfl (ExG.box rfl rfl hH) ?_
   rintro _ M31 ⟨b30, rfl, hH31⟩
   refine Run.opG wantS_none (ex_assign rfl) rfl ?_
   refine Run.opG wantS_none (ex_assign rfl) rfl ?_
   refine Run.opsEnd (Run.seq (Run.region ?_))
   refine Run.opG wantS_none (ex_makeFunc rfl rfl) rfl ?_
   refine Run.opG wantS_none (ex_assign rfl) rfl ?_
   refine Run.opsEnd (Run.seq ?_)
   refine Run.drawG plan74_1_1_0 ?_
   refine DrawG.fl rfl (ev_ex wantS_none (ex_load1 rfl (hH31.cells (i := 0) rfl 0 rfl) rdLe_rfl agg3)) rfl ?_
   refine DrawG.fl rfl (ev_ex wantS_none (ex_load1 rfl (hH31.cells (i := 1) rfl 0 rfl) rdLe_rfl agg34)) rfl ?_
   refine DrawG.fl rfl (ev_ex wantS_none (ex_move rfl)) rfl ?_
   obtain ⟨r32, hr32, h⟩ := bnd_some h
   refine DrawG.call rfl wantS_none (ex_call rfl mkk77 cal77) rfl (slices_ContainsFunc_77_h1_ok F c22_0 x28 sc22_0 b30 Fr [.obj b22 (.row 34 .whole [sc22_0]), .vec 3 1 l24.length s24 (l24.flatMap enc3)] _ _ hc22_0 hH31 hr32) ?_
   rintro _ M33 ⟨rfl, (hH33 : Has Fr M33 [.obj b30 (.row 3 .whole [(.int .i64 x28)]), .obj b22 (.row 34 .whole [sc22_0]), .vec 3 1 l24.length s24 (l24.flatMap enc3)])⟩
   refine ⟨(st_cons rfl (ev_ex wantS_none (ex_load1 rfl (hH33.cells (i := 0) rfl 0 rfl) rdLe_rfl agg3)) rfl rfl rfl st_nil), ?_⟩
   refine DrawG.fl rfl (ev_ex wantS_none (ex_not rfl)) rfl ?_
   refine DrawG.fl rfl (ev_ex wantS_none (ex_assign rfl)) rfl ?_
   refine DrawG.fl rfl (ev_ex wantS_none (ex_assign rfl)) rfl ?_
   refine DrawG.sync ?_
   refine DrawG.nil ?_
   refine Run.retTo Tryz.func74 rfl (res_tmp rfl (res_tmp rfl res_nil)) rfl ?_
   refine Run.opG wantS_none (ex_move rfl) rfl ?_
   refine Run.opG wantS_none (ex_extract rfl rfl) rfl ?_
   refine Run.opG wantS_none (ex_extract rfl rfl) rfl ?_
   refine Run.opG wantS_none (ex_assign rfl) rfl ?_
   refine Run.opG wantS_none (ex_assign rfl) rfl ?_
   refine Run.opsEnd (Run.seq (Run.region ?_))
   refine Run.opG wantS_none (ex_move rfl) rfl ?_
   refine Run.opsEnd ?_
   rcases btf ((!r32)) with hc34 | hc34
   ·have h := bif_t hc34 h
    refine Run.condT' rfl hc34 ?_
    refine Run.region ?_
    refine Run.opG wantS_none (ex_move rfl) rfl ?_
    refine Run.opG wantS_none (ex_move rfl) rfl ?_
    refine Run.opX wantS_none rfl (ExG.built (enc := enc3) (l := ([x28] : List Int)) (z := 1) rfl elt24 rfl rfl rfl enc3_len hH33) ?_
    rintro s36 M37 (hH37 : Has Fr M37 [.vec 3 1 ([x28] : List Int).length s36 (([x28] : List Int).flatMap enc3), .obj b30 (.row 3 .whole [(.int .i64 x28)]), .obj b22 (.row 34 .whole [sc22_0]), .vec 3 1 l24.length s24 (l24.flatMap enc3)])
    obtain ⟨l40, hl40, h⟩ := bnd_some h
    refine Run.opX wantS_none rfl (ExG.append rfl rfl hH37 (i := 3) rfl enc3_len rfl enc3_ones appt24_24 rfl (len_slc (hH37.slc (i := 0) rfl enc3_len)) (first_slc (hH37.slc (i := 0) rfl enc3_len) (rdLe_rdRow _) enc3_len) hl40) ?_
    rintro s40 M42 (hH42 : Has Fr M42 [.vec 3 1 ([x28] : List Int).length s36 (([x28] : List Int).flatMap enc3), .obj b30 (.row 3 .whole [(.int .i64 x28)]), .obj b22 (.row 34 .whole [sc22_0]), .vec 3 1 l40.length s40 (l40.flatMap enc3)])
    refine Run.opG wantS_none (ex_assign rfl) rfl ?_
    refine Run.opsEnd (Run.inBlock (Run.region ?_))
    exact Run.low (.cons (fle_pick [] rfl) .nil) (Run.pick [1, 5, 10, 11, 12] (glitch_passed_2_ok F (glitch_passed_1 F N) ih v10 v11 v12 c22_0 l40 sv10 sc22_0 b22 s40 _ _ _ hv10 hc22_0 (hH42.pick [2, 3] rfl rfl) h))
   ·have h := bif_f hc34 h
    refine Run.condF' rfl hc34 ?_
    refine Run.skip (Run.inBlock (Run.region ?_))
    exact Run.low (.cons (fle_pick [] rfl) .nil) (Run.pick [1, 5, 10, 11, 12] (glitch_passed_2_ok F (glitch_passed_1 F N) ih v10 v11 v12 c22_0 l24 sv10 sc22_0 b22 s24 _ _ _ hv10 hc22_0 (hH33.pick [1, 2] rfl rfl) h))
  ·have h := bif_f hc26 h
   refine Run.condF' rfl hc26 ?_
   refine Run.exit rfl (Run.seq (Run.region ?_))
   refine Run.opG wantS_none (ex_move rfl) rfl ?_
   refine Run.opG wantS_none (ex_assign rfl) rfl ?_
   refine Run.opsEnd ?_
   refine Run.retTo Tryz.func73 rfl (res_tmp rfl res_nil) rfl ?_
   refine Run.opG wantS_none (ex_assign rfl) rfl ?_
   refine Run.opsEnd ?_
   cases h
   exact Run.ret Tryz.func45 rfl (res_tmp rfl res_nil) ⟨_, rfl, (hH.pick [1] rfl rfl).upF (none_le _)⟩

def glitch_passed (F : Nat) (a0 : (List S_api_Veto)) (a1 : (List Int)) : Option ((List Int)) :=
 glitch_passed_1 F F a1 (a1.length : Int) (0 : Int) a0 ([] : List Int)

theorem glitch_passed_ok (F : Nat) (a0 : (List S_api_Veto)) (a1 : (List Int)) (s0 s1 : SV) (r : (List Int)) (M : Mem) (hs0 : Slc (rd M) 2 (rep127 (rd M)) s0 a0) (hs1 : Slc (rd M) 1 (FlatR enc3) s1 a1) (h : glitch_passed F a0 a1 = some r) : CallsM Tryz.prog 45 [s0, s1] M (fun s M' => ∃ q1, s = q1 ∧ New M M' [.vec 3 1 r.length q1 (r.flatMap enc3)]) := by
 refine CallsM.fresh (Q := glitch_passed_post r) Tryz.func45 rfl rfl ?_ (by rintro s Me ⟨q1, rfl, hx⟩ ha hw; exact ⟨_, rfl, New.of rfl hx ha hw⟩)
 rw [glitch_passed] at h
 replace hs0 := hs0.mono (rdLe_frozen M) (fun _ _ => rep127_mo (rdLe_frozen M))
 replace hs1 := hs1.mono (rdLe_frozen M) (fun _ _ h => h)
 have hH := Has.nil (frozen M)
 refine Run.seq (Run.region ?_)
 refine Run.opX wantS_none rfl (ExG.box rfl (cells_one (slc_one hs0)) hH) ?_
 rintro _ M23 ⟨b22, rfl, hH23⟩
 refine Run.opG wantS_none (ex_assign rfl) rfl ?_
 refine Run.opsEnd (Run.seq (Run.region ?_))
 refine Run.opG wantS_none (ex_move rfl) rfl ?_
 refine Run.opG wantS_none (ex_makeFunc rfl rfl) rfl ?_
 refine Run.enter wantS_none (ex_call rfl mkk73 cal73) Tryz.func73 rfl rfl ?_
 refine Run.seq (Run.region ?_)
 refine Run.opG wantS_none (ex_assign rfl) rfl ?_
 refine Run.opsEnd (Run.seq (Run.region ?_))
 refine Run.opG wantS_none (ex_assign rfl) rfl ?_
 refine Run.opsEnd (Run.seq (Run.seq (Run.region ?_)))
 refine Run.opG wantS_none (ex_move rfl) rfl ?_
 refine Run.opG wantS_none (ex_len' rfl hs1 lenk24) rfl ?_
 refine Run.opG wantS_none (ex_move rfl) rfl ?_
 refine Run.opsEnd (Run.block (Run.loop ?_))
 have hH25 : Has (ro (frozen M)) M23 [.vec 3 1 ([] : List Int).length .nils (([] : List Int).flatMap enc3), .obj b22 (.row 34 .whole [s0])] := hH23.nils 3 1
 exact Run.low (.cons (fle_pick [] rfl) .nil) (Run.pick [1, 5, 10, 11, 12] (glitch_passed_1_ok F F a1 (a1.length : Int) (0 : Int) a0 ([] : List Int) s1 s0 b22 .nils _ _ _ hs1 hs0 (hH25.pick [1, 0] rfl rfl) h))

theorem mkk45 : makeK Tryz.prog 45 = none := by kernel_rfl
theorem cal45 : callable Tryz.prog 45 = true := by kernel_rfl
abbrev glitch_Passed_post (r : (List Int) × Int) : SV → Mem → Prop := fun s Me => ∃ q1, s = (.tuple [q1, (.int .i64 r.2)]) ∧ Has (fun _ => none) Me [.vec 3 1 r.1.length q1 (r.1.flatMap enc3)]

def glitch_Passed (F : Nat) (a0 : (List S_api_Veto)) (a1 : (List Int)) : Option ((List Int) × Int) :=
 bnd (glitch_areVetoes F a0) fun r22 =>
 bif (!r22) then
  some (([] : List Int), (63 : Int))
 else
  bnd (glitch_areTimes F a1) fun r28 =>
  bif (!r28) then
   some (([] : List Int), (64 : Int))
  else
   bnd (glitch_passed F a0 a1) fun r35 =>
   some (r35, (0 : Int))

theorem glitch_Passed_ok (F : Nat) (a0 : (List S_api_Veto)) (a1 : (List Int)) (s0 s1 : SV) (r : (List Int) × Int) (M : Mem) (hs0 : Slc (rd M) 2 (rep127 (rd M)) s0 a0) (hs1 : Slc (rd M) 1 (FlatR enc3) s1 a1) (h : glitch_Passed F a0 a1 = some r) : CallsM Tryz.prog 19 [s0, s1] M (fun s M' => ∃ q1, s = (.tuple [q1, (.int .i64 r.2)]) ∧ New M M' [.vec 3 1 r.1.length q1 (r.1.flatMap enc3)]) := by
 refine CallsM.fresh (Q := glitch_Passed_post r) Tryz.func19 rfl rfl ?_ (by rintro s Me ⟨q1, rfl, hx⟩ ha hw; exact ⟨_, rfl, New.of rfl hx ha hw⟩)
 rw [glitch_Passed] at h
 replace hs0 := hs0.mono (rdLe_frozen M) (fun _ _ => rep127_mo (rdLe_frozen M))
 replace hs1 := hs1.mono (rdLe_frozen M) (fun _ _ h => h)
 have hH := Has.nil (frozen M)
 refine Run.seq (Run.region ?_)
 refine Run.opG wantS_none (ex_assign rfl) rfl ?_
 refine Run.opG wantS_none (ex_assign rfl) rfl ?_
 refine Run.opsEnd (Run.seq (Run.block (Run.seq (Run.region ?_))))
 refine Run.opG wantS_none (ex_move rfl) rfl ?_
 obtain ⟨r22, hr22, h⟩ := bnd_some h
 refine Run.callP wantS_none (ex_call rfl mkk43 cal43) rfl (glitch_areVetoes_ok F a0 s0 _ _ ((hs0).mono hH.le (fun _ _ => rep127_mo hH.le)) hr22) ?_
 refine Run.opG wantS_none (ex_not rfl) rfl ?_
 refine Run.opG wantS_none (ex_assign rfl) rfl ?_
 refine Run.opsEnd ?_
 rcases btf ((!r22)) with hc24 | hc24
 ·have h := bif_t hc24 h
  refine Run.condT' rfl hc24 ?_
  refine Run.seq (Run.region ?_)
  refine Run.opG wantS_none (ex_assign rfl) rfl ?_
  refine Run.opG wantS_none (ex_assign rfl) rfl ?_
  refine Run.opsEnd ?_
  have hH26 : Has (ro (frozen M)) (frozen M) [.vec 3 1 ([] : List Int).length .nils (([] : List Int).flatMap enc3)] := hH.nils 3 1
  cases h
  exact Run.ret Tryz.func19 rfl (res_tmp rfl (res_tmp rfl res_nil)) ⟨_, rfl, (hH26.pick [0] rfl rfl).upF (none_le _)⟩
 ·have h := bif_f hc24 h
  refine Run.condF' rfl hc24 ?_
  refine Run.seq (Run.region ?_)
  refine Run.opG wantS_none (ex_move rfl) rfl ?_
  obtain ⟨r28, hr28, h⟩ := bnd_some h
  refine Run.callP wantS_none (ex_call rfl mkk44 cal44) rfl (glitch_areTimes_ok F a1 s1 _ _ (hH.slcF hs1) hr28) ?_
  refine Run.opG wantS_none (ex_not rfl) rfl ?_
  refine Run.opG wantS_none (ex_assign rfl) rfl ?_
  refine Run.opsEnd ?_
  rcases btf ((!r28)) with hc30 | hc30
  ·have h := bif_t hc30 h
   refine Run.condT' rfl hc30 ?_
   refine Run.seq (Run.region ?_)
   refine Run.opG wantS_none (ex_assign rfl) rfl ?_
   refine Run.opG wantS_none (ex_assign rfl) rfl ?_
   refine Run.opsEnd ?_
   have hH32 : Has (ro (frozen M)) (frozen M) [.vec 3 1 ([] : List Int).length .nils (([] : List Int).flatMap enc3)] := hH.nils 3 1
   cases h
   exact Run.ret Tryz.func19 rfl (res_tmp rfl (res_tmp rfl res_nil)) ⟨_, rfl, (hH32.pick [0] rfl rfl).upF (none_le _)⟩
  ·have h := bif_f hc30 h
   refine Run.condF' rfl hc30 ?_
   refine Run.skip (Run.inBlock (Run.seq (Run.region ?_)))
   refine Run.opG wantS_none (ex_move rfl) rfl ?_
   refine Run.opG wantS_none (ex_move rfl) rfl ?_
   obtain ⟨r35, hr35, h⟩ := bnd_some h
   refine Run.callX wantS_none (ex_call rfl mkk45 cal45) rfl (glitch_passed_ok F a0 a1 s0 s1 _ _ ((hs0).mono hH.le (fun _ _ => rep127_mo hH.le)) (hH.slcF hs1) hr35) ?_
   rintro s35_0 M37 ⟨_, rfl, hN35⟩
   have hH37 : Has (ro (frozen M)) M37 [.vec 3 1 r35.length s35_0 (r35.flatMap enc3)] := hN35.1 _ _ hH
   refine Run.opG wantS_none (ex_assign rfl) rfl ?_
   refine Run.opG wantS_none (ex_assign rfl) rfl ?_
   refine Run.opsEnd ?_
   cases h
   exact Run.ret Tryz.func19 rfl (res_tmp rfl (res_tmp rfl res_nil)) ⟨_, rfl, (hH37.pick [0] rfl rfl).upF (none_le _)⟩

theorem mkk19 : makeK Tryz.prog 19 = none := by kernel_rfl
theorem cal19 : callable Tryz.prog 19 = true := by kernel_rfl
abbrev glitch_dead_post (r : Int) : SV → Mem → Prop := fun s _ => s = (.int .i64 r)

def glitch_dead_2 (F : Nat) : Nat → Int → Int → Int → (List S_api_Segment) → Option (Int)
 | 0, _, _, _, _ => none
 | N + 1, v8, v25, v26, l38 =>
  bif (decide (v26 < v25)) then
   bnd (idx l38 v26) fun x42 =>
   (glitch_dead_2 F N) (w64 (v8 + (w64 (x42.To - x42.From)))) v25 (w64 (v26 + (1 : Int))) l38
  else
   some v8

theorem glitch_dead_2_ok (F : Nat) : ∀ (N : Nat), ∀ (v8 v25 v26 : Int) (l38 : (List S_api_Segment)) (s38 : SV) (Fr : Rd) (M : Mem) (r : Int) (hH : Has Fr M [.vec 106 2 l38.length s38 (l38.flatMap enc106)]), glitch_dead_2 F N v8 v25 v26 l38 = some r → Run Tryz.prog ⟨⟨47, [], none⟩, []⟩ 39 (glitch_dead_post r) [(8, (.int .i64 v8)), (24, s38), (25, (.int .i64 v25)), (26, (.int .i64 v26))] [codeC Tryz.prog 47 [1, 1, 1, 1, 0, 1, 0, 0], loopC Tryz.prog 47 [1, 1, 1, 1, 0, 1, 0, 0], .inBlock 2, codeC Tryz.prog 47 [1, 1, 1, 1, 1]] M := by
 intro N
 induction N with
 | zero =>
  intro v8 v25 v26 l38 s38 Fr M r hH h
  simp [glitch_dead_2] at h
 | succ N ih =>
  intro v8 v25 v26 l38 s38 Fr M r hH h
  rw [glitch_dead_2] at h
  refine Run.seq (Run.region ?_)
  refine Run.opG wantS_none (ex_lss rfl rfl) rfl ?_
  refine Run.opsEnd (Run.seq ?_)
  rcases btf ((decide (v26 < v25))) with hc40 | hc40
  ·have h := bif_t hc40 h
   refine Run.condT' rfl hc40 ?_
   refine Run.skip (Run.seq (Run.block (Run.seq (Run.region ?_))))
   obtain ⟨x42, hx42, h⟩ := bnd_some h
   obtain ⟨p42, o42, hb42, hx42, he42⟩ := vec_elem (P := Tryz.prog) (t := 33) (kk := .i64) hH (i := 0) rfl hx42 els33
   refine Run.opG wantS_none (ex_elX rfl rfl hx42) rfl ?_
   refine Run.opG wantS_none (ex_loadA rfl (hH.at (enc := enc106) (a := x42) (i := 0) rfl hb42 he42 enc106_len) rdLe_rfl agg106 rfl rfl rfl) rfl ?_
   refine Run.opX wantS_none rfl (ExG.new (v := fun b => .ptr b 0) (ex_alloc zer106) hH) ?_
   rintro _ M45 ⟨b44, rfl, hH45⟩
   refine Run.opX wantS_none rfl (ExG.storeC (c' := [(.int .i64 x42.From), (.int .i64 x42.To)]) rfl rfl rfl hH45 (i := 0) rfl sz106 rfl rfl rfl rfl rfl) ?_
   rintro _ M46 ⟨rfl, (hH46 : Has Fr M46 [.obj b44 (.row 106 .whole [(.int .i64 x42.From), (.int .i64 x42.To)]), .vec 106 2 l38.length s38 (l38.flatMap enc106)])⟩
   refine Run.opsEnd (Run.region ?_)
   refine Run.opG wantS_none (ex_move rfl) rfl ?_
   refine Run.opG wantS_none (ex_fieldAddr rfl off106_1) rfl ?_
   refine Run.opG wantS_none (ex_load1 rfl (hH46.cells (i := 0) rfl 1 rfl) rdLe_rfl agg3) rfl ?_
   refine Run.opG wantS_none (ex_fieldAddr rfl off106_0) rfl ?_
   refine Run.opG wantS_none (ex_load1 rfl (hH46.cells (i := 0) rfl 0 rfl) rdLe_rfl agg3) rfl ?_
   refine Run.opG wantS_none (ex_sub rfl rfl) rfl ?_
   refine Run.opG wantS_none (ex_add rfl rfl) rfl ?_
   refine Run.opG wantS_none (ex_assign rfl) rfl ?_
   refine Run.opsEnd (Run.inBlock (Run.region ?_))
   refine Run.opG wantS_none (ex_add rfl rfl) rfl ?_
   refine Run.opG wantS_none (ex_move rfl) rfl ?_
   refine Run.opsEnd (Run.inLoop ?_)
   exact Run.pick [8, 24, 25, 26] (ih (w64 (v8 + (w64 (x42.To - x42.From)))) v25 (w64 (v26 + (1 : Int))) l38 s38 _ _ _ (hH46.pick [1] rfl rfl) h)
  ·have h := bif_f hc40 h
   refine Run.condF' rfl hc40 ?_
   refine Run.exit rfl (Run.seq (Run.region ?_))
   refine Run.opG wantS_none (ex_move rfl) rfl ?_
   refine Run.opG wantS_none (ex_assign rfl) rfl ?_
   refine Run.opsEnd ?_
   cases h
   exact Run.ret Tryz.func47 rfl (res_tmp rfl res_nil) rfl

def glitch_dead_1 (F : Nat) : Nat → Int → (List S_api_Veto) → Int → Int → (List S_api_Segment) → Option (Int)
 | 0, _, _, _, _, _ => none
 | N + 1, v1, v11, v12, v13, l21 =>
  bif (decide (v13 < v12)) then
   bnd (idx v11 v13) fun x25 =>
   bnd (apd 16 l21 x25.Segments) fun l32 =>
   (glitch_dead_1 F N) v1 v11 v12 (w64 (v13 + (1 : Int))) l32
  else
   bnd (glitch_held F l21 v1) fun r37 =>
   glitch_dead_2 F F (0 : Int) (r37.length : Int) (0 : Int) r37

theorem glitch_dead_1_ok (F : Nat) : ∀ (N : Nat), ∀ (v1 : Int) (v11 : (List S_api_Veto)) (v12 v13 : Int) (l21 : (List S_api_Segment)) (sv11 s21 : SV) (Fr : Rd) (M : Mem) (r : Int) (hv11 : Slc Fr 2 (rep127 Fr) sv11 v11) (hH : Has Fr M [.vec 106 2 l21.length s21 (l21.flatMap enc106)]), glitch_dead_1 F N v1 v11 v12 v13 l21 = some r → Run Tryz.prog ⟨⟨47, [], none⟩, []⟩ 39 (glitch_dead_post r) [(1, (.int .i64 v1)), (5, s21), (11, sv11), (12, (.int .i64 v12)), (13, (.int .i64 v13))] [codeC Tryz.prog 47 [1, 1, 0, 1, 0, 0], loopC Tryz.prog 47 [1, 1, 0, 1, 0, 0], .inBlock 0, codeC Tryz.prog 47 [1, 1, 1]] M := by
 intro N
 induction N with
 | zero =>
  intro v1 v11 v12 v13 l21 sv11 s21 Fr M r hv11 hH h
  simp [glitch_dead_1] at h
 | succ N ih =>
  intro v1 v11 v12 v13 l21 sv11 s21 Fr M r hv11 hH h
  rw [glitch_dead_1] at h
  refine Run.seq (Run.region ?_)
  refine Run.opG wantS_none (ex_lss rfl rfl) rfl ?_
  refine Run.opsEnd (Run.seq ?_)
  rcases btf ((decide (v13 < v12))) with hc23 | hc23
  ·have h := bif_t hc23 h
   refine Run.condT' rfl hc23 ?_
   refine Run.skip (Run.seq (Run.block (Run.seq (Run.region ?_))))
   obtain ⟨x25, hx25, h⟩ := bnd_some h
   obtain ⟨p25, o25, _, hx25, hp25, ⟨q25_0, rfl, hq25_0⟩⟩ := sl_elem (P := Tryz.prog) (t := 34) (kk := .i64) hv11 hx25 els34
   refine Run.opG wantS_none (ex_elX rfl rfl hx25) rfl ?_
   refine Run.opG wantS_none (ex_loadA rfl (hH.ptrF hp25) rdLe_rfl agg127 rfl rfl rfl) rfl ?_
   refine Run.opX wantS_none rfl (ExG.new (v := fun b => .ptr b 0) (ex_alloc zer127) hH) ?_
   rintro _ M28 ⟨b27, rfl, hH28⟩
   refine Run.opX wantS_none rfl (ExG.storeC (c' := [(.str x25.Name), q25_0]) rfl rfl rfl hH28 (i := 0) rfl sz127 rfl rfl rfl (ones_cons rfl (ones_cons (slc_one hq25_0) ones_nil)) rfl) ?_
   rintro _ M29 ⟨rfl, (hH29 : Has Fr M29 [.obj b27 (.row 127 .whole [(.str x25.Name), q25_0]), .vec 106 2 l21.length s21 (l21.flatMap enc106)])⟩
   refine Run.opsEnd (Run.region ?_)
   refine Run.opG wantS_none (ex_move rfl) rfl ?_
   refine Run.opG wantS_none (ex_fieldAddr rfl off127_1) rfl ?_
   refine Run.opG wantS_none (ex_load1 rfl (hH29.cells (i := 0) rfl 1 rfl) rdLe_rfl agg33) rfl ?_
   obtain ⟨l32, hl32, h⟩ := bnd_some h
   refine Run.opX wantS_none rfl (ExG.append rfl rfl hH29 (i := 1) rfl enc106_len rfl enc106_ones appt33_33 rfl (len_slc hq25_0) (first_slc hq25_0 (rdLe_roF hH29) enc106_len) hl32) ?_
   rintro s32 M34 (hH34 : Has Fr M34 [.obj b27 (.row 127 .whole [(.str x25.Name), q25_0]), .vec 106 2 l32.length s32 (l32.flatMap enc106)])
   refine Run.opG wantS_none (ex_assign rfl) rfl ?_
   refine Run.opsEnd (Run.inBlock (Run.region ?_))
   refine Run.opG wantS_none (ex_add rfl rfl) rfl ?_
   refine Run.opG wantS_none (ex_move rfl) rfl ?_
   refine Run.opsEnd (Run.inLoop ?_)
   exact Run.pick [1, 5, 11, 12, 13] (ih v1 v11 v12 (w64 (v13 + (1 : Int))) l32 sv11 s32 _ _ _ hv11 (hH34.pick [1] rfl rfl) h)
  ·have h := bif_f hc23 h
   refine Run.condF' rfl hc23 ?_
   refine Run.exit rfl (Run.seq (Run.region ?_))
   refine Run.opG wantS_none (ex_assign rfl) rfl ?_
   refine Run.opsEnd (Run.seq (Run.seq (Run.region ?_)))
   refine Run.opG wantS_none (ex_move rfl) rfl ?_
   refine Run.opG wantS_none (ex_move rfl) rfl ?_
   obtain ⟨r37, hr37, h⟩ := bnd_some h
   refine Run.callX wantS_none (ex_call rfl mkk79 cal79) rfl (glitch_held_ok F l21 v1 s21 _ _ (hH.slc (i := 0) rfl enc106_len) hr37) ?_
   rintro s37_0 M39 ⟨_, rfl, hN37⟩
   have hH39 : Has Fr M39 [.vec 106 2 r37.length s37_0 (r37.flatMap enc106), .vec 106 2 l21.length s21 (l21.flatMap enc106)] := hN37.1 _ _ hH
   refine Run.opG wantS_none (ex_len' rfl (hH39.slc (i := 0) rfl enc106_len) lenk33) rfl ?_
   refine Run.opG wantS_none (ex_move rfl) rfl ?_
   refine Run.opsEnd (Run.block (Run.loop ?_))
   exact Run.pick [8, 24, 25, 26] (glitch_dead_2_ok F F (0 : Int) (r37.length : Int) (0 : Int) r37 s37_0 _ _ _ (hH39.pick [0] rfl rfl) h)

def glitch_dead (F : Nat) (a0 : (List S_api_Veto)) (a1 : Int) : Option (Int) :=
 glitch_dead_1 F F a1 a0 (a0.length : Int) (0 : Int) ([] : List S_api_Segment)

theorem glitch_dead_ok (F : Nat) (a0 : (List S_api_Veto)) (a1 : Int) (s0 : SV) (r : Int) (M : Mem) (hs0 : Slc (rd M) 2 (rep127 (rd M)) s0 a0) (h : glitch_dead F a0 a1 = some r) : CallsM Tryz.prog 47 [s0, (.int .i64 a1)] M (fun s M' => s = (.int .i64 r) ∧ M' = M) := by
 refine CallsM.plain Tryz.func47 rfl rfl rfl (show Run _ _ _ (glitch_dead_post r) _ _ _ from ?_)
 rw [glitch_dead] at h
 replace hs0 := hs0.mono (rdLe_frozen M) (fun _ _ => rep127_mo (rdLe_frozen M))
 have hH := Has.nil (frozen M)
 refine Run.seq (Run.region ?_)
 refine Run.opG wantS_none (ex_assign rfl) rfl ?_
 refine Run.opsEnd (Run.seq (Run.region ?_))
 refine Run.opG wantS_none (ex_assign rfl) rfl ?_
 refine Run.opsEnd (Run.seq (Run.seq (Run.region ?_)))
 refine Run.opG wantS_none (ex_move rfl) rfl ?_
 refine Run.opG wantS_none (ex_len' rfl hs0 lenk34) rfl ?_
 refine Run.opG wantS_none (ex_move rfl) rfl ?_
 refine Run.opsEnd (Run.block (Run.loop ?_))
 have hH22 : Has (ro (frozen M)) (frozen M) [.vec 106 2 ([] : List S_api_Segment).length .nils (([] : List S_api_Segment).flatMap enc106)] := hH.nils 106 2
 exact Run.pick [1, 5, 11, 12, 13] (glitch_dead_1_ok F F a1 a0 (a0.length : Int) (0 : Int) ([] : List S_api_Segment) s0 .nils _ _ _ hs0 hH22 h)

theorem mkk47 : makeK Tryz.prog 47 = none := by kernel_rfl
theorem cal47 : callable Tryz.prog 47 = true := by kernel_rfl
abbrev glitch_Dead_post (r : Int × Int) : SV → Mem → Prop := fun s _ => s = (.tuple [(.int .i64 r.1), (.int .i64 r.2)])

def glitch_Dead (F : Nat) (a0 : (List S_api_Veto)) (a1 : Int) : Option (Int × Int) :=
 bnd (glitch_checkSpan F a0 a1) fun r22 =>
 bif (!(r22 == (0 : Int))) then
  some ((0 : Int), r22)
 else
  bnd (glitch_dead F a0 a1) fun r26 =>
  some (r26, (0 : Int))

theorem glitch_Dead_ok (F : Nat) (a0 : (List S_api_Veto)) (a1 : Int) (s0 : SV) (r : Int × Int) (M : Mem) (hs0 : Slc (rd M) 2 (rep127 (rd M)) s0 a0) (h : glitch_Dead F a0 a1 = some r) : CallsM Tryz.prog 20 [s0, (.int .i64 a1)] M (fun s M' => s = (.tuple [(.int .i64 r.1), (.int .i64 r.2)]) ∧ M' = M) := by
 refine CallsM.plain Tryz.func20 rfl rfl rfl (show Run _ _ _ (glitch_Dead_post r) _ _ _ from ?_)
 rw [glitch_Dead] at h
 replace hs0 := hs0.mono (rdLe_frozen M) (fun _ _ => rep127_mo (rdLe_frozen M))
 have hH := Has.nil (frozen M)
 refine Run.seq (Run.region ?_)
 refine Run.opG wantS_none (ex_assign rfl) rfl ?_
 refine Run.opG wantS_none (ex_assign rfl) rfl ?_
 refine Run.opsEnd (Run.seq (Run.seq (Run.region ?_)))
 refine Run.opG wantS_none (ex_move rfl) rfl ?_
 refine Run.opG wantS_none (ex_move rfl) rfl ?_
 obtain ⟨r22, hr22, h⟩ := bnd_some h
 refine Run.callP wantS_none (ex_call rfl mkk46 cal46) rfl (glitch_checkSpan_ok F a0 a1 s0 _ _ ((hs0).mono hH.le (fun _ _ => rep127_mo hH.le)) hr22) ?_
 refine Run.opG wantS_none (ex_assign rfl) rfl ?_
 refine Run.opsEnd (Run.seq (Run.region ?_))
 refine Run.opG wantS_none (ex_move rfl) rfl ?_
 refine Run.opG wantS_none (ex_neq rfl rfl) rfl ?_
 refine Run.opsEnd ?_
 rcases btf ((!(r22 == (0 : Int)))) with hc24 | hc24
 ·have h := bif_t hc24 h
  refine Run.condT' rfl hc24 ?_
  refine Run.seq (Run.region ?_)
  refine Run.opG wantS_none (ex_move rfl) rfl ?_
  refine Run.opG wantS_none (ex_assign rfl) rfl ?_
  refine Run.opG wantS_none (ex_assign rfl) rfl ?_
  refine Run.opsEnd ?_
  cases h
  exact Run.ret Tryz.func20 rfl (res_tmp rfl (res_tmp rfl res_nil)) rfl
 ·have h := bif_f hc24 h
  refine Run.condF' rfl hc24 ?_
  refine Run.skip (Run.seq (Run.region ?_))
  refine Run.opG wantS_none (ex_move rfl) rfl ?_
  refine Run.opG wantS_none (ex_move rfl) rfl ?_
  obtain ⟨r26, hr26, h⟩ := bnd_some h
  refine Run.callP wantS_none (ex_call rfl mkk47 cal47) rfl (glitch_dead_ok F a0 a1 s0 _ _ ((hs0).mono hH.le (fun _ _ => rep127_mo hH.le)) hr26) ?_
  refine Run.opG wantS_none (ex_assign rfl) rfl ?_
  refine Run.opG wantS_none (ex_assign rfl) rfl ?_
  refine Run.opsEnd ?_
  cases h
  exact Run.ret Tryz.func20 rfl (res_tmp rfl (res_tmp rfl res_nil)) rfl

theorem mkk20 : makeK Tryz.prog 20 = none := by kernel_rfl
theorem cal20 : callable Tryz.prog 20 = true := by kernel_rfl
theorem plan10_1_1_0_1_0_0_1_0_0_0 : planOf Tryz.prog (opsC (atC Tryz.prog 10 [1, 1, 0, 1, 0, 0, 1, 0, 0, 0])) = some [.fl 0, .fl 1, .fl 2, .fl 3, .fl 4, .fl 5, .fl 6, .fl 7, .fl 8, .sync] := by kernel_rfl
abbrev ref00_SameInts_post (r : Bool) : SV → Mem → Prop := fun s _ => s = (.bool r)

def ref00_SameInts_1 (F : Nat) : Nat → (List Int) → (List Int) → Int → Option (Bool)
 | 0, _, _, _ => none
 | N + 1, v0, v1, v5 =>
  bif (decide (v5 < (v0.length : Int))) then
   bnd (idx v0 v5) fun x23 =>
   bnd (idx v1 v5) fun x24 =>
   bif (!(x23 == x24)) then
    some false
   else
    (ref00_SameInts_1 F N) v0 v1 (w64 (v5 + (1 : Int)))
  else
   some true

theorem ref00_SameInts_1_ok (F : Nat) : ∀ (N : Nat), ∀ (v0 v1 : (List Int)) (v5 : Int) (sv0 sv1 : SV) (Fr : Rd) (M : Mem) (r : Bool) (hv0 : Slc Fr 1 (FlatR enc3) sv0 v0) (hv1 : Slc Fr 1 (FlatR enc3) sv1 v1) (hH : Has Fr M []), ref00_SameInts_1 F N v0 v1 v5 = some r → Run Tryz.prog ⟨⟨10, [], none⟩, []⟩ 26 (ref00_SameInts_post r) [(0, sv0), (1, sv1), (5, (.int .i64 v5))] [codeC Tryz.prog 10 [1, 1, 0, 1, 0, 0], loopC Tryz.prog 10 [1, 1, 0, 1, 0, 0], .inBlock 0, codeC Tryz.prog 10 [1, 1, 1]] M := by
 intro N
 induction N with
 | zero =>
  intro v0 v1 v5 sv0 sv1 Fr M r hv0 hv1 hH h
  simp [ref00_SameInts_1] at h
 | succ N ih =>
  intro v0 v1 v5 sv0 sv1 Fr M r hv0 hv1 hH h
  rw [ref00_SameInts_1] at h
  refine Run.seq (Run.seq (Run.region ?_))
  refine Run.opG wantS_none (ex_move rfl) rfl ?_
  refine Run.opG wantS_none (ex_move rfl) rfl ?_
  refine Run.opG wantS_none (ex_len' rfl hv0 lenk24) rfl ?_
  refine Run.opG wantS_none (ex_lss rfl rfl) rfl ?_
  refine Run.opsEnd ?_
  rcases btf ((decide (v5 < (v0.length : Int)))) with hc22 | hc22
  ·have h := bif_t hc22 h
   refine Run.condT' rfl hc22 ?_
   refine Run.skip (Run.seq (Run.block (Run.seq ?_)))
   refine Run.drawG plan10_1_1_0_1_0_0_1_0_0_0 ?_
   refine DrawG.fl rfl (ev_ex wantS_none (ex_move rfl)) rfl ?_
   refine DrawG.fl rfl (ev_ex wantS_none (ex_move rfl)) rfl ?_
   obtain ⟨x23, hx23, h⟩ := bnd_some h
   obtain ⟨p23, o23, _, hx23, hp23, rfl⟩ := sl_elem (P := Tryz.prog) (t := 24) (kk := .i64) hv0 hx23 els24
   refine DrawG.fl rfl (ev_ex wantS_none (ex_elX rfl rfl hx23)) rfl ?_
   refine DrawG.fl rfl (ev_ex wantS_none (ex_load1 rfl (hH.ptrF hp23) rdLe_rfl agg3)) rfl ?_
   refine DrawG.fl rfl (ev_ex wantS_none (ex_move rfl)) rfl ?_
   refine DrawG.fl rfl (ev_ex wantS_none (ex_move rfl)) rfl ?_
   obtain ⟨x24, hx24, h⟩ := bnd_some h
   obtain ⟨p24, o24, _, hx24, hp24, rfl⟩ := sl_elem (P := Tryz.prog) (t := 24) (kk := .i64) hv1 hx24 els24
   refine DrawG.fl rfl (ev_ex wantS_none (ex_elX rfl rfl hx24)) rfl ?_
   refine DrawG.fl rfl (ev_ex wantS_none (ex_load1 rfl (hH.ptrF hp24) rdLe_rfl agg3)) rfl ?_
   refine DrawG.fl rfl (ev_ex wantS_none (ex_neq rfl rfl)) rfl ?_
   refine DrawG.sync ?_
   refine DrawG.nil ?_
   rcases btf ((!(x23 == x24))) with hc25 | hc25
   ·have h := bif_t hc25 h
    refine Run.condT' rfl hc25 ?_
    refine Run.seq (Run.region ?_)
    refine Run.opG wantS_none (ex_assign rfl) rfl ?_
    refine Run.opsEnd ?_
    cases h
    exact Run.ret Tryz.func10 rfl (res_tmp rfl res_nil) rfl
   ·have h := bif_f hc25 h
    refine Run.condF' rfl hc25 ?_
    refine Run.skip (Run.inBlock (Run.region ?_))
    refine Run.opG wantS_none (ex_move rfl) rfl ?_
    refine Run.opG wantS_none (ex_add rfl rfl) rfl ?_
    refine Run.opG wantS_none (ex_assign rfl) rfl ?_
    refine Run.opsEnd (Run.inLoop ?_)
    exact Run.pick [0, 1, 5] (ih v0 v1 (w64 (v5 + (1 : Int))) sv0 sv1 _ _ _ hv0 hv1 hH h)
  ·have h := bif_f hc22 h
   refine Run.condF' rfl hc22 ?_
   refine Run.exit rfl (Run.seq (Run.region ?_))
   refine Run.opG wantS_none (ex_assign rfl) rfl ?_
   refine Run.opsEnd ?_
   cases h
   exact Run.ret Tryz.func10 rfl (res_tmp rfl res_nil) rfl

def ref00_SameInts (F : Nat) (a0 a1 : (List Int)) : Option (Bool) :=
 bif (!((a0.length : Int) == (a1.length : Int))) then
  some false
 else
  ref00_SameInts_1 F F a0 a1 (0 : Int)

theorem ref00_SameInts_ok (F : Nat) (a0 a1 : (List Int)) (s0 s1 : SV) (r : Bool) (M : Mem) (hs0 : Slc (rd M) 1 (FlatR enc3) s0 a0) (hs1 : Slc (rd M) 1 (FlatR enc3) s1 a1) (h : ref00_SameInts F a0 a1 = some r) : CallsM Tryz.prog 10 [s0, s1] M (fun s M' => s = (.bool r) ∧ M' = M) := by
 refine CallsM.plain Tryz.func10 rfl rfl rfl (show Run _ _ _ (ref00_SameInts_post r) _ _ _ from ?_)
 rw [ref00_SameInts] at h
 replace hs0 := hs0.mono (rdLe_frozen M) (fun _ _ h => h)
 replace hs1 := hs1.mono (rdLe_frozen M) (fun _ _ h => h)
 have hH := Has.nil (frozen M)
 refine Run.seq (Run.region ?_)
 refine Run.opG wantS_none (ex_assign rfl) rfl ?_
 refine Run.opsEnd (Run.seq (Run.seq (Run.region ?_)))
 refine Run.opG wantS_none (ex_move rfl) rfl ?_
 refine Run.opG wantS_none (ex_len' rfl hs0 lenk24) rfl ?_
 refine Run.opG wantS_none (ex_move rfl) rfl ?_
 refine Run.opG wantS_none (ex_len' rfl hs1 lenk24) rfl ?_
 refine Run.opG wantS_none (ex_neq rfl rfl) rfl ?_
 refine Run.opsEnd ?_
 rcases btf ((!((a0.length : Int) == (a1.length : Int)))) with hc21 | hc21
 ·have h := bif_t hc21 h
  refine Run.condT' rfl hc21 ?_
  refine Run.seq (Run.region ?_)
  refine Run.opG wantS_none (ex_assign rfl) rfl ?_
  refine Run.opsEnd ?_
  cases h
  exact Run.ret Tryz.func10 rfl (res_tmp rfl res_nil) rfl
 ·have h := bif_f hc21 h
  refine Run.condF' rfl hc21 ?_
  refine Run.skip (Run.seq (Run.seq (Run.region ?_)))
  refine Run.opG wantS_none (ex_assign rfl) rfl ?_
  refine Run.opsEnd (Run.block (Run.loop ?_))
  exact Run.pick [0, 1, 5] (ref00_SameInts_1_ok F F a0 a1 (0 : Int) s0 s1 _ _ _ hs0 hs1 hH h)

theorem mkk10 : makeK Tryz.prog 10 = none := by kernel_rfl
theorem cal10 : callable Tryz.prog 10 = true := by kernel_rfl
abbrev law11_RunVetoed_post (r : Bool) : SV → Mem → Prop := fun s _ => s = (.bool r)

def law11_RunVetoed_1 (F : Nat) (v32 : Bool) : Option (Bool) :=
 some v32

theorem law11_RunVetoed_1_ok (F : Nat) : ∀ (v32 : Bool) (Fr : Rd) (M : Mem) (r : Bool) (hH : Has Fr M [tb0, tb1, tb2, tb3]), law11_RunVetoed_1 F v32 = some r → Run Tryz.prog ⟨⟨6, [], none⟩, []⟩ 113 (law11_RunVetoed_post r) [(32, (.bool v32))] [itemC Tryz.prog 6 [1, 1, 1, 1, 0, 1, 0, 0] 6, codeC Tryz.prog 6 [1, 1, 1, 1, 0, 1, 0, 1], codeC Tryz.prog 6 [1, 1, 1, 1, 1]] M := by
 intro v32 Fr M r hH h
 rw [law11_RunVetoed_1] at h
 refine Run.opG wantS_none (ex_assign rfl) rfl ?_
 refine Run.opsEnd ?_
 cases h
 exact Run.ret Tryz.func6 rfl (res_tmp rfl res_nil) rfl

def law11_RunVetoed_3 (F : Nat) (hd2 : Int → Int → (List S_api_Duty) → (List S_api_Veto) → (List S_api_Veto) → (List Int) → (List Int) → (List Bool) → (List Int) → Option (Bool)) (v1 v8 : Int) (c26_0 : (List S_api_Duty)) (c26_2 c26_3 : (List S_api_Veto)) (c26_4 c26_5 : (List Int)) (l35 : (List Bool)) (l54 : (List Int)) : Option (Bool) :=
 hd2 v1 (w64 (v8 + (1 : Int))) c26_0 c26_2 c26_3 c26_4 c26_5 l35 l54

theorem law11_RunVetoed_3_ok (F : Nat) (hd2 : Int → Int → (List S_api_Duty) → (List S_api_Veto) → (List S_api_Veto) → (List Int) → (List Int) → (List Bool) → (List Int) → Option (Bool)) (hhd2 : ∀ (v1 v8 : Int) (c26_0 : (List S_api_Duty)) (c26_2 c26_3 : (List S_api_Veto)) (c26_4 c26_5 : (List Int)) (l35 : (List Bool)) (l42 : (List Int)) (sc26_0 sc26_2 sc26_3 sc26_4 sc26_5 : SV) (b26 : Pos) (s35 s42 : SV) (Fr : Rd) (M : Mem) (r : Bool) (hc26_0 : Slc Fr 3 (FlatR enc43) sc26_0 c26_0) (hc26_2 : Slc Fr 2 (rep127 Fr) sc26_2 c26_2) (hc26_3 : Slc Fr 2 (rep127 Fr) sc26_3 c26_3) (hc26_4 : Slc Fr 1 (FlatR enc3) sc26_4 c26_4) (hc26_5 : Slc Fr 1 (FlatR enc3) sc26_5 c26_5) (hH : Has Fr M [.obj b26 (.row 38 .whole [sc26_0, .nils, sc26_2, sc26_3, sc26_4, sc26_5]), .vec 4 1 l35.length s35 (l35.flatMap enc4), .vec 3 1 l42.length s42 (l42.flatMap enc3), tb0, tb1, tb2, tb3]), hd2 v1 v8 c26_0 c26_2 c26_3 c26_4 c26_5 l35 l42 = some r → Run Tryz.prog ⟨⟨6, [], none⟩, []⟩ 113 (law11_RunVetoed_post r) [(1, (.int .i64 v1)), (2, (.ptr b26 0)), (5, s35), (7, s42), (8, (.int .i64 v8))] [codeC Tryz.prog 6 [1, 1, 1, 1, 1, 1, 0, 1, 0, 0], loopC Tryz.prog 6 [1, 1, 1, 1, 1, 1, 0, 1, 0, 0], .inBlock 0, codeC Tryz.prog 6 [1, 1, 1, 1, 1, 1, 1]] M) : ∀ (v1 v8 : Int) (c26_0 : (List S_api_Duty)) (c26_2 c26_3 : (List S_api_Veto)) (c26_4 c26_5 : (List Int)) (l35 : (List Bool)) (l54 : (List Int)) (sc26_0 sc26_2 sc26_3 sc26_4 sc26_5 : SV) (b26 : Pos) (s35 s54 : SV) (Fr : Rd) (M : Mem) (r : Bool) (hc26_0 : Slc Fr 3 (FlatR enc43) sc26_0 c26_0) (hc26_2 : Slc Fr 2 (rep127 Fr) sc26_2 c26_2) (hc26_3 : Slc Fr 2 (rep127 Fr) sc26_3 c26_3) (hc26_4 : Slc Fr 1 (FlatR enc3) sc26_4 c26_4) (hc26_5 : Slc Fr 1 (FlatR enc3) sc26_5 c26_5) (hH : Has Fr M [.obj b26 (.row 38 .whole [sc26_0, .nils, sc26_2, sc26_3, sc26_4, sc26_5]), .vec 4 1 l35.length s35 (l35.flatMap enc4), .vec 3 1 l54.length s54 (l54.flatMap enc3), tb0, tb1, tb2, tb3]), law11_RunVetoed_3 F hd2 v1 v8 c26_0 c26_2 c26_3 c26_4 c26_5 l35 l54 = some r → Run Tryz.prog ⟨⟨6, [], none⟩, []⟩ 113 (law11_RunVetoed_post r) [(1, (.int .i64 v1)), (2, (.ptr b26 0)), (5, s35), (7, s54), (8, (.int .i64 v8))] [itemC Tryz.prog 6 [1, 1, 1, 1, 1, 1, 0, 1, 0, 0, 1, 1] 0, loopC Tryz.prog 6 [1, 1, 1, 1, 1, 1, 0, 1, 0, 0], .inBlock 0, codeC Tryz.prog 6 [1, 1, 1, 1, 1, 1, 1]] M := by
 intro v1 v8 c26_0 c26_2 c26_3 c26_4 c26_5 l35 l54 sc26_0 sc26_2 sc26_3 sc26_4 sc26_5 b26 s35 s54 Fr M r hc26_0 hc26_2 hc26_3 hc26_4 hc26_5 hH h
 rw [law11_RunVetoed_3] at h
 refine Run.opG wantS_none (ex_move rfl) rfl ?_
 refine Run.opG wantS_none (ex_add rfl rfl) rfl ?_
 refine Run.opG wantS_none (ex_assign rfl) rfl ?_
 refine Run.opsEnd (Run.inLoop ?_)
 exact Run.pick [1, 2, 5, 7, 8] (hhd2 v1 (w64 (v8 + (1 : Int))) c26_0 c26_2 c26_3 c26_4 c26_5 l35 l54 sc26_0 sc26_2 sc26_3 sc26_4 sc26_5 b26 s35 s54 _ _ _ hc26_0 hc26_2 hc26_3 hc26_4 hc26_5 hH h)

def law11_RunVetoed_7 (F : Nat) (hd4 : Int → Int → (List S_api_Duty) → (List S_api_Veto) → (List S_api_Veto) → (List Int) → (List Int) → (List Bool) → (List Int) → (List Int) → Option (Bool)) (v1 v10 : Int) (c26_0 : (List S_api_Duty)) (c26_2 c26_3 : (List S_api_Veto)) (c26_4 c26_5 : (List Int)) (l35 : (List Bool)) (l42 l56 l59 : (List Int)) : Option (Bool) :=
 bnd (glitch_Passed F c26_2 l59) fun r78 =>
 bif (!(r78.2 == (0 : Int))) then
  some false
 else
  bnd (apd 8 l56 r78.1) fun l84 =>
  hd4 v1 (w64 (v10 + (256 : Int))) c26_0 c26_2 c26_3 c26_4 c26_5 l35 l42 l84

theorem law11_RunVetoed_7_ok (F : Nat) (hd4 : Int → Int → (List S_api_Duty) → (List S_api_Veto) → (List S_api_Veto) → (List Int) → (List Int) → (List Bool) → (List Int) → (List Int) → Option (Bool)) (hhd4 : ∀ (v1 v10 : Int) (c26_0 : (List S_api_Duty)) (c26_2 c26_3 : (List S_api_Veto)) (c26_4 c26_5 : (List Int)) (l35 : (List Bool)) (l42 l56 : (List Int)) (sc26_0 sc26_2 sc26_3 sc26_4 sc26_5 : SV) (b26 : Pos) (s35 s42 s56 : SV) (Fr : Rd) (M : Mem) (r : Bool) (hc26_0 : Slc Fr 3 (FlatR enc43) sc26_0 c26_0) (hc26_2 : Slc Fr 2 (rep127 Fr) sc26_2 c26_2) (hc26_3 : Slc Fr 2 (rep127 Fr) sc26_3 c26_3) (hc26_4 : Slc Fr 1 (FlatR enc3) sc26_4 c26_4) (hc26_5 : Slc Fr 1 (FlatR enc3) sc26_5 c26_5) (hH : Has Fr M [.obj b26 (.row 38 .whole [sc26_0, .nils, sc26_2, sc26_3, sc26_4, sc26_5]), .vec 4 1 l35.length s35 (l35.flatMap enc4), .vec 3 1 l42.length s42 (l42.flatMap enc3), .vec 3 1 l56.length s56 (l56.flatMap enc3), tb0, tb1, tb2, tb3]), hd4 v1 v10 c26_0 c26_2 c26_3 c26_4 c26_5 l35 l42 l56 = some r → Run Tryz.prog ⟨⟨6, [], none⟩, []⟩ 113 (law11_RunVetoed_post r) [(1, (.int .i64 v1)), (2, (.ptr b26 0)), (5, s35), (7, s42), (9, s56), (10, (.int .i64 v10))] [codeC Tryz.prog 6 [1, 1, 1, 1, 1, 1, 1, 1, 0, 1, 0, 0], loopC Tryz.prog 6 [1, 1, 1, 1, 1, 1, 1, 1, 0, 1, 0, 0], .inBlock 2, codeC Tryz.prog 6 [1, 1, 1, 1, 1, 1, 1, 1, 1]] M) : ∀ (v1 v10 : Int) (c26_0 : (List S_api_Duty)) (c26_2 c26_3 : (List S_api_Veto)) (c26_4 c26_5 : (List Int)) (l35 : (List Bool)) (l42 l56 l59 : (List Int)) (sc26_0 sc26_2 sc26_3 sc26_4 sc26_5 : SV) (b26 : Pos) (s35 s42 s56 s59 : SV) (Fr : Rd) (M : Mem) (r : Bool) (hc26_0 : Slc Fr 3 (FlatR enc43) sc26_0 c26_0) (hc26_2 : Slc Fr 2 (rep127 Fr) sc26_2 c26_2) (hc26_3 : Slc Fr 2 (rep127 Fr) sc26_3 c26_3) (hc26_4 : Slc Fr 1 (FlatR enc3) sc26_4 c26_4) (hc26_5 : Slc Fr 1 (FlatR enc3) sc26_5 c26_5) (hH : Has Fr M [.obj b26 (.row 38 .whole [sc26_0, .nils, sc26_2, sc26_3, sc26_4, sc26_5]), .vec 4 1 l35.length s35 (l35.flatMap enc4), .vec 3 1 l42.length s42 (l42.flatMap enc3), .vec 3 1 l56.length s56 (l56.flatMap enc3), .vec 3 1 l59.length s59 (l59.flatMap enc3), tb0, tb1, tb2, tb3]), law11_RunVetoed_7 F hd4 v1 v10 c26_0 c26_2 c26_3 c26_4 c26_5 l35 l42 l56 l59 = some r → Run Tryz.prog ⟨⟨6, [], none⟩, []⟩ 113 (law11_RunVetoed_post r) [(1, (.int .i64 v1)), (2, (.ptr b26 0)), (5, s35), (7, s42), (9, s56), (10, (.int .i64 v10)), (11, s59), (73, (.ptr b26 2))] [itemC Tryz.prog 6 [1, 1, 1, 1, 1, 1, 1, 1, 0, 1, 0, 0, 1, 0, 0, 1, 1, 0] 3, codeC Tryz.prog 6 [1, 1, 1, 1, 1, 1, 1, 1, 0, 1, 0, 0, 1, 0, 0, 1, 1, 1], .inBlock 3, codeC Tryz.prog 6 [1, 1, 1, 1, 1, 1, 1, 1, 0, 1, 0, 0, 1, 1], loopC Tryz.prog 6 [1, 1, 1, 1, 1, 1, 1, 1, 0, 1, 0, 0], .inBlock 2, codeC Tryz.prog 6 [1, 1, 1, 1, 1, 1, 1, 1, 1]] M := by
 intro v1 v10 c26_0 c26_2 c26_3 c26_4 c26_5 l35 l42 l56 l59 sc26_0 sc26_2 sc26_3 sc26_4 sc26_5 b26 s35 s42 s56 s59 Fr M r hc26_0 hc26_2 hc26_3 hc26_4 hc26_5 hH h
 rw [law11_RunVetoed_7] at h
 refine Run.opG wantS_none (ex_load1 rfl (hH.cells (i := 0) rfl 2 rfl) rdLe_rfl agg34) rfl ?_
 refine Run.opG wantS_none (ex_move rfl) rfl ?_
 obtain ⟨r78, hr78, h⟩ := bnd_some h
 refine Run.callX wantS_none (ex_call rfl mkk19 cal19) rfl (glitch_Passed_ok F c26_2 l59 sc26_2 s59 _ _ ((hc26_2).mono hH.le (fun _ _ => rep127_mo hH.le)) (hH.slc (i := 4) rfl enc3_len) hr78) ?_
 rintro _ M80 ⟨s78_0, rfl, hN78⟩
 have hH80 : Has Fr M80 [.vec 3 1 r78.1.length s78_0 (r78.1.flatMap enc3), .obj b26 (.row 38 .whole [sc26_0, .nils, sc26_2, sc26_3, sc26_4, sc26_5]), .vec 4 1 l35.length s35 (l35.flatMap enc4), .vec 3 1 l42.length s42 (l42.flatMap enc3), .vec 3 1 l56.length s56 (l56.flatMap enc3), .vec 3 1 l59.length s59 (l59.flatMap enc3), tb0, tb1, tb2, tb3] := hN78.1 _ _ hH
 refine Run.opG wantS_none (ex_move rfl) rfl ?_
 refine Run.opG wantS_none (ex_extract rfl rfl) rfl ?_
 refine Run.opG wantS_none (ex_extract rfl rfl) rfl ?_
 refine Run.opG wantS_none (ex_assign rfl) rfl ?_
 refine Run.opG wantS_none (ex_assign rfl) rfl ?_
 refine Run.opsEnd (Run.seq (Run.seq (Run.region ?_)))
 refine Run.opG wantS_none (ex_move rfl) rfl ?_
 refine Run.opG wantS_none (ex_neq rfl rfl) rfl ?_
 refine Run.opsEnd ?_
 rcases btf ((!(r78.2 == (0 : Int)))) with hc81 | hc81
 ·have h := bif_t hc81 h
  refine Run.condT' rfl hc81 ?_
  refine Run.seq (Run.region ?_)
  refine Run.opG wantS_none (ex_assign rfl) rfl ?_
  refine Run.opsEnd ?_
  cases h
  exact Run.ret Tryz.func6 rfl (res_tmp rfl res_nil) rfl
 ·have h := bif_f hc81 h
  refine Run.condF' rfl hc81 ?_
  refine Run.skip (Run.region ?_)
  refine Run.opG wantS_none (ex_move rfl) rfl ?_
  refine Run.opG wantS_none (ex_move rfl) rfl ?_
  obtain ⟨l84, hl84, h⟩ := bnd_some h
  refine Run.opX wantS_none rfl (ExG.append rfl rfl hH80 (i := 4) rfl enc3_len rfl enc3_ones appt24_24 rfl (len_slc (hH80.slc (i := 0) rfl enc3_len)) (first_slc (hH80.slc (i := 0) rfl enc3_len) (rdLe_rdRow _) enc3_len) hl84) ?_
  rintro s84 M86 (hH86 : Has Fr M86 [.vec 3 1 r78.1.length s78_0 (r78.1.flatMap enc3), .obj b26 (.row 38 .whole [sc26_0, .nils, sc26_2, sc26_3, sc26_4, sc26_5]), .vec 4 1 l35.length s35 (l35.flatMap enc4), .vec 3 1 l42.length s42 (l42.flatMap enc3), .vec 3 1 l84.length s84 (l84.flatMap enc3), .vec 3 1 l59.length s59 (l59.flatMap enc3), tb0, tb1, tb2, tb3])
  refine Run.opG wantS_none (ex_assign rfl) rfl ?_
  refine Run.opsEnd (Run.inBlock (Run.region ?_))
  refine Run.opG wantS_none (ex_move rfl) rfl ?_
  refine Run.opG wantS_none (ex_add rfl rfl) rfl ?_
  refine Run.opG wantS_none (ex_assign rfl) rfl ?_
  refine Run.opsEnd (Run.inLoop ?_)
  exact Run.pick [1, 2, 5, 7, 9, 10] (hhd4 v1 (w64 (v10 + (256 : Int))) c26_0 c26_2 c26_3 c26_4 c26_5 l35 l42 l84 sc26_0 sc26_2 sc26_3 sc26_4 sc26_5 b26 s35 s42 s84 _ _ _ hc26_0 hc26_2 hc26_3 hc26_4 hc26_5 (hH86.pick [1, 2, 3, 4, 6, 7, 8, 9] rfl rfl) h)

def law11_RunVetoed_8 (F : Nat) (hd4 : Int → Int → (List S_api_Duty) → (List S_api_Veto) → (List S_api_Veto) → (List Int) → (List Int) → (List Bool) → (List Int) → (List Int) → Option (Bool)) (v1 v10 : Int) (c26_0 : (List S_api_Duty)) (c26_2 c26_3 : (List S_api_Veto)) (c26_4 c26_5 : (List Int)) (l35 : (List Bool)) (l42 l56 l59 : (List Int)) : Option (Bool) :=
 bnd (glitch_Passed F c26_3 l59) fun r94 =>
 bif (!(r94.2 == (0 : Int))) then
  some false
 else
  bnd (apd 8 l56 r94.1) fun l100 =>
  hd4 v1 (w64 (v10 + (256 : Int))) c26_0 c26_2 c26_3 c26_4 c26_5 l35 l42 l100

theorem law11_RunVetoed_8_ok (F : Nat) (hd4 : Int → Int → (List S_api_Duty) → (List S_api_Veto) → (List S_api_Veto) → (List Int) → (List Int) → (List Bool) → (List Int) → (List Int) → Option (Bool)) (hhd4 : ∀ (v1 v10 : Int) (c26_0 : (List S_api_Duty)) (c26_2 c26_3 : (List S_api_Veto)) (c26_4 c26_5 : (List Int)) (l35 : (List Bool)) (l42 l56 : (List Int)) (sc26_0 sc26_2 sc26_3 sc26_4 sc26_5 : SV) (b26 : Pos) (s35 s42 s56 : SV) (Fr : Rd) (M : Mem) (r : Bool) (hc26_0 : Slc Fr 3 (FlatR enc43) sc26_0 c26_0) (hc26_2 : Slc Fr 2 (rep127 Fr) sc26_2 c26_2) (hc26_3 : Slc Fr 2 (rep127 Fr) sc26_3 c26_3) (hc26_4 : Slc Fr 1 (FlatR enc3) sc26_4 c26_4) (hc26_5 : Slc Fr 1 (FlatR enc3) sc26_5 c26_5) (hH : Has Fr M [.obj b26 (.row 38 .whole [sc26_0, .nils, sc26_2, sc26_3, sc26_4, sc26_5]), .vec 4 1 l35.length s35 (l35.flatMap enc4), .vec 3 1 l42.length s42 (l42.flatMap enc3), .vec 3 1 l56.length s56 (l56.flatMap enc3), tb0, tb1, tb2, tb3]), hd4 v1 v10 c26_0 c26_2 c26_3 c26_4 c26_5 l35 l42 l56 = some r → Run Tryz.prog ⟨⟨6, [], none⟩, []⟩ 113 (law11_RunVetoed_post r) [(1, (.int .i64 v1)), (2, (.ptr b26 0)), (5, s35), (7, s42), (9, s56), (10, (.int .i64 v10))] [codeC Tryz.prog 6 [1, 1, 1, 1, 1, 1, 1, 1, 0, 1, 0, 0], loopC Tryz.prog 6 [1, 1, 1, 1, 1, 1, 1, 1, 0, 1, 0, 0], .inBlock 2, codeC Tryz.prog 6 [1, 1, 1, 1, 1, 1, 1, 1, 1]] M) : ∀ (v1 v10 : Int) (c26_0 : (List S_api_Duty)) (c26_2 c26_3 : (List S_api_Veto)) (c26_4 c26_5 : (List Int)) (l35 : (List Bool)) (l42 l56 l59 : (List Int)) (sc26_0 sc26_2 sc26_3 sc26_4 sc26_5 : SV) (b26 : Pos) (s35 s42 s56 s59 : SV) (Fr : Rd) (M : Mem) (r : Bool) (hc26_0 : Slc Fr 3 (FlatR enc43) sc26_0 c26_0) (hc26_2 : Slc Fr 2 (rep127 Fr) sc26_2 c26_2) (hc26_3 : Slc Fr 2 (rep127 Fr) sc26_3 c26_3) (hc26_4 : Slc Fr 1 (FlatR enc3) sc26_4 c26_4) (hc26_5 : Slc Fr 1 (FlatR enc3) sc26_5 c26_5) (hH : Has Fr M [.obj b26 (.row 38 .whole [sc26_0, .nils, sc26_2, sc26_3, sc26_4, sc26_5]), .vec 4 1 l35.length s35 (l35.flatMap enc4), .vec 3 1 l42.length s42 (l42.flatMap enc3), .vec 3 1 l56.length s56 (l56.flatMap enc3), .vec 3 1 l59.length s59 (l59.flatMap enc3), tb0, tb1, tb2, tb3]), law11_RunVetoed_8 F hd4 v1 v10 c26_0 c26_2 c26_3 c26_4 c26_5 l35 l42 l56 l59 = some r → Run Tryz.prog ⟨⟨6, [], none⟩, []⟩ 113 (law11_RunVetoed_post r) [(1, (.int .i64 v1)), (2, (.ptr b26 0)), (5, s35), (7, s42), (9, s56), (10, (.int .i64 v10)), (11, s59), (73, (.ptr b26 3))] [itemC Tryz.prog 6 [1, 1, 1, 1, 1, 1, 1, 1, 0, 1, 0, 0, 1, 0, 0, 1, 1, 0] 3, codeC Tryz.prog 6 [1, 1, 1, 1, 1, 1, 1, 1, 0, 1, 0, 0, 1, 0, 0, 1, 1, 1], .inBlock 3, codeC Tryz.prog 6 [1, 1, 1, 1, 1, 1, 1, 1, 0, 1, 0, 0, 1, 1], loopC Tryz.prog 6 [1, 1, 1, 1, 1, 1, 1, 1, 0, 1, 0, 0], .inBlock 2, codeC Tryz.prog 6 [1, 1, 1, 1, 1, 1, 1, 1, 1]] M := by
 intro v1 v10 c26_0 c26_2 c26_3 c26_4 c26_5 l35 l42 l56 l59 sc26_0 sc26_2 sc26_3 sc26_4 sc26_5 b26 s35 s42 s56 s59 Fr M r hc26_0 hc26_2 hc26_3 hc26_4 hc26_5 hH h
 rw [law11_RunVetoed_8] at h
 refine Run.opG wantS_none (ex_load1 rfl (hH.cells (i := 0) rfl 3 rfl) rdLe_rfl agg34) rfl ?_
 refine Run.opG wantS_none (ex_move rfl) rfl ?_
 obtain ⟨r94, hr94, h⟩ := bnd_some h
 refine Run.callX wantS_none (ex_call rfl mkk19 cal19) rfl (glitch_Passed_ok F c26_3 l59 sc26_3 s59 _ _ ((hc26_3).mono hH.le (fun _ _ => rep127_mo hH.le)) (hH.slc (i := 4) rfl enc3_len) hr94) ?_
 rintro _ M96 ⟨s94_0, rfl, hN94⟩
 have hH96 : Has Fr M96 [.vec 3 1 r94.1.length s94_0 (r94.1.flatMap enc3), .obj b26 (.row 38 .whole [sc26_0, .nils, sc26_2, sc26_3, sc26_4, sc26_5]), .vec 4 1 l35.length s35 (l35.flatMap enc4), .vec 3 1 l42.length s42 (l42.flatMap enc3), .vec 3 1 l56.length s56 (l56.flatMap enc3), .vec 3 1 l59.length s59 (l59.flatMap enc3), tb0, tb1, tb2, tb3] := hN94.1 _ _ hH
 refine Run.opG wantS_none (ex_move rfl) rfl ?_
 refine Run.opG wantS_none (ex_extract rfl rfl) rfl ?_
 refine Run.opG wantS_none (ex_extract rfl rfl) rfl ?_
 refine Run.opG wantS_none (ex_assign rfl) rfl ?_
 refine Run.opG wantS_none (ex_assign rfl) rfl ?_
 refine Run.opsEnd (Run.seq (Run.seq (Run.region ?_)))
 refine Run.opG wantS_none (ex_move rfl) rfl ?_
 refine Run.opG wantS_none (ex_neq rfl rfl) rfl ?_
 refine Run.opsEnd ?_
 rcases btf ((!(r94.2 == (0 : Int)))) with hc97 | hc97
 ·have h := bif_t hc97 h
  refine Run.condT' rfl hc97 ?_
  refine Run.seq (Run.region ?_)
  refine Run.opG wantS_none (ex_assign rfl) rfl ?_
  refine Run.opsEnd ?_
  cases h
  exact Run.ret Tryz.func6 rfl (res_tmp rfl res_nil) rfl
 ·have h := bif_f hc97 h
  refine Run.condF' rfl hc97 ?_
  refine Run.skip (Run.region ?_)
  refine Run.opG wantS_none (ex_move rfl) rfl ?_
  refine Run.opG wantS_none (ex_move rfl) rfl ?_
  obtain ⟨l100, hl100, h⟩ := bnd_some h
  refine Run.opX wantS_none rfl (ExG.append rfl rfl hH96 (i := 4) rfl enc3_len rfl enc3_ones appt24_24 rfl (len_slc (hH96.slc (i := 0) rfl enc3_len)) (first_slc (hH96.slc (i := 0) rfl enc3_len) (rdLe_rdRow _) enc3_len) hl100) ?_
  rintro s100 M102 (hH102 : Has Fr M102 [.vec 3 1 r94.1.length s94_0 (r94.1.flatMap enc3), .obj b26 (.row 38 .whole [sc26_0, .nils, sc26_2, sc26_3, sc26_4, sc26_5]), .vec 4 1 l35.length s35 (l35.flatMap enc4), .vec 3 1 l42.length s42 (l42.flatMap enc3), .vec 3 1 l100.length s100 (l100.flatMap enc3), .vec 3 1 l59.length s59 (l59.flatMap enc3), tb0, tb1, tb2, tb3])
  refine Run.opG wantS_none (ex_assign rfl) rfl ?_
  refine Run.opsEnd (Run.inBlock (Run.region ?_))
  refine Run.opG wantS_none (ex_move rfl) rfl ?_
  refine Run.opG wantS_none (ex_add rfl rfl) rfl ?_
  refine Run.opG wantS_none (ex_assign rfl) rfl ?_
  refine Run.opsEnd (Run.inLoop ?_)
  exact Run.pick [1, 2, 5, 7, 9, 10] (hhd4 v1 (w64 (v10 + (256 : Int))) c26_0 c26_2 c26_3 c26_4 c26_5 l35 l42 l100 sc26_0 sc26_2 sc26_3 sc26_4 sc26_5 b26 s35 s42 s100 _ _ _ hc26_0 hc26_2 hc26_3 hc26_4 hc26_5 (hH102.pick [1, 2, 3, 4, 6, 7, 8, 9] rfl rfl) h)

def law11_RunVetoed_6 (F : Nat) (hd4 : Int → Int → (List S_api_Duty) → (List S_api_Veto) → (List S_api_Veto) → (List Int) → (List Int) → (List Bool) → (List Int) → (List Int) → Option (Bool)) (hd5 : Int → Int → Int → (List S_api_Duty) → (List S_api_Veto) → (List S_api_Veto) → (List Int) → (List Int) → (List Bool) → (List Int) → (List Int) → (List Int) → Option (Bool)) (v1 v10 v12 : Int) (v63 : Bool) (c26_0 : (List S_api_Duty)) (c26_2 c26_3 : (List S_api_Veto)) (c26_4 c26_5 : (List Int)) (l35 : (List Bool)) (l42 l56 l59 : (List Int)) : Option (Bool) :=
 bif v63 then
  bnd (apd 8 l59 ([v12] : List Int)) fun l68 =>
  hd5 v1 v10 (w64 (v12 + (1 : Int))) c26_0 c26_2 c26_3 c26_4 c26_5 l35 l42 l56 l68
 else
  bif (v1 == (0 : Int)) then
   law11_RunVetoed_7 F hd4 v1 v10 c26_0 c26_2 c26_3 c26_4 c26_5 l35 l42 l56 l59
  else
   bif (v1 == (1 : Int)) then
    law11_RunVetoed_8 F hd4 v1 v10 c26_0 c26_2 c26_3 c26_4 c26_5 l35 l42 l56 l59
   else
    none

theorem law11_RunVetoed_6_ok (F : Nat) (hd4 : Int → Int → (List S_api_Duty) → (List S_api_Veto) → (List S_api_Veto) → (List Int) → (List Int) → (List Bool) → (List Int) → (List Int) → Option (Bool)) (hhd4 : ∀ (v1 v10 : Int) (c26_0 : (List S_api_Duty)) (c26_2 c26_3 : (List S_api_Veto)) (c26_4 c26_5 : (List Int)) (l35 : (List Bool)) (l42 l56 : (List Int)) (sc26_0 sc26_2 sc26_3 sc26_4 sc26_5 : SV) (b26 : Pos) (s35 s42 s56 : SV) (Fr : Rd) (M : Mem) (r : Bool) (hc26_0 : Slc Fr 3 (FlatR enc43) sc26_0 c26_0) (hc26_2 : Slc Fr 2 (rep127 Fr) sc26_2 c26_2) (hc26_3 : Slc Fr 2 (rep127 Fr) sc26_3 c26_3) (hc26_4 : Slc Fr 1 (FlatR enc3) sc26_4 c26_4) (hc26_5 : Slc Fr 1 (FlatR enc3) sc26_5 c26_5) (hH : Has Fr M [.obj b26 (.row 38 .whole [sc26_0, .nils, sc26_2, sc26_3, sc26_4, sc26_5]), .vec 4 1 l35.length s35 (l35.flatMap enc4), .vec 3 1 l42.length s42 (l42.flatMap enc3), .vec 3 1 l56.length s56 (l56.flatMap enc3), tb0, tb1, tb2, tb3]), hd4 v1 v10 c26_0 c26_2 c26_3 c26_4 c26_5 l35 l42 l56 = some r → Run Tryz.prog ⟨⟨6, [], none⟩, []⟩ 113 (law11_RunVetoed_post r) [(1, (.int .i64 v1)), (2, (.ptr b26 0)), (5, s35), (7, s42), (9, s56), (10, (.int .i64 v10))] [codeC Tryz.prog 6 [1, 1, 1, 1, 1, 1, 1, 1, 0, 1, 0, 0], loopC Tryz.prog 6 [1, 1, 1, 1, 1, 1, 1, 1, 0, 1, 0, 0], .inBlock 2, codeC Tryz.prog 6 [1, 1, 1, 1, 1, 1, 1, 1, 1]] M) (hd5 : Int → Int → Int → (List S_api_Duty) → (List S_api_Veto) → (List S_api_Veto) → (List Int) → (List Int) → (List Bool) → (List Int) → (List Int) → (List Int) → Option (Bool)) (hhd5 : ∀ (v1 v10 v12 : Int) (c26_0 : (List S_api_Duty)) (c26_2 c26_3 : (List S_api_Veto)) (c26_4 c26_5 : (List Int)) (l35 : (List Bool)) (l42 l56 l59 : (List Int)) (sc26_0 sc26_2 sc26_3 sc26_4 sc26_5 : SV) (b26 : Pos) (s35 s42 s56 s59 : SV) (Fr : Rd) (M : Mem) (r : Bool) (hc26_0 : Slc Fr 3 (FlatR enc43) sc26_0 c26_0) (hc26_2 : Slc Fr 2 (rep127 Fr) sc26_2 c26_2) (hc26_3 : Slc Fr 2 (rep127 Fr) sc26_3 c26_3) (hc26_4 : Slc Fr 1 (FlatR enc3) sc26_4 c26_4) (hc26_5 : Slc Fr 1 (FlatR enc3) sc26_5 c26_5) (hH : Has Fr M [.obj b26 (.row 38 .whole [sc26_0, .nils, sc26_2, sc26_3, sc26_4, sc26_5]), .vec 4 1 l35.length s35 (l35.flatMap enc4), .vec 3 1 l42.length s42 (l42.flatMap enc3), .vec 3 1 l56.length s56 (l56.flatMap enc3), .vec 3 1 l59.length s59 (l59.flatMap enc3), tb0, tb1, tb2, tb3]), hd5 v1 v10 v12 c26_0 c26_2 c26_3 c26_4 c26_5 l35 l42 l56 l59 = some r → Run Tryz.prog ⟨⟨6, [], none⟩, []⟩ 113 (law11_RunVetoed_post r) [(1, (.int .i64 v1)), (2, (.ptr b26 0)), (5, s35), (7, s42), (9, s56), (10, (.int .i64 v10)), (11, s59), (12, (.int .i64 v12))] [codeC Tryz.prog 6 [1, 1, 1, 1, 1, 1, 1, 1, 0, 1, 0, 0, 1, 0, 0, 1, 0, 1, 0, 0], loopC Tryz.prog 6 [1, 1, 1, 1, 1, 1, 1, 1, 0, 1, 0, 0, 1, 0, 0, 1, 0, 1, 0, 0], .inBlock 4, codeC Tryz.prog 6 [1, 1, 1, 1, 1, 1, 1, 1, 0, 1, 0, 0, 1, 0, 0, 1, 1], .inBlock 3, codeC Tryz.prog 6 [1, 1, 1, 1, 1, 1, 1, 1, 0, 1, 0, 0, 1, 1], loopC Tryz.prog 6 [1, 1, 1, 1, 1, 1, 1, 1, 0, 1, 0, 0], .inBlock 2, codeC Tryz.prog 6 [1, 1, 1, 1, 1, 1, 1, 1, 1]] M) : ∀ (v1 v10 v12 : Int) (v63 : Bool) (c26_0 : (List S_api_Duty)) (c26_2 c26_3 : (List S_api_Veto)) (c26_4 c26_5 : (List Int)) (l35 : (List Bool)) (l42 l56 l59 : (List Int)) (sc26_0 sc26_2 sc26_3 sc26_4 sc26_5 : SV) (b26 : Pos) (s35 s42 s56 s59 : SV) (Fr : Rd) (M : Mem) (r : Bool) (hc26_0 : Slc Fr 3 (FlatR enc43) sc26_0 c26_0) (hc26_2 : Slc Fr 2 (rep127 Fr) sc26_2 c26_2) (hc26_3 : Slc Fr 2 (rep127 Fr) sc26_3 c26_3) (hc26_4 : Slc Fr 1 (FlatR enc3) sc26_4 c26_4) (hc26_5 : Slc Fr 1 (FlatR enc3) sc26_5 c26_5) (hH : Has Fr M [.obj b26 (.row 38 .whole [sc26_0, .nils, sc26_2, sc26_3, sc26_4, sc26_5]), .vec 4 1 l35.length s35 (l35.flatMap enc4), .vec 3 1 l42.length s42 (l42.flatMap enc3), .vec 3 1 l56.length s56 (l56.flatMap enc3), .vec 3 1 l59.length s59 (l59.flatMap enc3), tb0, tb1, tb2, tb3]), law11_RunVetoed_6 F hd4 hd5 v1 v10 v12 v63 c26_0 c26_2 c26_3 c26_4 c26_5 l35 l42 l56 l59 = some r → Run Tryz.prog ⟨⟨6, [], none⟩, []⟩ 113 (law11_RunVetoed_post r) [(1, (.int .i64 v1)), (2, (.ptr b26 0)), (5, s35), (7, s42), (9, s56), (10, (.int .i64 v10)), (11, s59), (12, (.int .i64 v12)), (63, (.bool v63))] [codeC Tryz.prog 6 [1, 1, 1, 1, 1, 1, 1, 1, 0, 1, 0, 0, 1, 0, 0, 1, 0, 1, 0, 0, 0, 1], codeC Tryz.prog 6 [1, 1, 1, 1, 1, 1, 1, 1, 0, 1, 0, 0, 1, 0, 0, 1, 0, 1, 0, 0, 1], loopC Tryz.prog 6 [1, 1, 1, 1, 1, 1, 1, 1, 0, 1, 0, 0, 1, 0, 0, 1, 0, 1, 0, 0], .inBlock 4, codeC Tryz.prog 6 [1, 1, 1, 1, 1, 1, 1, 1, 0, 1, 0, 0, 1, 0, 0, 1, 1], .inBlock 3, codeC Tryz.prog 6 [1, 1, 1, 1, 1, 1, 1, 1, 0, 1, 0, 0, 1, 1], loopC Tryz.prog 6 [1, 1, 1, 1, 1, 1, 1, 1, 0, 1, 0, 0], .inBlock 2, codeC Tryz.prog 6 [1, 1, 1, 1, 1, 1, 1, 1, 1]] M := by
 intro v1 v10 v12 v63 c26_0 c26_2 c26_3 c26_4 c26_5 l35 l42 l56 l59 sc26_0 sc26_2 sc26_3 sc26_4 sc26_5 b26 s35 s42 s56 s59 Fr M r hc26_0 hc26_2 hc26_3 hc26_4 hc26_5 hH h
 rw [law11_RunVetoed_6] at h
 rcases btf (v63) with hc62 | hc62
 ·have h := bif_t hc62 h
  refine Run.condT' rfl hc62 ?_
  refine Run.skip (Run.seq (Run.block (Run.region ?_)))
  refine Run.opG wantS_none (ex_move rfl) rfl ?_
  refine Run.opG wantS_none (ex_move rfl) rfl ?_
  refine Run.opX wantS_none rfl (ExG.built (enc := enc3) (l := ([v12] : List Int)) (z := 1) rfl elt24 rfl rfl rfl enc3_len hH) ?_
  rintro s64 M65 (hH65 : Has Fr M65 [.vec 3 1 ([v12] : List Int).length s64 (([v12] : List Int).flatMap enc3), .obj b26 (.row 38 .whole [sc26_0, .nils, sc26_2, sc26_3, sc26_4, sc26_5]), .vec 4 1 l35.length s35 (l35.flatMap enc4), .vec 3 1 l42.length s42 (l42.flatMap enc3), .vec 3 1 l56.length s56 (l56.flatMap enc3), .vec 3 1 l59.length s59 (l59.flatMap enc3), tb0, tb1, tb2, tb3])
  obtain ⟨l68, hl68, h⟩ := bnd_some h
  refine Run.opX wantS_none rfl (ExG.append rfl rfl hH65 (i := 5) rfl enc3_len rfl enc3_ones appt24_24 rfl (len_slc (hH65.slc (i := 0) rfl enc3_len)) (first_slc (hH65.slc (i := 0) rfl enc3_len) (rdLe_rdRow _) enc3_len) hl68) ?_
  rintro s68 M70 (hH70 : Has Fr M70 [.vec 3 1 ([v12] : List Int).length s64 (([v12] : List Int).flatMap enc3), .obj b26 (.row 38 .whole [sc26_0, .nils, sc26_2, sc26_3, sc26_4, sc26_5]), .vec 4 1 l35.length s35 (l35.flatMap enc4), .vec 3 1 l42.length s42 (l42.flatMap enc3), .vec 3 1 l56.length s56 (l56.flatMap enc3), .vec 3 1 l68.length s68 (l68.flatMap enc3), tb0, tb1, tb2, tb3])
  refine Run.opG wantS_none (ex_assign rfl) rfl ?_
  refine Run.opsEnd (Run.inBlock (Run.region ?_))
  refine Run.opG wantS_none (ex_move rfl) rfl ?_
  refine Run.opG wantS_none (ex_add rfl rfl) rfl ?_
  refine Run.opG wantS_none (ex_assign rfl) rfl ?_
  refine Run.opsEnd (Run.inLoop ?_)
  exact Run.pick [1, 2, 5, 7, 9, 10, 11, 12] (hhd5 v1 v10 (w64 (v12 + (1 : Int))) c26_0 c26_2 c26_3 c26_4 c26_5 l35 l42 l56 l68 sc26_0 sc26_2 sc26_3 sc26_4 sc26_5 b26 s35 s42 s56 s68 _ _ _ hc26_0 hc26_2 hc26_3 hc26_4 hc26_5 (hH70.pick [1, 2, 3, 4, 5, 6, 7, 8, 9] rfl rfl) h)
 ·have h := bif_f hc62 h
  refine Run.condF' rfl hc62 ?_
  refine Run.exit rfl (Run.seq (Run.region ?_))
  refine Run.opG wantS_none (ex_move rfl) rfl ?_
  refine Run.opG wantS_none (ex_fieldAddr rfl off38_2) rfl ?_
  rcases btf ((v1 == (0 : Int))) with hc73 | hc73
  ·have h := bif_t hc73 h
   refine Run.opG wantS_none (ex_elX rfl rfl (arr_place (j := 0) (natIn_beq hc73 rfl rfl) els35)) rfl ?_
   exact Run.pick [1, 2, 5, 7, 9, 10, 11, 73] (law11_RunVetoed_7_ok F hd4 hhd4 v1 v10 c26_0 c26_2 c26_3 c26_4 c26_5 l35 l42 l56 l59 sc26_0 sc26_2 sc26_3 sc26_4 sc26_5 b26 s35 s42 s56 s59 _ _ _ hc26_0 hc26_2 hc26_3 hc26_4 hc26_5 hH h)
  ·have h := bif_f hc73 h
   rcases btf ((v1 == (1 : Int))) with hc89 | hc89
   ·have h := bif_t hc89 h
    refine Run.opG wantS_none (ex_elX rfl rfl (arr_place (j := 1) (natIn_beq hc89 rfl rfl) els35)) rfl ?_
    exact Run.pick [1, 2, 5, 7, 9, 10, 11, 73] (law11_RunVetoed_8_ok F hd4 hhd4 v1 v10 c26_0 c26_2 c26_3 c26_4 c26_5 l35 l42 l56 l59 sc26_0 sc26_2 sc26_3 sc26_4 sc26_5 b26 s35 s42 s56 s59 _ _ _ hc26_0 hc26_2 hc26_3 hc26_4 hc26_5 hH h)
   ·have h := bif_f hc89 h
    cases h

def law11_RunVetoed_5 (F : Nat) (hd4 : Int → Int → (List S_api_Duty) → (List S_api_Veto) → (List S_api_Veto) → (List Int) → (List Int) → (List Bool) → (List Int) → (List Int) → Option (Bool)) : Nat → Int → Int → Int → (List S_api_Duty) → (List S_api_Veto) → (List S_api_Veto) → (List Int) → (List Int) → (List Bool) → (List Int) → (List Int) → (List Int) → Option (Bool)
 | 0, _, _, _, _, _, _, _, _, _, _, _, _ => none
 | N + 1, v1, v10, v12, c26_0, c26_2, c26_3, c26_4, c26_5, l35, l42, l56, l59 =>
  bif (decide (v12 < (l35.length : Int))) then
   law11_RunVetoed_6 F hd4 (law11_RunVetoed_5 F hd4 N) v1 v10 v12 (decide (v12 < (w64 (v10 + (256 : Int))))) c26_0 c26_2 c26_3 c26_4 c26_5 l35 l42 l56 l59
  else
   law11_RunVetoed_6 F hd4 (law11_RunVetoed_5 F hd4 N) v1 v10 v12 false c26_0 c26_2 c26_3 c26_4 c26_5 l35 l42 l56 l59

theorem law11_RunVetoed_5_ok (F : Nat) (hd4 : Int → Int → (List S_api_Duty) → (List S_api_Veto) → (List S_api_Veto) → (List Int) → (List Int) → (List Bool) → (List Int) → (List Int) → Option (Bool)) (hhd4 : ∀ (v1 v10 : Int) (c26_0 : (List S_api_Duty)) (c26_2 c26_3 : (List S_api_Veto)) (c26_4 c26_5 : (List Int)) (l35 : (List Bool)) (l42 l56 : (List Int)) (sc26_0 sc26_2 sc26_3 sc26_4 sc26_5 : SV) (b26 : Pos) (s35 s42 s56 : SV) (Fr : Rd) (M : Mem) (r : Bool) (hc26_0 : Slc Fr 3 (FlatR enc43) sc26_0 c26_0) (hc26_2 : Slc Fr 2 (rep127 Fr) sc26_2 c26_2) (hc26_3 : Slc Fr 2 (rep127 Fr) sc26_3 c26_3) (hc26_4 : Slc Fr 1 (FlatR enc3) sc26_4 c26_4) (hc26_5 : Slc Fr 1 (FlatR enc3) sc26_5 c26_5) (hH : Has Fr M [.obj b26 (.row 38 .whole [sc26_0, .nils, sc26_2, sc26_3, sc26_4, sc26_5]), .vec 4 1 l35.length s35 (l35.flatMap enc4), .vec 3 1 l42.length s42 (l42.flatMap enc3), .vec 3 1 l56.length s56 (l56.flatMap enc3), tb0, tb1, tb2, tb3]), hd4 v1 v10 c26_0 c26_2 c26_3 c26_4 c26_5 l35 l42 l56 = some r → Run Tryz.prog ⟨⟨6, [], none⟩, []⟩ 113 (law11_RunVetoed_post r) [(1, (.int .i64 v1)), (2, (.ptr b26 0)), (5, s35), (7, s42), (9, s56), (10, (.int .i64 v10))] [codeC Tryz.prog 6 [1, 1, 1, 1, 1, 1, 1, 1, 0, 1, 0, 0], loopC Tryz.prog 6 [1, 1, 1, 1, 1, 1, 1, 1, 0, 1, 0, 0], .inBlock 2, codeC Tryz.prog 6 [1, 1, 1, 1, 1, 1, 1, 1, 1]] M) : ∀ (N : Nat), ∀ (v1 v10 v12 : Int) (c26_0 : (List S_api_Duty)) (c26_2 c26_3 : (List S_api_Veto)) (c26_4 c26_5 : (List Int)) (l35 : (List Bool)) (l42 l56 l59 : (List Int)) (sc26_0 sc26_2 sc26_3 sc26_4 sc26_5 : SV) (b26 : Pos) (s35 s42 s56 s59 : SV) (Fr : Rd) (M : Mem) (r : Bool) (hc26_0 : Slc Fr 3 (FlatR enc43) sc26_0 c26_0) (hc26_2 : Slc Fr 2 (rep127 Fr) sc26_2 c26_2) (hc26_3 : Slc Fr 2 (rep127 Fr) sc26_3 c26_3) (hc26_4 : Slc Fr 1 (FlatR enc3) sc26_4 c26_4) (hc26_5 : Slc Fr 1 (FlatR enc3) sc26_5 c26_5) (hH : Has Fr M [.obj b26 (.row 38 .whole [sc26_0, .nils, sc26_2, sc26_3, sc26_4, sc26_5]), .vec 4 1 l35.length s35 (l35.flatMap enc4), .vec 3 1 l42.length s42 (l42.flatMap enc3), .vec 3 1 l56.length s56 (l56.flatMap enc3), .vec 3 1 l59.length s59 (l59.flatMap enc3), tb0, tb1, tb2, tb3]), law11_RunVetoed_5 F hd4 N v1 v10 v12 c26_0 c26_2 c26_3 c26_4 c26_5 l35 l42 l56 l59 = some r → Run Tryz.prog ⟨⟨6, [], none⟩, []⟩ 113 (law11_RunVetoed_post r) [(1, (.int .i64 v1)), (2, (.ptr b26 0)), (5, s35), (7, s42), (9, s56), (10, (.int .i64 v10)), (11, s59), (12, (.int .i64 v12))] [codeC Tryz.prog 6 [1, 1, 1, 1, 1, 1, 1, 1, 0, 1, 0, 0, 1, 0, 0, 1, 0, 1, 0, 0], loopC Tryz.prog 6 [1, 1, 1, 1, 1, 1, 1, 1, 0, 1, 0, 0, 1, 0, 0, 1, 0, 1, 0, 0], .inBlock 4, codeC Tryz.prog 6 [1, 1, 1, 1, 1, 1, 1, 1, 0, 1, 0, 0, 1, 0, 0, 1, 1], .inBlock 3, codeC Tryz.prog 6 [1, 1, 1, 1, 1, 1, 1, 1, 0, 1, 0, 0, 1, 1], loopC Tryz.prog 6 [1, 1, 1, 1, 1, 1, 1, 1, 0, 1, 0, 0], .inBlock 2, codeC Tryz.prog 6 [1, 1, 1, 1, 1, 1, 1, 1, 1]] M := by
 intro N
 induction N with
 | zero =>
  intro v1 v10 v12 c26_0 c26_2 c26_3 c26_4 c26_5 l35 l42 l56 l59 sc26_0 sc26_2 sc26_3 sc26_4 sc26_5 b26 s35 s42 s56 s59 Fr M r hc26_0 hc26_2 hc26_3 hc26_4 hc26_5 hH h
  simp [law11_RunVetoed_5] at h
 | succ N ih =>
  intro v1 v10 v12 c26_0 c26_2 c26_3 c26_4 c26_5 l35 l42 l56 l59 sc26_0 sc26_2 sc26_3 sc26_4 sc26_5 b26 s35 s42 s56 s59 Fr M r hc26_0 hc26_2 hc26_3 hc26_4 hc26_5 hH h
  rw [law11_RunVetoed_5] at h
  refine Run.seq (Run.seq (Run.region ?_))
  refine Run.opG wantS_none (ex_move rfl) rfl ?_
  refine Run.opG wantS_none (ex_move rfl) rfl ?_
  refine Run.opG wantS_none (ex_len' rfl (hH.slc (i := 1) rfl enc4_len) lenk48) rfl ?_
  refine Run.opG wantS_none (ex_lss rfl rfl) rfl ?_
  refine Run.opG wantS_none (ex_move rfl) rfl ?_
  rcases btf ((decide (v12 < (l35.length : Int)))) with hc61 | hc61
  ·have h := bif_t hc61 h
   refine Run.opG (wantS_yes' rfl rfl hc61) (ex_move rfl) rfl ?_
   refine Run.opG (wantS_yes' rfl rfl hc61) (ex_move rfl) rfl ?_
   refine Run.opG (wantS_yes' rfl rfl hc61) (ex_add rfl rfl) rfl ?_
   refine Run.opG (wantS_yes' rfl rfl hc61) (ex_lss rfl rfl) rfl ?_
   refine Run.opG wantS_none (ex_pickT' rfl hc61 rfl rfl) rfl ?_
   refine Run.opsEnd ?_
   exact Run.pick [1, 2, 5, 7, 9, 10, 11, 12, 63] (law11_RunVetoed_6_ok F hd4 hhd4 (law11_RunVetoed_5 F hd4 N) ih v1 v10 v12 (decide (v12 < (w64 (v10 + (256 : Int))))) c26_0 c26_2 c26_3 c26_4 c26_5 l35 l42 l56 l59 sc26_0 sc26_2 sc26_3 sc26_4 sc26_5 b26 s35 s42 s56 s59 _ _ _ hc26_0 hc26_2 hc26_3 hc26_4 hc26_5 hH h)
  ·have h := bif_f hc61 h
   refine Run.no (wantS_not' rfl rfl hc61) rfl ?_
   refine Run.no (wantS_not' rfl rfl hc61) rfl ?_
   refine Run.no (wantS_not' rfl rfl hc61) rfl ?_
   refine Run.no (wantS_not' rfl rfl hc61) rfl ?_
   refine Run.opG wantS_none (ex_pickF' rfl hc61 rfl rfl) rfl ?_
   refine Run.opsEnd ?_
   exact Run.pick [1, 2, 5, 7, 9, 10, 11, 12, 63] (law11_RunVetoed_6_ok F hd4 hhd4 (law11_RunVetoed_5 F hd4 N) ih v1 v10 v12 false c26_0 c26_2 c26_3 c26_4 c26_5 l35 l42 l56 l59 sc26_0 sc26_2 sc26_3 sc26_4 sc26_5 b26 s35 s42 s56 s59 _ _ _ hc26_0 hc26_2 hc26_3 hc26_4 hc26_5 hH h)

def law11_RunVetoed_12 (F : Nat) (v112 : Bool) : Option (Bool) :=
 some v112

theorem law11_RunVetoed_12_ok (F : Nat) : ∀ (v112 : Bool) (Fr : Rd) (M : Mem) (r : Bool) (hH : Has Fr M [tb0, tb1, tb2, tb3]), law11_RunVetoed_12 F v112 = some r → Run Tryz.prog ⟨⟨6, [], none⟩, []⟩ 113 (law11_RunVetoed_post r) [(112, (.bool v112))] [itemC Tryz.prog 6 [1, 1, 1, 1, 1, 1, 1, 1, 1, 1, 0] 19, codeC Tryz.prog 6 [1, 1, 1, 1, 1, 1, 1, 1, 1, 1, 1]] M := by
 intro v112 Fr M r hH h
 rw [law11_RunVetoed_12] at h
 refine Run.opG wantS_none (ex_assign rfl) rfl ?_
 refine Run.opsEnd ?_
 cases h
 exact Run.ret Tryz.func6 rfl (res_tmp rfl res_nil) rfl

def law11_RunVetoed_11 (F : Nat) (v109 : Bool) : Option (Bool) :=
 bif v109 then
  bnd (works F) fun r119 =>
  law11_RunVetoed_12 F r119
 else
  law11_RunVetoed_12 F false

theorem law11_RunVetoed_11_ok (F : Nat) : ∀ (v109 : Bool) (Fr : Rd) (M : Mem) (r : Bool) (hH : Has Fr M [tb0, tb1, tb2, tb3]), law11_RunVetoed_11 F v109 = some r → Run Tryz.prog ⟨⟨6, [], none⟩, []⟩ 113 (law11_RunVetoed_post r) [(109, (.bool v109))] [itemC Tryz.prog 6 [1, 1, 1, 1, 1, 1, 1, 1, 1, 1, 0] 16, codeC Tryz.prog 6 [1, 1, 1, 1, 1, 1, 1, 1, 1, 1, 1]] M := by
 intro v109 Fr M r hH h
 rw [law11_RunVetoed_11] at h
 refine Run.opG wantS_none (ex_move rfl) rfl ?_
 rcases btf (v109) with hc117 | hc117
 ·have h := bif_t hc117 h
  obtain ⟨r119, hr119, h⟩ := bnd_some h
  refine Run.callP (wantS_yes' rfl rfl hc117) (ex_call rfl mkk9 cal9) rfl (works_ok F r119 _ hH (List.mem_of_getElem? (i := 0) rfl) (List.mem_of_getElem? (i := 1) rfl) (List.mem_of_getElem? (i := 2) rfl) (List.mem_of_getElem? (i := 3) rfl) hr119) ?_
  refine Run.opG wantS_none (ex_pickT' rfl hc117 rfl rfl) rfl ?_
  exact Run.pick [112] (law11_RunVetoed_12_ok F r119 _ _ _ hH h)
 ·have h := bif_f hc117 h
  refine Run.no (wantS_not' rfl rfl hc117) rfl ?_
  refine Run.opG wantS_none (ex_pickF' rfl hc117 rfl rfl) rfl ?_
  exact Run.pick [112] (law11_RunVetoed_12_ok F false _ _ _ hH h)

def law11_RunVetoed_10 (F : Nat) (v15 : Int) (v100 : Bool) (l35 : (List Bool)) (l42 : (List Int)) : Option (Bool) :=
 bif v100 then
  law11_RunVetoed_11 F (v15 == (w64 ((l35.length : Int) - (l42.length : Int))))
 else
  law11_RunVetoed_11 F false

theorem law11_RunVetoed_10_ok (F : Nat) : ∀ (v15 : Int) (v100 : Bool) (l35 : (List Bool)) (l42 : (List Int)) (s35 s42 : SV) (Fr : Rd) (M : Mem) (r : Bool) (hH : Has Fr M [.vec 4 1 l35.length s35 (l35.flatMap enc4), .vec 3 1 l42.length s42 (l42.flatMap enc3), tb0, tb1, tb2, tb3]), law11_RunVetoed_10 F v15 v100 l35 l42 = some r → Run Tryz.prog ⟨⟨6, [], none⟩, []⟩ 113 (law11_RunVetoed_post r) [(5, s35), (7, s42), (15, (.int .i64 v15)), (100, (.bool v100))] [itemC Tryz.prog 6 [1, 1, 1, 1, 1, 1, 1, 1, 1, 1, 0] 7, codeC Tryz.prog 6 [1, 1, 1, 1, 1, 1, 1, 1, 1, 1, 1]] M := by
 intro v15 v100 l35 l42 s35 s42 Fr M r hH h
 rw [law11_RunVetoed_10] at h
 refine Run.opG wantS_none (ex_move rfl) rfl ?_
 rcases btf (v100) with hc116 | hc116
 ·have h := bif_t hc116 h
  refine Run.opG (wantS_yes' rfl rfl hc116) (ex_move rfl) rfl ?_
  refine Run.opG (wantS_yes' rfl rfl hc116) (ex_move rfl) rfl ?_
  refine Run.opG (wantS_yes' rfl rfl hc116) (ex_len' rfl (hH.slc (i := 0) rfl enc4_len) lenk48) rfl ?_
  refine Run.opG (wantS_yes' rfl rfl hc116) (ex_move rfl) rfl ?_
  refine Run.opG (wantS_yes' rfl rfl hc116) (ex_len' rfl (hH.slc (i := 1) rfl enc3_len) lenk24) rfl ?_
  refine Run.opG (wantS_yes' rfl rfl hc116) (ex_sub rfl rfl) rfl ?_
  refine Run.opG (wantS_yes' rfl rfl hc116) (ex_eql rfl rfl) rfl ?_
  refine Run.opG wantS_none (ex_pickT' rfl hc116 rfl rfl) rfl ?_
  exact Run.pick [109] (law11_RunVetoed_11_ok F (v15 == (w64 ((l35.length : Int) - (l42.length : Int)))) _ _ _ (hH.pick [2, 3, 4, 5] rfl rfl) h)
 ·have h := bif_f hc116 h
  refine Run.no (wantS_not' rfl rfl hc116) rfl ?_
  refine Run.no (wantS_not' rfl rfl hc116) rfl ?_
  refine Run.no (wantS_not' rfl rfl hc116) rfl ?_
  refine Run.no (wantS_not' rfl rfl hc116) rfl ?_
  refine Run.no (wantS_not' rfl rfl hc116) rfl ?_
  refine Run.no (wantS_not' rfl rfl hc116) rfl ?_
  refine Run.no (wantS_not' rfl rfl hc116) rfl ?_
  refine Run.opG wantS_none (ex_pickF' rfl hc116 rfl rfl) rfl ?_
  exact Run.pick [109] (law11_RunVetoed_11_ok F false _ _ _ (hH.pick [2, 3, 4, 5] rfl rfl) h)

def law11_RunVetoed_9 (F : Nat) (c26_0 : (List S_api_Duty)) (c26_2 c26_3 : (List S_api_Veto)) (c26_4 c26_5 : (List Int)) (l35 : (List Bool)) (l42 l56 : (List Int)) : Option (Bool) :=
 bnd (glitch_Dead F c26_2 (l35.length : Int)) fun r110 =>
 bif (r110.2 == (0 : Int)) then
  bnd (ref00_SameInts F l42 l56) fun r114 =>
  law11_RunVetoed_10 F r110.1 r114 l35 l42
 else
  law11_RunVetoed_10 F r110.1 false l35 l42

theorem law11_RunVetoed_9_ok (F : Nat) : ∀ (c26_0 : (List S_api_Duty)) (c26_2 c26_3 : (List S_api_Veto)) (c26_4 c26_5 : (List Int)) (l35 : (List Bool)) (l42 l56 : (List Int)) (sc26_0 sc26_2 sc26_3 sc26_4 sc26_5 s35 s42 s56 : SV) (b26 : Pos) (Fr : Rd) (M : Mem) (r : Bool) (hc26_0 : Slc Fr 3 (FlatR enc43) sc26_0 c26_0) (hc26_2 : Slc Fr 2 (rep127 Fr) sc26_2 c26_2) (hc26_3 : Slc Fr 2 (rep127 Fr) sc26_3 c26_3) (hc26_4 : Slc Fr 1 (FlatR enc3) sc26_4 c26_4) (hc26_5 : Slc Fr 1 (FlatR enc3) sc26_5 c26_5) (hH : Has Fr M [.vec 4 1 l35.length s35 (l35.flatMap enc4), .vec 3 1 l42.length s42 (l42.flatMap enc3), .vec 3 1 l56.length s56 (l56.flatMap enc3), .obj b26 (.row 38 .whole [sc26_0, .nils, sc26_2, sc26_3, sc26_4, sc26_5]), tb0, tb1, tb2, tb3]), law11_RunVetoed_9 F c26_0 c26_2 c26_3 c26_4 c26_5 l35 l42 l56 = some r → Run Tryz.prog ⟨⟨6, [], none⟩, []⟩ 113 (law11_RunVetoed_post r) [(5, s35), (7, s42), (9, s56), (87, (.ptr b26 2))] [itemC Tryz.prog 6 [1, 1, 1, 1, 1, 1, 1, 1, 1, 0] 3, codeC Tryz.prog 6 [1, 1, 1, 1, 1, 1, 1, 1, 1, 1]] M := by
 intro c26_0 c26_2 c26_3 c26_4 c26_5 l35 l42 l56 sc26_0 sc26_2 sc26_3 sc26_4 sc26_5 s35 s42 s56 b26 Fr M r hc26_0 hc26_2 hc26_3 hc26_4 hc26_5 hH h
 rw [law11_RunVetoed_9] at h
 refine Run.opG wantS_none (ex_load1 rfl (hH.cells (i := 3) rfl 2 rfl) rdLe_rfl agg34) rfl ?_
 refine Run.opG wantS_none (ex_move rfl) rfl ?_
 refine Run.opG wantS_none (ex_len' rfl (hH.slc (i := 0) rfl enc4_len) lenk48) rfl ?_
 obtain ⟨r110, hr110, h⟩ := bnd_some h
 refine Run.callP wantS_none (ex_call rfl mkk20 cal20) rfl (glitch_Dead_ok F c26_2 (l35.length : Int) sc26_2 _ _ ((hc26_2).mono hH.le (fun _ _ => rep127_mo hH.le)) hr110) ?_
 refine Run.opG wantS_none (ex_move rfl) rfl ?_
 refine Run.opG wantS_none (ex_extract rfl rfl) rfl ?_
 refine Run.opG wantS_none (ex_extract rfl rfl) rfl ?_
 refine Run.opG wantS_none (ex_assign rfl) rfl ?_
 refine Run.opG wantS_none (ex_assign rfl) rfl ?_
 refine Run.opsEnd (Run.seq (Run.region ?_))
 refine Run.opG wantS_none (ex_move rfl) rfl ?_
 refine Run.opG wantS_none (ex_eql rfl rfl) rfl ?_
 refine Run.opG wantS_none (ex_move rfl) rfl ?_
 rcases btf ((r110.2 == (0 : Int))) with hc112 | hc112
 ·have h := bif_t hc112 h
  refine Run.opG (wantS_yes' rfl rfl hc112) (ex_move rfl) rfl ?_
  refine Run.opG (wantS_yes' rfl rfl hc112) (ex_move rfl) rfl ?_
  obtain ⟨r114, hr114, h⟩ := bnd_some h
  refine Run.callP (wantS_yes' rfl rfl hc112) (ex_call rfl mkk10 cal10) rfl (ref00_SameInts_ok F l42 l56 s42 s56 _ _ (hH.slc (i := 1) rfl enc3_len) (hH.slc (i := 2) rfl enc3_len) hr114) ?_
  refine Run.opG wantS_none (ex_pickT' rfl hc112 rfl rfl) rfl ?_
  exact Run.pick [5, 7, 15, 100] (law11_RunVetoed_10_ok F r110.1 r114 l35 l42 s35 s42 _ _ _ (hH.pick [0, 1, 4, 5, 6, 7] rfl rfl) h)
 ·have h := bif_f hc112 h
  refine Run.no (wantS_not' rfl rfl hc112) rfl ?_
  refine Run.no (wantS_not' rfl rfl hc112) rfl ?_
  refine Run.no (wantS_not' rfl rfl hc112) rfl ?_
  refine Run.opG wantS_none (ex_pickF' rfl hc112 rfl rfl) rfl ?_
  exact Run.pick [5, 7, 15, 100] (law11_RunVetoed_10_ok F r110.1 false l35 l42 s35 s42 _ _ _ (hH.pick [0, 1, 4, 5, 6, 7] rfl rfl) h)

def law11_RunVetoed_13 (F : Nat) (c26_0 : (List S_api_Duty)) (c26_2 c26_3 : (List S_api_Veto)) (c26_4 c26_5 : (List Int)) (l35 : (List Bool)) (l42 l56 : (List Int)) : Option (Bool) :=
 bnd (glitch_Dead F c26_3 (l35.length : Int)) fun r127 =>
 bif (r127.2 == (0 : Int)) then
  bnd (ref00_SameInts F l42 l56) fun r131 =>
  law11_RunVetoed_10 F r127.1 r131 l35 l42
 else
  law11_RunVetoed_10 F r127.1 false l35 l42

theorem law11_RunVetoed_13_ok (F : Nat) : ∀ (c26_0 : (List S_api_Duty)) (c26_2 c26_3 : (List S_api_Veto)) (c26_4 c26_5 : (List Int)) (l35 : (List Bool)) (l42 l56 : (List Int)) (sc26_0 sc26_2 sc26_3 sc26_4 sc26_5 s35 s42 s56 : SV) (b26 : Pos) (Fr : Rd) (M : Mem) (r : Bool) (hc26_0 : Slc Fr 3 (FlatR enc43) sc26_0 c26_0) (hc26_2 : Slc Fr 2 (rep127 Fr) sc26_2 c26_2) (hc26_3 : Slc Fr 2 (rep127 Fr) sc26_3 c26_3) (hc26_4 : Slc Fr 1 (FlatR enc3) sc26_4 c26_4) (hc26_5 : Slc Fr 1 (FlatR enc3) sc26_5 c26_5) (hH : Has Fr M [.vec 4 1 l35.length s35 (l35.flatMap enc4), .vec 3 1 l42.length s42 (l42.flatMap enc3), .vec 3 1 l56.length s56 (l56.flatMap enc3), .obj b26 (.row 38 .whole [sc26_0, .nils, sc26_2, sc26_3, sc26_4, sc26_5]), tb0, tb1, tb2, tb3]), law11_RunVetoed_13 F c26_0 c26_2 c26_3 c26_4 c26_5 l35 l42 l56 = some r → Run Tryz.prog ⟨⟨6, [], none⟩, []⟩ 113 (law11_RunVetoed_post r) [(5, s35), (7, s42), (9, s56), (87, (.ptr b26 3))] [itemC Tryz.prog 6 [1, 1, 1, 1, 1, 1, 1, 1, 1, 0] 3, codeC Tryz.prog 6 [1, 1, 1, 1, 1, 1, 1, 1, 1, 1]] M := by
 intro c26_0 c26_2 c26_3 c26_4 c26_5 l35 l42 l56 sc26_0 sc26_2 sc26_3 sc26_4 sc26_5 s35 s42 s56 b26 Fr M r hc26_0 hc26_2 hc26_3 hc26_4 hc26_5 hH h
 rw [law11_RunVetoed_13] at h
 refine Run.opG wantS_none (ex_load1 rfl (hH.cells (i := 3) rfl 3 rfl) rdLe_rfl agg34) rfl ?_
 refine Run.opG wantS_none (ex_move rfl) rfl ?_
 refine Run.opG wantS_none (ex_len' rfl (hH.slc (i := 0) rfl enc4_len) lenk48) rfl ?_
 obtain ⟨r127, hr127, h⟩ := bnd_some h
 refine Run.callP wantS_none (ex_call rfl mkk20 cal20) rfl (glitch_Dead_ok F c26_3 (l35.length : Int) sc26_3 _ _ ((hc26_3).mono hH.le (fun _ _ => rep127_mo hH.le)) hr127) ?_
 refine Run.opG wantS_none (ex_move rfl) rfl ?_
 refine Run.opG wantS_none (ex_extract rfl rfl) rfl ?_
 refine Run.opG wantS_none (ex_extract rfl rfl) rfl ?_
 refine Run.opG wantS_none (ex_assign rfl) rfl ?_
 refine Run.opG wantS_none (ex_assign rfl) rfl ?_
 refine Run.opsEnd (Run.seq (Run.region ?_))
 refine Run.opG wantS_none (ex_move rfl) rfl ?_
 refine Run.opG wantS_none (ex_eql rfl rfl) rfl ?_
 refine Run.opG wantS_none (ex_move rfl) rfl ?_
 rcases btf ((r127.2 == (0 : Int))) with hc129 | hc129
 ·have h := bif_t hc129 h
  refine Run.opG (wantS_yes' rfl rfl hc129) (ex_move rfl) rfl ?_
  refine Run.opG (wantS_yes' rfl rfl hc129) (ex_move rfl) rfl ?_
  obtain ⟨r131, hr131, h⟩ := bnd_some h
  refine Run.callP (wantS_yes' rfl rfl hc129) (ex_call rfl mkk10 cal10) rfl (ref00_SameInts_ok F l42 l56 s42 s56 _ _ (hH.slc (i := 1) rfl enc3_len) (hH.slc (i := 2) rfl enc3_len) hr131) ?_
  refine Run.opG wantS_none (ex_pickT' rfl hc129 rfl rfl) rfl ?_
  exact Run.pick [5, 7, 15, 100] (law11_RunVetoed_10_ok F r127.1 r131 l35 l42 s35 s42 _ _ _ (hH.pick [0, 1, 4, 5, 6, 7] rfl rfl) h)
 ·have h := bif_f hc129 h
  refine Run.no (wantS_not' rfl rfl hc129) rfl ?_
  refine Run.no (wantS_not' rfl rfl hc129) rfl ?_
  refine Run.no (wantS_not' rfl rfl hc129) rfl ?_
  refine Run.opG wantS_none (ex_pickF' rfl hc129 rfl rfl) rfl ?_
  exact Run.pick [5, 7, 15, 100] (law11_RunVetoed_10_ok F r127.1 false l35 l42 s35 s42 _ _ _ (hH.pick [0, 1, 4, 5, 6, 7] rfl rfl) h)

def law11_RunVetoed_4 (F : Nat) : Nat → Int → Int → (List S_api_Duty) → (List S_api_Veto) → (List S_api_Veto) → (List Int) → (List Int) → (List Bool) → (List Int) → (List Int) → Option (Bool)
 | 0, _, _, _, _, _, _, _, _, _, _ => none
 | N + 1, v1, v10, c26_0, c26_2, c26_3, c26_4, c26_5, l35, l42, l56 =>
  bif (decide (v10 < (l35.length : Int))) then
   law11_RunVetoed_5 F (law11_RunVetoed_4 F N) F v1 v10 v10 c26_0 c26_2 c26_3 c26_4 c26_5 l35 l42 l56 ([] : List Int)
  else
   bif (v1 == (0 : Int)) then
    law11_RunVetoed_9 F c26_0 c26_2 c26_3 c26_4 c26_5 l35 l42 l56
   else
    bif (v1 == (1 : Int)) then
     law11_RunVetoed_13 F c26_0 c26_2 c26_3 c26_4 c26_5 l35 l42 l56
    else
     none

theorem law11_RunVetoed_4_ok (F : Nat) : ∀ (N : Nat), ∀ (v1 v10 : Int) (c26_0 : (List S_api_Duty)) (c26_2 c26_3 : (List S_api_Veto)) (c26_4 c26_5 : (List Int)) (l35 : (List Bool)) (l42 l56 : (List Int)) (sc26_0 sc26_2 sc26_3 sc26_4 sc26_5 : SV) (b26 : Pos) (s35 s42 s56 : SV) (Fr : Rd) (M : Mem) (r : Bool) (hc26_0 : Slc Fr 3 (FlatR enc43) sc26_0 c26_0) (hc26_2 : Slc Fr 2 (rep127 Fr) sc26_2 c26_2) (hc26_3 : Slc Fr 2 (rep127 Fr) sc26_3 c26_3) (hc26_4 : Slc Fr 1 (FlatR enc3) sc26_4 c26_4) (hc26_5 : Slc Fr 1 (FlatR enc3) sc26_5 c26_5) (hH : Has Fr M [.obj b26 (.row 38 .whole [sc26_0, .nils, sc26_2, sc26_3, sc26_4, sc26_5]), .vec 4 1 l35.length s35 (l35.flatMap enc4), .vec 3 1 l42.length s42 (l42.flatMap enc3), .vec 3 1 l56.length s56 (l56.flatMap enc3), tb0, tb1, tb2, tb3]), law11_RunVetoed_4 F N v1 v10 c26_0 c26_2 c26_3 c26_4 c26_5 l35 l42 l56 = some r → Run Tryz.prog ⟨⟨6, [], none⟩, []⟩ 113 (law11_RunVetoed_post r) [(1, (.int .i64 v1)), (2, (.ptr b26 0)), (5, s35), (7, s42), (9, s56), (10, (.int .i64 v10))] [codeC Tryz.prog 6 [1, 1, 1, 1, 1, 1, 1, 1, 0, 1, 0, 0], loopC Tryz.prog 6 [1, 1, 1, 1, 1, 1, 1, 1, 0, 1, 0, 0], .inBlock 2, codeC Tryz.prog 6 [1, 1, 1, 1, 1, 1, 1, 1, 1]] M := by
 intro N
 induction N with
 | zero =>
  intro v1 v10 c26_0 c26_2 c26_3 c26_4 c26_5 l35 l42 l56 sc26_0 sc26_2 sc26_3 sc26_4 sc26_5 b26 s35 s42 s56 Fr M r hc26_0 hc26_2 hc26_3 hc26_4 hc26_5 hH h
  simp [law11_RunVetoed_4] at h
 | succ N ih =>
  intro v1 v10 c26_0 c26_2 c26_3 c26_4 c26_5 l35 l42 l56 sc26_0 sc26_2 sc26_3 sc26_4 sc26_5 b26 s35 s42 s56 Fr M r hc26_0 hc26_2 hc26_3 hc26_4 hc26_5 hH h
  rw [law11_RunVetoed_4] at h
  refine Run.seq (Run.seq (Run.region ?_))
  refine Run.opG wantS_none (ex_move rfl) rfl ?_
  refine Run.opG wantS_none (ex_move rfl) rfl ?_
  refine Run.opG wantS_none (ex_len' rfl (hH.slc (i := 1) rfl enc4_len) lenk48) rfl ?_
  refine Run.opG wantS_none (ex_lss rfl rfl) rfl ?_
  refine Run.opsEnd ?_
  rcases btf ((decide (v10 < (l35.length : Int)))) with hc58 | hc58
  ·have h := bif_t hc58 h
   refine Run.condT' rfl hc58 ?_
   refine Run.skip (Run.seq (Run.block (Run.seq (Run.region ?_))))
   refine Run.opG wantS_none (ex_assign rfl) rfl ?_
   refine Run.opsEnd (Run.seq (Run.seq (Run.region ?_)))
   refine Run.opG wantS_none (ex_move rfl) rfl ?_
   refine Run.opG wantS_none (ex_assign rfl) rfl ?_
   refine Run.opsEnd (Run.block (Run.loop ?_))
   have hH60 : Has Fr M [.vec 3 1 ([] : List Int).length .nils (([] : List Int).flatMap enc3), .obj b26 (.row 38 .whole [sc26_0, .nils, sc26_2, sc26_3, sc26_4, sc26_5]), .vec 4 1 l35.length s35 (l35.flatMap enc4), .vec 3 1 l42.length s42 (l42.flatMap enc3), .vec 3 1 l56.length s56 (l56.flatMap enc3), tb0, tb1, tb2, tb3] := hH.nils 3 1
   exact Run.pick [1, 2, 5, 7, 9, 10, 11, 12] (law11_RunVetoed_5_ok F (law11_RunVetoed_4 F N) ih F v1 v10 v10 c26_0 c26_2 c26_3 c26_4 c26_5 l35 l42 l56 ([] : List Int) sc26_0 sc26_2 sc26_3 sc26_4 sc26_5 b26 s35 s42 s56 .nils _ _ _ hc26_0 hc26_2 hc26_3 hc26_4 hc26_5 (hH60.pick [1, 2, 3, 4, 0, 5, 6, 7, 8] rfl rfl) h)
  ·have h := bif_f hc58 h
   refine Run.condF' rfl hc58 ?_
   refine Run.exit rfl (Run.seq (Run.region ?_))
   refine Run.opG wantS_none (ex_move rfl) rfl ?_
   refine Run.opG wantS_none (ex_fieldAddr rfl off38_2) rfl ?_
   rcases btf ((v1 == (0 : Int))) with hc106 | hc106
   ·have h := bif_t hc106 h
    refine Run.opG wantS_none (ex_elX rfl rfl (arr_place (j := 0) (natIn_beq hc106 rfl rfl) els35)) rfl ?_
    exact Run.pick [5, 7, 9, 87] (law11_RunVetoed_9_ok F c26_0 c26_2 c26_3 c26_4 c26_5 l35 l42 l56 sc26_0 sc26_2 sc26_3 sc26_4 sc26_5 s35 s42 s56 b26 _ _ _ hc26_0 hc26_2 hc26_3 hc26_4 hc26_5 (hH.pick [1, 2, 3, 0, 4, 5, 6, 7] rfl rfl) h)
   ·have h := bif_f hc106 h
    rcases btf ((v1 == (1 : Int))) with hc123 | hc123
    ·have h := bif_t hc123 h
     refine Run.opG wantS_none (ex_elX rfl rfl (arr_place (j := 1) (natIn_beq hc123 rfl rfl) els35)) rfl ?_
     exact Run.pick [5, 7, 9, 87] (law11_RunVetoed_13_ok F c26_0 c26_2 c26_3 c26_4 c26_5 l35 l42 l56 sc26_0 sc26_2 sc26_3 sc26_4 sc26_5 s35 s42 s56 b26 _ _ _ hc26_0 hc26_2 hc26_3 hc26_4 hc26_5 (hH.pick [1, 2, 3, 0, 4, 5, 6, 7] rfl rfl) h)
    ·have h := bif_f hc123 h
     cases h

def law11_RunVetoed_2 (F : Nat) : Nat → Int → Int → (List S_api_Duty) → (List S_api_Veto) → (List S_api_Veto) → (List Int) → (List Int) → (List Bool) → (List Int) → Option (Bool)
 | 0, _, _, _, _, _, _, _, _, _ => none
 | N + 1, v1, v8, c26_0, c26_2, c26_3, c26_4, c26_5, l35, l42 =>
  bif (decide (v8 < (l35.length : Int))) then
   bnd (idx l35 v8) fun x46 =>
   bif x46 then
    bnd (apd 8 l42 ([v8] : List Int)) fun l53 =>
    law11_RunVetoed_3 F (law11_RunVetoed_2 F N) v1 v8 c26_0 c26_2 c26_3 c26_4 c26_5 l35 l53
   else
    law11_RunVetoed_3 F (law11_RunVetoed_2 F N) v1 v8 c26_0 c26_2 c26_3 c26_4 c26_5 l35 l42
  else
   law11_RunVetoed_4 F F v1 (0 : Int) c26_0 c26_2 c26_3 c26_4 c26_5 l35 l42 ([] : List Int)

theorem law11_RunVetoed_2_ok (F : Nat) : ∀ (N : Nat), ∀ (v1 v8 : Int) (c26_0 : (List S_api_Duty)) (c26_2 c26_3 : (List S_api_Veto)) (c26_4 c26_5 : (List Int)) (l35 : (List Bool)) (l42 : (List Int)) (sc26_0 sc26_2 sc26_3 sc26_4 sc26_5 : SV) (b26 : Pos) (s35 s42 : SV) (Fr : Rd) (M : Mem) (r : Bool) (hc26_0 : Slc Fr 3 (FlatR enc43) sc26_0 c26_0) (hc26_2 : Slc Fr 2 (rep127 Fr) sc26_2 c26_2) (hc26_3 : Slc Fr 2 (rep127 Fr) sc26_3 c26_3) (hc26_4 : Slc Fr 1 (FlatR enc3) sc26_4 c26_4) (hc26_5 : Slc Fr 1 (FlatR enc3) sc26_5 c26_5) (hH : Has Fr M [.obj b26 (.row 38 .whole [sc26_0, .nils, sc26_2, sc26_3, sc26_4, sc26_5]), .vec 4 1 l35.length s35 (l35.flatMap enc4), .vec 3 1 l42.length s42 (l42.flatMap enc3), tb0, tb1, tb2, tb3]), law11_RunVetoed_2 F N v1 v8 c26_0 c26_2 c26_3 c26_4 c26_5 l35 l42 = some r → Run Tryz.prog ⟨⟨6, [], none⟩, []⟩ 113 (law11_RunVetoed_post r) [(1, (.int .i64 v1)), (2, (.ptr b26 0)), (5, s35), (7, s42), (8, (.int .i64 v8))] [codeC Tryz.prog 6 [1, 1, 1, 1, 1, 1, 0, 1, 0, 0], loopC Tryz.prog 6 [1, 1, 1, 1, 1, 1, 0, 1, 0, 0], .inBlock 0, codeC Tryz.prog 6 [1, 1, 1, 1, 1, 1, 1]] M := by
 intro N
 induction N with
 | zero =>
  intro v1 v8 c26_0 c26_2 c26_3 c26_4 c26_5 l35 l42 sc26_0 sc26_2 sc26_3 sc26_4 sc26_5 b26 s35 s42 Fr M r hc26_0 hc26_2 hc26_3 hc26_4 hc26_5 hH h
  simp [law11_RunVetoed_2] at h
 | succ N ih =>
  intro v1 v8 c26_0 c26_2 c26_3 c26_4 c26_5 l35 l42 sc26_0 sc26_2 sc26_3 sc26_4 sc26_5 b26 s35 s42 Fr M r hc26_0 hc26_2 hc26_3 hc26_4 hc26_5 hH h
  rw [law11_RunVetoed_2] at h
  refine Run.seq (Run.seq (Run.region ?_))
  refine Run.opG wantS_none (ex_move rfl) rfl ?_
  refine Run.opG wantS_none (ex_move rfl) rfl ?_
  refine Run.opG wantS_none (ex_len' rfl (hH.slc (i := 1) rfl enc4_len) lenk48) rfl ?_
  refine Run.opG wantS_none (ex_lss rfl rfl) rfl ?_
  refine Run.opsEnd ?_
  rcases btf ((decide (v8 < (l35.length : Int)))) with hc44 | hc44
  ·have h := bif_t hc44 h
   refine Run.condT' rfl hc44 ?_
   refine Run.skip (Run.seq (Run.block (Run.seq (Run.region ?_))))
   refine Run.opG wantS_none (ex_move rfl) rfl ?_
   refine Run.opG wantS_none (ex_move rfl) rfl ?_
   obtain ⟨x46, hx46, h⟩ := bnd_some h
   obtain ⟨p46, o46, hb46, hx46, he46⟩ := vec_elem (P := Tryz.prog) (t := 48) (kk := .i64) hH (i := 1) rfl hx46 els48
   refine Run.opG wantS_none (ex_elX rfl rfl hx46) rfl ?_
   refine Run.opG wantS_none (ex_load1 rfl (hH.at (enc := enc4) (a := x46) (i := 1) rfl hb46 he46 enc4_len) rdLe_rfl agg4) rfl ?_
   refine Run.opsEnd ?_
   rcases btf (x46) with hc47 | hc47
   ·have h := bif_t hc47 h
    refine Run.condT' rfl hc47 ?_
    refine Run.region ?_
    refine Run.opG wantS_none (ex_move rfl) rfl ?_
    refine Run.opG wantS_none (ex_move rfl) rfl ?_
    refine Run.opX wantS_none rfl (ExG.built (enc := enc3) (l := ([v8] : List Int)) (z := 1) rfl elt24 rfl rfl rfl enc3_len hH) ?_
    rintro s49 M50 (hH50 : Has Fr M50 [.vec 3 1 ([v8] : List Int).length s49 (([v8] : List Int).flatMap enc3), .obj b26 (.row 38 .whole [sc26_0, .nils, sc26_2, sc26_3, sc26_4, sc26_5]), .vec 4 1 l35.length s35 (l35.flatMap enc4), .vec 3 1 l42.length s42 (l42.flatMap enc3), tb0, tb1, tb2, tb3])
    obtain ⟨l53, hl53, h⟩ := bnd_some h
    refine Run.opX wantS_none rfl (ExG.append rfl rfl hH50 (i := 3) rfl enc3_len rfl enc3_ones appt24_24 rfl (len_slc (hH50.slc (i := 0) rfl enc3_len)) (first_slc (hH50.slc (i := 0) rfl enc3_len) (rdLe_rdRow _) enc3_len) hl53) ?_
    rintro s53 M55 (hH55 : Has Fr M55 [.vec 3 1 ([v8] : List Int).length s49 (([v8] : List Int).flatMap enc3), .obj b26 (.row 38 .whole [sc26_0, .nils, sc26_2, sc26_3, sc26_4, sc26_5]), .vec 4 1 l35.length s35 (l35.flatMap enc4), .vec 3 1 l53.length s53 (l53.flatMap enc3), tb0, tb1, tb2, tb3])
    refine Run.opG wantS_none (ex_assign rfl) rfl ?_
    refine Run.opsEnd (Run.inBlock (Run.region ?_))
    exact Run.pick [1, 2, 5, 7, 8] (law11_RunVetoed_3_ok F (law11_RunVetoed_2 F N) ih v1 v8 c26_0 c26_2 c26_3 c26_4 c26_5 l35 l53 sc26_0 sc26_2 sc26_3 sc26_4 sc26_5 b26 s35 s53 _ _ _ hc26_0 hc26_2 hc26_3 hc26_4 hc26_5 (hH55.pick [1, 2, 3, 4, 5, 6, 7] rfl rfl) h)
   ·have h := bif_f hc47 h
    refine Run.condF' rfl hc47 ?_
    refine Run.skip (Run.inBlock (Run.region ?_))
    exact Run.pick [1, 2, 5, 7, 8] (law11_RunVetoed_3_ok F (law11_RunVetoed_2 F N) ih v1 v8 c26_0 c26_2 c26_3 c26_4 c26_5 l35 l42 sc26_0 sc26_2 sc26_3 sc26_4 sc26_5 b26 s35 s42 _ _ _ hc26_0 hc26_2 hc26_3 hc26_4 hc26_5 hH h)
  ·have h := bif_f hc44 h
   refine Run.condF' rfl hc44 ?_
   refine Run.exit rfl (Run.seq (Run.region ?_))
   refine Run.opG wantS_none (ex_assign rfl) rfl ?_
   refine Run.opsEnd (Run.seq (Run.seq (Run.region ?_)))
   refine Run.opG wantS_none (ex_assign rfl) rfl ?_
   refine Run.opsEnd (Run.block (Run.loop ?_))
   have hH57 : Has Fr M [.vec 3 1 ([] : List Int).length .nils (([] : List Int).flatMap enc3), .obj b26 (.row 38 .whole [sc26_0, .nils, sc26_2, sc26_3, sc26_4, sc26_5]), .vec 4 1 l35.length s35 (l35.flatMap enc4), .vec 3 1 l42.length s42 (l42.flatMap enc3), tb0, tb1, tb2, tb3] := hH.nils 3 1
   exact Run.pick [1, 2, 5, 7, 9, 10] (law11_RunVetoed_4_ok F F v1 (0 : Int) c26_0 c26_2 c26_3 c26_4 c26_5 l35 l42 ([] : List Int) sc26_0 sc26_2 sc26_3 sc26_4 sc26_5 b26 s35 s42 .nils _ _ _ hc26_0 hc26_2 hc26_3 hc26_4 hc26_5 (hH57.pick [1, 2, 3, 0, 4, 5, 6, 7] rfl rfl) h)

def law11_RunVetoed (F : Nat) (a0 : S_api_Plan) (a1 : Int) : Option (Bool) :=
 bnd (ref00_Mod F a1 (2 : Int)) fun r29 =>
 bnd (run_Quiet F (S_api_Plan.mk a0.Duties [] a0.Vetoes a0.Data) r29) fun r34 =>
 bif (!(r34.2 == (0 : Int))) then
  bif ((r34.1.length : Int) == (0 : Int)) then
   bnd (works F) fun r40 =>
   law11_RunVetoed_1 F r40
  else
   law11_RunVetoed_1 F false
 else
  law11_RunVetoed_2 F F r29 (0 : Int) a0.Duties a0.Vetoes.e0 a0.Vetoes.e1 a0.Data.e0 a0.Data.e1 r34.1 ([] : List Int)

theorem law11_RunVetoed_run (F : Nat) (a0 : S_api_Plan) (a1 : Int) (s0 s1 s2 s3 s4 s5 : SV) (r : Bool) (M : Mem) (hs0 : Slc (rd M) 3 (FlatR enc43) s0 a0.Duties) (hs1 : Slc (rd M) 2 (FlatR enc106) s1 a0.Work) (hs2 : Slc (rd M) 2 (rep127 (rd M)) s2 a0.Vetoes.e0) (hs3 : Slc (rd M) 2 (rep127 (rd M)) s3 a0.Vetoes.e1) (hs4 : Slc (rd M) 1 (FlatR enc3) s4 a0.Data.e0) (hs5 : Slc (rd M) 1 (FlatR enc3) s5 a0.Data.e1) (hfx : FixIn M fixes) (h : law11_RunVetoed F a0 a1 = some r) : Run Tryz.prog (fx0 6) 113 (law11_RunVetoed_post r) [(0, (.agg [s0, s1, s2, s3, s4, s5])), (1, (.int .i64 a1))] [codeC Tryz.prog 6 []] (frozen M) := by
 rw [law11_RunVetoed] at h
 replace hs0 := hs0.mono (rdLe_frozen M) (fun _ _ h => h)
 replace hs1 := hs1.mono (rdLe_frozen M) (fun _ _ h => h)
 replace hs2 := hs2.mono (rdLe_frozen M) (fun _ _ => rep127_mo (rdLe_frozen M))
 replace hs3 := hs3.mono (rdLe_frozen M) (fun _ _ => rep127_mo (rdLe_frozen M))
 replace hs4 := hs4.mono (rdLe_frozen M) (fun _ _ h => h)
 replace hs5 := hs5.mono (rdLe_frozen M) (fun _ _ h => h)
 have hH : Has (ro (frozen M)) (frozen M) [tb0, tb1, tb2, tb3] := Has.ofFix hfx.frozen
 refine Run.seq (Run.region ?_)
 refine Run.opX wantS_none rfl (ExG.box rfl rfl hH) ?_
 rintro _ M27 ⟨b26, rfl, hH27⟩
 refine Run.opG wantS_none (ex_assign rfl) rfl ?_
 refine Run.opsEnd (Run.seq (Run.region ?_))
 refine Run.opG wantS_none (ex_move rfl) rfl ?_
 obtain ⟨r29, hr29, h⟩ := bnd_some h
 refine Run.callP wantS_none (ex_call rfl mkk14 cal14) rfl (ref00_Mod_ok F a1 (2 : Int) _ _ hr29) ?_
 refine Run.opG wantS_none (ex_assign rfl) rfl ?_
 refine Run.opsEnd (Run.seq (Run.region ?_))
 refine Run.opG wantS_none (ex_fieldAddr rfl off38_1) rfl ?_
 refine Run.opX wantS_none rfl (ExG.storeC (c' := [s0, .nils, s2, s3, s4, s5]) rfl rfl rfl hH27 (i := 0) rfl sz33 rfl rfl rfl rfl rfl) ?_
 rintro _ M31 ⟨rfl, (hH31 : Has (ro (frozen M)) M31 [.obj b26 (.row 38 .whole [s0, .nils, s2, s3, s4, s5]), tb0, tb1, tb2, tb3])⟩
 refine Run.opsEnd (Run.seq (Run.region ?_))
 refine Run.opG wantS_none (ex_loadA rfl (hH31.cells (i := 0) rfl 0 rfl) rdLe_rfl agg38 rfl rfl rfl) rfl ?_
 refine Run.opG wantS_none (ex_move rfl) rfl ?_
 obtain ⟨r34, hr34, h⟩ := bnd_some h
 refine Run.callX wantS_none (ex_call rfl mkk15 cal15) rfl (run_Quiet_ok F (S_api_Plan.mk a0.Duties [] a0.Vetoes a0.Data) r29 s0 .nils s2 s3 s4 s5 _ _ (hH31.slcF hs0) slc_nil ((hs2).mono hH31.le (fun _ _ => rep127_mo hH31.le)) ((hs3).mono hH31.le (fun _ _ => rep127_mo hH31.le)) (hH31.slcF hs4) (hH31.slcF hs5) hr34) ?_
 rintro _ M36 ⟨s34_0, rfl, hN34⟩
 have hH36 : Has (ro (frozen M)) M36 [.vec 4 1 r34.1.length s34_0 (r34.1.flatMap enc4), .obj b26 (.row 38 .whole [s0, .nils, s2, s3, s4, s5]), tb0, tb1, tb2, tb3] := hN34.1 _ _ hH31
 refine Run.opG wantS_none (ex_move rfl) rfl ?_
 refine Run.opG wantS_none (ex_extract rfl rfl) rfl ?_
 refine Run.opG wantS_none (ex_extract rfl rfl) rfl ?_
 refine Run.opG wantS_none (ex_assign rfl) rfl ?_
 refine Run.opG wantS_none (ex_assign rfl) rfl ?_
 refine Run.opsEnd (Run.seq (Run.seq (Run.region ?_)))
 refine Run.opG wantS_none (ex_move rfl) rfl ?_
 refine Run.opG wantS_none (ex_neq rfl rfl) rfl ?_
 refine Run.opsEnd ?_
 rcases btf ((!(r34.2 == (0 : Int)))) with hc37 | hc37
 ·have h := bif_t hc37 h
  refine Run.condT' rfl hc37 ?_
  refine Run.seq (Run.region ?_)
  refine Run.opG wantS_none (ex_move rfl) rfl ?_
  refine Run.opG wantS_none (ex_len' rfl (hH36.slc (i := 0) rfl enc4_len) lenk48) rfl ?_
  refine Run.opG wantS_none (ex_eql rfl rfl) rfl ?_
  refine Run.opG wantS_none (ex_move rfl) rfl ?_
  rcases btf (((r34.1.length : Int) == (0 : Int))) with hc38 | hc38
  ·have h := bif_t hc38 h
   obtain ⟨r40, hr40, h⟩ := bnd_some h
   refine Run.callP (wantS_yes' rfl rfl hc38) (ex_call rfl mkk9 cal9) rfl (works_ok F r40 _ hH36 (List.mem_of_getElem? (i := 2) rfl) (List.mem_of_getElem? (i := 3) rfl) (List.mem_of_getElem? (i := 4) rfl) (List.mem_of_getElem? (i := 5) rfl) hr40) ?_
   refine Run.opG wantS_none (ex_pickT' rfl hc38 rfl rfl) rfl ?_
   exact Run.pick [32] (law11_RunVetoed_1_ok F r40 _ _ _ (hH36.pick [2, 3, 4, 5] rfl rfl) h)
  ·have h := bif_f hc38 h
   refine Run.no (wantS_not' rfl rfl hc38) rfl ?_
   refine Run.opG wantS_none (ex_pickF' rfl hc38 rfl rfl) rfl ?_
   exact Run.pick [32] (law11_RunVetoed_1_ok F false _ _ _ (hH36.pick [2, 3, 4, 5] rfl rfl) h)
 ·have h := bif_f hc37 h
  refine Run.condF' rfl hc37 ?_
  refine Run.skip (Run.seq (Run.region ?_))
  refine Run.opG wantS_none (ex_assign rfl) rfl ?_
  refine Run.opsEnd (Run.seq (Run.seq (Run.region ?_)))
  refine Run.opG wantS_none (ex_assign rfl) rfl ?_
  refine Run.opsEnd (Run.block (Run.loop ?_))
  have hH43 : Has (ro (frozen M)) M36 [.vec 3 1 ([] : List Int).length .nils (([] : List Int).flatMap enc3), .vec 4 1 r34.1.length s34_0 (r34.1.flatMap enc4), .obj b26 (.row 38 .whole [s0, .nils, s2, s3, s4, s5]), tb0, tb1, tb2, tb3] := hH36.nils 3 1
  exact Run.pick [1, 2, 5, 7, 8] (law11_RunVetoed_2_ok F F r29 (0 : Int) a0.Duties a0.Vetoes.e0 a0.Vetoes.e1 a0.Data.e0 a0.Data.e1 r34.1 ([] : List Int) s0 s2 s3 s4 s5 b26 s34_0 .nils _ _ _ hs0 hs2 hs3 hs4 hs5 (hH43.pick [2, 1, 0, 3, 4, 5, 6] rfl rfl) h)

end Go.Ev.RunVetoed
