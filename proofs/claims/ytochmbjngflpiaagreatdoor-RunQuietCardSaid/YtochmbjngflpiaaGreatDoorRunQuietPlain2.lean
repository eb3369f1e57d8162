/- Plain functions that say what functions of the program come to, and proofs of it, written by a program of the verifier's own. -/
import Derived.Test.YtochmbjngflpiaaGreatDoorSort
import Derived.Test.YtochmbjngflpiaaGreatDoorRunQuietPlain
namespace Go.Ev.RunQuiet
open Go Go.Ev Go.Proofs
set_option maxRecDepth 100000
set_option linter.unusedVariables false

abbrev glitch_held_post (r : (List S_api_Segment)) : SV → Mem → Prop := fun s Me => ∃ q1, s = q1 ∧ Has (fun _ => none) Me [.vec 106 2 r.length q1 (r.flatMap enc106)]

def glitch_held_2 (F : Nat) (hd1 : (List S_api_Segment) → Int → Int → Int → (List S_api_Segment) → Option ((List S_api_Segment))) (v10 : (List S_api_Segment)) (v11 v12 c22_0 : Int) (l52 : (List S_api_Segment)) : Option ((List S_api_Segment)) :=
  hd1 v10 v11 (w64 (v12 + (1 : Int))) c22_0 l52

theorem glitch_held_2_ok (F : Nat) (hd1 : (List S_api_Segment) → Int → Int → Int → (List S_api_Segment) → Option ((List S_api_Segment))) (hhd1 : ∀ (v10 : (List S_api_Segment)) (v11 v12 c22_0 : Int) (l24 : (List S_api_Segment)) (sv10 : SV) (b22 : Pos) (s24 : SV) (Fr : Rd) (M : Mem) (r : (List S_api_Segment)) (hv10 : Slc Fr 2 (FlatR enc106) sv10 v10) (hH : Has Fr M [.obj b22 (.row 3 .whole [(.int .i64 c22_0)]), .vec 106 2 l24.length s24 (l24.flatMap enc106)]), hd1 v10 v11 v12 c22_0 l24 = some r → Run Tryz.prog ⟨⟨101, [], none⟩, [.mk ⟨79, [], none⟩ 54 (treeOf []) [itemC Tryz.prog 79 [1, 0] 2, codeC Tryz.prog 79 [1, 1]]]⟩ 29 (glitch_held_post r) [(1, (.fn (.func 102) [] [(.ptr b22 0)])), (5, s24), (10, sv10), (11, (.int .i64 v11)), (12, (.int .i64 v12))] [codeC Tryz.prog 101 [1, 1, 0, 1, 0, 0], loopC Tryz.prog 101 [1, 1, 0, 1, 0, 0], .inBlock 0, codeC Tryz.prog 101 [1, 1, 1]] M) : ∀ (v10 : (List S_api_Segment)) (v11 v12 c22_0 : Int) (l52 : (List S_api_Segment)) (sv10 : SV) (b22 : Pos) (s52 : SV) (Fr : Rd) (M : Mem) (r : (List S_api_Segment)) (hv10 : Slc Fr 2 (FlatR enc106) sv10 v10) (hH : Has Fr M [.obj b22 (.row 3 .whole [(.int .i64 c22_0)]), .vec 106 2 l52.length s52 (l52.flatMap enc106)]), glitch_held_2 F hd1 v10 v11 v12 c22_0 l52 = some r → Run Tryz.prog ⟨⟨101, [], none⟩, [.mk ⟨79, [], none⟩ 54 (treeOf []) [itemC Tryz.prog 79 [1, 0] 2, codeC Tryz.prog 79 [1, 1]]]⟩ 29 (glitch_held_post r) [(1, (.fn (.func 102) [] [(.ptr b22 0)])), (5, s52), (10, sv10), (11, (.int .i64 v11)), (12, (.int .i64 v12))] [itemC Tryz.prog 101 [1, 1, 0, 1, 0, 0, 1, 1, 1] 0, loopC Tryz.prog 101 [1, 1, 0, 1, 0, 0], .inBlock 0, codeC Tryz.prog 101 [1, 1, 1]] M := by
  intro v10 v11 v12 c22_0 l52 sv10 b22 s52 Fr M r hv10 hH h
  rw [glitch_held_2] at h
  refine Run.opG wantS_none (ex_add rfl rfl) rfl ?_
  refine Run.opG wantS_none (ex_move rfl) rfl ?_
  refine Run.opsEnd (Run.inLoop ?_)
  exact Run.low (.cons (fle_pick [] rfl) .nil) (Run.pick [1, 5, 10, 11, 12] (hhd1 v10 v11 (w64 (v12 + (1 : Int))) c22_0 l52 sv10 b22 s52 _ _ _ hv10 hH h))

def glitch_held_5 (F : Nat) (hd3 : Int → Int → (List S_api_Segment) → (List S_api_Segment) → Option ((List S_api_Segment))) (v16 v17 : Int) (l57 l24 : (List S_api_Segment)) : Option ((List S_api_Segment)) :=
  hd3 v16 (w64 (v17 + (1 : Int))) l57 l24

theorem glitch_held_5_ok (F : Nat) (hd3 : Int → Int → (List S_api_Segment) → (List S_api_Segment) → Option ((List S_api_Segment))) (hhd3 : ∀ (v16 v17 : Int) (l57 l24 : (List S_api_Segment)) (s57 s24 : SV) (Fr : Rd) (M : Mem) (r : (List S_api_Segment)) (hH : Has Fr M [.vec 106 2 l57.length s57 (l57.flatMap enc106), .vec 106 2 l24.length s24 (l24.flatMap enc106)]), hd3 v16 v17 l57 l24 = some r → Run Tryz.prog ⟨⟨79, [], none⟩, []⟩ 54 (glitch_held_post r) [(6, s57), (15, s24), (16, (.int .i64 v16)), (17, (.int .i64 v17))] [codeC Tryz.prog 79 [1, 1, 1, 1, 0, 1, 0, 0], loopC Tryz.prog 79 [1, 1, 1, 1, 0, 1, 0, 0], .inBlock 0, codeC Tryz.prog 79 [1, 1, 1, 1, 1]] M) : ∀ (v16 v17 : Int) (l57 l24 : (List S_api_Segment)) (s57 s24 : SV) (Fr : Rd) (M : Mem) (r : (List S_api_Segment)) (hH : Has Fr M [.vec 106 2 l57.length s57 (l57.flatMap enc106), .vec 106 2 l24.length s24 (l24.flatMap enc106)]), glitch_held_5 F hd3 v16 v17 l57 l24 = some r → Run Tryz.prog ⟨⟨79, [], none⟩, []⟩ 54 (glitch_held_post r) [(6, s57), (15, s24), (16, (.int .i64 v16)), (17, (.int .i64 v17))] [itemC Tryz.prog 79 [1, 1, 1, 1, 0, 1, 0, 0, 1, 1, 1] 0, loopC Tryz.prog 79 [1, 1, 1, 1, 0, 1, 0, 0], .inBlock 0, codeC Tryz.prog 79 [1, 1, 1, 1, 1]] M := by
  intro v16 v17 l57 l24 s57 s24 Fr M r hH h
  rw [glitch_held_5] at h
  refine Run.opG wantS_none (ex_add rfl rfl) rfl ?_
  refine Run.opG wantS_none (ex_move rfl) rfl ?_
  refine Run.opsEnd (Run.inLoop ?_)
  exact Run.pick [6, 15, 16, 17] (hhd3 v16 (w64 (v17 + (1 : Int))) l57 l24 s57 s24 _ _ _ hH h)

def glitch_held_4 (F : Nat) (hd3 : Int → Int → (List S_api_Segment) → (List S_api_Segment) → Option ((List S_api_Segment))) (v9 v16 v17 : Int) (v35 : Bool) (c63 : S_api_Segment) (l57 l24 : (List S_api_Segment)) : Option ((List S_api_Segment)) :=
  bif v35 then
    bnd (idx l57 v9) fun x69 =>
    bnd (inn l57 v9) fun o70 =>
    bnd (l57[o70]?) fun x71 =>
    bnd (upd l57 o70 (S_api_Segment.mk x71.From (max x69.To c63.To))) fun l71 =>
    glitch_held_5 F hd3 v16 v17 l71 l24
  else
    bnd (apd 16 l57 ([c63] : List S_api_Segment)) fun l78 =>
    glitch_held_5 F hd3 v16 v17 l78 l24

theorem glitch_held_4_ok (F : Nat) (hd3 : Int → Int → (List S_api_Segment) → (List S_api_Segment) → Option ((List S_api_Segment))) (hhd3 : ∀ (v16 v17 : Int) (l57 l24 : (List S_api_Segment)) (s57 s24 : SV) (Fr : Rd) (M : Mem) (r : (List S_api_Segment)) (hH : Has Fr M [.vec 106 2 l57.length s57 (l57.flatMap enc106), .vec 106 2 l24.length s24 (l24.flatMap enc106)]), hd3 v16 v17 l57 l24 = some r → Run Tryz.prog ⟨⟨79, [], none⟩, []⟩ 54 (glitch_held_post r) [(6, s57), (15, s24), (16, (.int .i64 v16)), (17, (.int .i64 v17))] [codeC Tryz.prog 79 [1, 1, 1, 1, 0, 1, 0, 0], loopC Tryz.prog 79 [1, 1, 1, 1, 0, 1, 0, 0], .inBlock 0, codeC Tryz.prog 79 [1, 1, 1, 1, 1]] M) : ∀ (v9 v16 v17 : Int) (v35 : Bool) (c63 : S_api_Segment) (l57 l24 : (List S_api_Segment)) (s57 : SV) (b63 : Pos) (s24 : SV) (Fr : Rd) (M : Mem) (r : (List S_api_Segment)) (hH : Has Fr M [.vec 106 2 l57.length s57 (l57.flatMap enc106), .obj b63 (.row 106 .whole [(.int .i64 c63.From), (.int .i64 c63.To)]), .vec 106 2 l24.length s24 (l24.flatMap enc106)]), glitch_held_4 F hd3 v9 v16 v17 v35 c63 l57 l24 = some r → Run Tryz.prog ⟨⟨79, [], none⟩, []⟩ 54 (glitch_held_post r) [(6, s57), (8, (.ptr b63 0)), (9, (.int .i64 v9)), (15, s24), (16, (.int .i64 v16)), (17, (.int .i64 v17)), (35, (.bool v35))] [codeC Tryz.prog 79 [1, 1, 1, 1, 0, 1, 0, 0, 1, 1, 0, 0, 1, 1, 1], .inBlock 1, codeC Tryz.prog 79 [1, 1, 1, 1, 0, 1, 0, 0, 1, 1, 1], loopC Tryz.prog 79 [1, 1, 1, 1, 0, 1, 0, 0], .inBlock 0, codeC Tryz.prog 79 [1, 1, 1, 1, 1]] M := by
  intro v9 v16 v17 v35 c63 l57 l24 s57 b63 s24 Fr M r hH h
  rw [glitch_held_4] at h
  rcases btf (v35) with hc68 | hc68
  · have h := bif_t hc68 h
    refine Run.condT' rfl hc68 ?_
    refine Run.drawG plan79_1_1_1_1_0_1_0_0_1_1_0_0_1_1_1_0 ?_
    refine DrawG.fl rfl (ev_ex wantS_none (ex_move rfl)) rfl ?_
    refine DrawG.fl rfl (ev_ex wantS_none (ex_move rfl)) rfl ?_
    refine DrawG.fl rfl (ev_ex wantS_none (ex_move rfl)) rfl ?_
    refine DrawG.fl rfl (ev_ex wantS_none (ex_move rfl)) rfl ?_
    obtain ⟨x69, hx69, h⟩ := bnd_some h
    obtain ⟨p69, o69, hb69, hx69, he69⟩ := vec_elem (P := Tryz.prog) (t := 33) (kk := .i64) hH (i := 0) rfl hx69 els33
    refine DrawG.fl rfl (ev_ex wantS_none (ex_elX rfl rfl hx69)) rfl ?_
    refine DrawG.fl rfl (ev_ex wantS_none (ex_fieldAddr rfl off106_1)) rfl ?_
    refine DrawG.fl rfl (ev_ex wantS_none (ex_load1 rfl ((hH.at (enc := enc106) (a := x69) (i := 0) rfl hb69 he69 enc106_len).fld (o := 1) rfl) rdLe_rfl agg3)) rfl ?_
    refine DrawG.fl rfl (ev_ex wantS_none (ex_fieldAddr rfl off106_1)) rfl ?_
    refine DrawG.fl rfl (ev_ex wantS_none (ex_load1 rfl (hH.cells (i := 1) rfl 1 rfl) rdLe_rfl agg3)) rfl ?_
    refine DrawG.fl rfl (ev_ex wantS_none (ex_max rfl rfl)) rfl ?_
    obtain ⟨o70, ho70, h⟩ := bnd_some h
    obtain ⟨p70, hb70, hx70⟩ := vec_place (P := Tryz.prog) (t := 33) (kk := .i64) hH (i := 0) rfl ho70 els33
    refine DrawG.fl rfl (ev_ex wantS_none (ex_elX rfl rfl hx70)) rfl ?_
    refine DrawG.fl rfl (ev_ex wantS_none (ex_fieldAddr rfl off106_1)) rfl ?_
    obtain ⟨x71, hx71, h⟩ := bnd_some h
    obtain ⟨l71, hl71, h⟩ := bnd_some h
    refine DrawG.opX rfl wantS_none rfl (ExG.storeFld (o := 1) rfl rfl hH (i := 0) rfl hb70 hx71 hl71 sz3 rfl rfl rfl rfl enc106_len) ?_
    rintro _ M72 ⟨rfl, (hH72 : Has Fr M72 [.vec 106 2 l71.length s57 (l71.flatMap enc106), .obj b63 (.row 106 .whole [(.int .i64 c63.From), (.int .i64 c63.To)]), .vec 106 2 l24.length s24 (l24.flatMap enc106)])⟩
    refine ⟨st_nil, ?_⟩
    refine DrawG.sync ?_
    refine DrawG.nil ?_
    refine Run.inBlock (Run.region ?_)
    exact Run.pick [6, 15, 16, 17] (glitch_held_5_ok F hd3 hhd3 v16 v17 l71 l24 s57 s24 _ _ _ (hH72.pick [0, 2] rfl rfl) h)
  · have h := bif_f hc68 h
    refine Run.condF' rfl hc68 ?_
    refine Run.region ?_
    refine Run.opG wantS_none (ex_move rfl) rfl ?_
    refine Run.opG wantS_none (ex_loadA rfl (hH.cells (i := 1) rfl 0 rfl) rdLe_rfl agg106 rfl rfl rfl) rfl ?_
    refine Run.opX wantS_none rfl (ExG.built (enc := enc106) (l := ([c63] : List S_api_Segment)) (z := 2) rfl elt33 rfl rfl rfl enc106_len hH) ?_
    rintro s74 M75 (hH75 : Has Fr M75 [.vec 106 2 ([c63] : List S_api_Segment).length s74 (([c63] : List S_api_Segment).flatMap enc106), .vec 106 2 l57.length s57 (l57.flatMap enc106), .obj b63 (.row 106 .whole [(.int .i64 c63.From), (.int .i64 c63.To)]), .vec 106 2 l24.length s24 (l24.flatMap enc106)])
    obtain ⟨l78, hl78, h⟩ := bnd_some h
    refine Run.opX wantS_none rfl (ExG.append rfl rfl hH75 (i := 1) rfl enc106_len rfl enc106_ones appt33_33 rfl (len_slc (hH75.slc (i := 0) rfl enc106_len)) (first_slc (hH75.slc (i := 0) rfl enc106_len) (rdLe_rdRow _) enc106_len) hl78) ?_
    rintro s78 M80 (hH80 : Has Fr M80 [.vec 106 2 ([c63] : List S_api_Segment).length s74 (([c63] : List S_api_Segment).flatMap enc106), .vec 106 2 l78.length s78 (l78.flatMap enc106), .obj b63 (.row 106 .whole [(.int .i64 c63.From), (.int .i64 c63.To)]), .vec 106 2 l24.length s24 (l24.flatMap enc106)])
    refine Run.opG wantS_none (ex_assign rfl) rfl ?_
    refine Run.opsEnd (Run.inBlock (Run.region ?_))
    exact Run.pick [6, 15, 16, 17] (glitch_held_5_ok F hd3 hhd3 v16 v17 l78 l24 s78 s24 _ _ _ (hH80.pick [1, 3] rfl rfl) h)

def glitch_held_3 (F : Nat) : Nat → Int → Int → (List S_api_Segment) → (List S_api_Segment) → Option ((List S_api_Segment))
  | 0, _, _, _, _ => none
  | N + 1, v16, v17, l57, l24 =>
    bif (decide (v17 < v16)) then
      bnd (idx l24 v17) fun x61 =>
      bif (decide ((0 : Int) ≤ (w64 ((l57.length : Int) - (1 : Int))))) then
        bnd (idx l57 (w64 ((l57.length : Int) - (1 : Int)))) fun x67 =>
        glitch_held_4 F (glitch_held_3 F N) (w64 ((l57.length : Int) - (1 : Int))) v16 v17 (decide (x61.From ≤ x67.To)) x61 l57 l24
      else
        glitch_held_4 F (glitch_held_3 F N) (w64 ((l57.length : Int) - (1 : Int))) v16 v17 false x61 l57 l24
    else
      some l57

theorem glitch_held_3_ok (F : Nat) : ∀ (N : Nat), ∀ (v16 v17 : Int) (l57 l24 : (List S_api_Segment)) (s57 s24 : SV) (Fr : Rd) (M : Mem) (r : (List S_api_Segment)) (hH : Has Fr M [.vec 106 2 l57.length s57 (l57.flatMap enc106), .vec 106 2 l24.length s24 (l24.flatMap enc106)]), glitch_held_3 F N v16 v17 l57 l24 = some r → Run Tryz.prog ⟨⟨79, [], none⟩, []⟩ 54 (glitch_held_post r) [(6, s57), (15, s24), (16, (.int .i64 v16)), (17, (.int .i64 v17))] [codeC Tryz.prog 79 [1, 1, 1, 1, 0, 1, 0, 0], loopC Tryz.prog 79 [1, 1, 1, 1, 0, 1, 0, 0], .inBlock 0, codeC Tryz.prog 79 [1, 1, 1, 1, 1]] M := by
  intro N
  induction N with
  | zero =>
    intro v16 v17 l57 l24 s57 s24 Fr M r hH h
    simp [glitch_held_3] at h
  | succ N ih =>
    intro v16 v17 l57 l24 s57 s24 Fr M r hH h
    rw [glitch_held_3] at h
    refine Run.seq (Run.region ?_)
    refine Run.opG wantS_none (ex_lss rfl rfl) rfl ?_
    refine Run.opsEnd (Run.seq ?_)
    rcases btf ((decide (v17 < v16))) with hc59 | hc59
    · have h := bif_t hc59 h
      refine Run.condT' rfl hc59 ?_
      refine Run.skip (Run.seq (Run.block (Run.seq (Run.region ?_))))
      obtain ⟨x61, hx61, h⟩ := bnd_some h
      obtain ⟨p61, o61, hb61, hx61, he61⟩ := vec_elem (P := Tryz.prog) (t := 33) (kk := .i64) hH (i := 1) rfl hx61 els33
      refine Run.opG wantS_none (ex_elX rfl rfl hx61) rfl ?_
      refine Run.opG wantS_none (ex_loadA rfl (hH.at (enc := enc106) (a := x61) (i := 1) rfl hb61 he61 enc106_len) rdLe_rfl agg106 rfl rfl rfl) rfl ?_
      refine Run.opX wantS_none rfl (ExG.new (v := fun b => .ptr b 0) (ex_alloc zer106) hH) ?_
      rintro _ M64 ⟨b63, rfl, hH64⟩
      refine Run.opX wantS_none rfl (ExG.storeC (c' := [(.int .i64 x61.From), (.int .i64 x61.To)]) rfl rfl rfl hH64 (i := 0) rfl sz106 rfl rfl rfl rfl rfl) ?_
      rintro _ M65 ⟨rfl, (hH65 : Has Fr M65 [.obj b63 (.row 106 .whole [(.int .i64 x61.From), (.int .i64 x61.To)]), .vec 106 2 l57.length s57 (l57.flatMap enc106), .vec 106 2 l24.length s24 (l24.flatMap enc106)])⟩
      refine Run.opsEnd (Run.seq (Run.region ?_))
      refine Run.opG wantS_none (ex_move rfl) rfl ?_
      refine Run.opG wantS_none (ex_len' rfl (hH65.slc (i := 1) rfl enc106_len) lenk33) rfl ?_
      refine Run.opG wantS_none (ex_sub rfl rfl) rfl ?_
      refine Run.opG wantS_none (ex_assign rfl) rfl ?_
      refine Run.opsEnd (Run.seq ?_)
      refine Run.drawG plan79_1_1_1_1_0_1_0_0_1_1_0_0_1_1_0 ?_
      refine DrawG.fl rfl (ev_ex wantS_none (ex_move rfl)) rfl ?_
      refine DrawG.fl rfl (ev_ex wantS_none (ex_geq rfl rfl)) rfl ?_
      refine DrawG.fl rfl (ev_ex wantS_none (ex_move rfl)) rfl ?_
      rcases btf ((decide ((0 : Int) ≤ (w64 ((l57.length : Int) - (1 : Int)))))) with hc66 | hc66
      · have h := bif_t hc66 h
        refine DrawG.fl rfl (ev_ex (wantS_yes' rfl rfl hc66) (ex_fieldAddr rfl off106_0)) rfl ?_
        refine DrawG.fl rfl (ev_ex (wantS_yes' rfl rfl hc66) (ex_load1 rfl (hH65.cells (i := 0) rfl 0 rfl) rdLe_rfl agg3)) rfl ?_
        refine DrawG.fl rfl (ev_ex (wantS_yes' rfl rfl hc66) (ex_move rfl)) rfl ?_
        refine DrawG.fl rfl (ev_ex (wantS_yes' rfl rfl hc66) (ex_move rfl)) rfl ?_
        obtain ⟨x67, hx67, h⟩ := bnd_some h
        obtain ⟨p67, o67, hb67, hx67, he67⟩ := vec_elem (P := Tryz.prog) (t := 33) (kk := .i64) hH65 (i := 1) rfl hx67 els33
        refine DrawG.fl rfl (ev_ex (wantS_yes' rfl rfl hc66) (ex_elX rfl rfl hx67)) rfl ?_
        refine DrawG.fl rfl (ev_ex (wantS_yes' rfl rfl hc66) (ex_fieldAddr rfl off106_1)) rfl ?_
        refine DrawG.fl rfl (ev_ex (wantS_yes' rfl rfl hc66) (ex_load1 rfl ((hH65.at (enc := enc106) (a := x67) (i := 1) rfl hb67 he67 enc106_len).fld (o := 1) rfl) rdLe_rfl agg3)) rfl ?_
        refine DrawG.fl rfl (ev_ex (wantS_yes' rfl rfl hc66) (ex_leq rfl rfl)) rfl ?_
        refine DrawG.fl rfl (ev_ex wantS_none (ex_pickT' rfl hc66 rfl rfl)) rfl ?_
        refine DrawG.sync ?_
        refine DrawG.nil ?_
        exact Run.pick [6, 8, 9, 15, 16, 17, 35] (glitch_held_4_ok F (glitch_held_3 F N) ih (w64 ((l57.length : Int) - (1 : Int))) v16 v17 (decide (x61.From ≤ x67.To)) x61 l57 l24 s57 b63 s24 _ _ _ (hH65.pick [1, 0, 2] rfl rfl) h)
      · have h := bif_f hc66 h
        refine DrawG.fl rfl (ev_no (wantS_not' rfl rfl hc66)) rfl ?_
        refine DrawG.fl rfl (ev_no (wantS_not' rfl rfl hc66)) rfl ?_
        refine DrawG.fl rfl (ev_no (wantS_not' rfl rfl hc66)) rfl ?_
        refine DrawG.fl rfl (ev_no (wantS_not' rfl rfl hc66)) rfl ?_
        refine DrawG.fl rfl (ev_no (wantS_not' rfl rfl hc66)) rfl ?_
        refine DrawG.fl rfl (ev_no (wantS_not' rfl rfl hc66)) rfl ?_
        refine DrawG.fl rfl (ev_no (wantS_not' rfl rfl hc66)) rfl ?_
        refine DrawG.fl rfl (ev_no (wantS_not' rfl rfl hc66)) rfl ?_
        refine DrawG.fl rfl (ev_ex wantS_none (ex_pickF' rfl hc66 rfl rfl)) rfl ?_
        refine DrawG.sync ?_
        refine DrawG.nil ?_
        exact Run.pick [6, 8, 9, 15, 16, 17, 35] (glitch_held_4_ok F (glitch_held_3 F N) ih (w64 ((l57.length : Int) - (1 : Int))) v16 v17 false x61 l57 l24 s57 b63 s24 _ _ _ (hH65.pick [1, 0, 2] rfl rfl) h)
    · have h := bif_f hc59 h
      refine Run.condF' rfl hc59 ?_
      refine Run.exit rfl (Run.seq (Run.region ?_))
      refine Run.opG wantS_none (ex_move rfl) rfl ?_
      refine Run.opG wantS_none (ex_assign rfl) rfl ?_
      refine Run.opsEnd ?_
      cases h
      exact Run.ret Tryz.func79 rfl (res_tmp rfl res_nil) ⟨_, rfl, (hH.pick [0] rfl rfl).upF (none_le _)⟩

def glitch_held_1 (F : Nat) : Nat → (List S_api_Segment) → Int → Int → Int → (List S_api_Segment) → Option ((List S_api_Segment))
  | 0, _, _, _, _, _ => none
  | N + 1, v10, v11, v12, c22_0, l24 =>
    bif (decide (v12 < v11)) then
      bnd (idx v10 v12) fun x28 =>
      bif (decide (x28.From < (min x28.To c22_0))) then
        bnd (apd 16 l24 ([(S_api_Segment.mk x28.From (min x28.To c22_0))] : List S_api_Segment)) fun l51 =>
        glitch_held_2 F (glitch_held_1 F N) v10 v11 v12 c22_0 l51
      else
        glitch_held_2 F (glitch_held_1 F N) v10 v11 v12 c22_0 l24
    else
      bnd (sortP (fun a => a.From) l24) fun l55 =>
      glitch_held_3 F F (l55.length : Int) (0 : Int) ([] : List S_api_Segment) l55

theorem glitch_held_1_ok (F : Nat) : ∀ (N : Nat), ∀ (v10 : (List S_api_Segment)) (v11 v12 c22_0 : Int) (l24 : (List S_api_Segment)) (sv10 : SV) (b22 : Pos) (s24 : SV) (Fr : Rd) (M : Mem) (r : (List S_api_Segment)) (hv10 : Slc Fr 2 (FlatR enc106) sv10 v10) (hH : Has Fr M [.obj b22 (.row 3 .whole [(.int .i64 c22_0)]), .vec 106 2 l24.length s24 (l24.flatMap enc106)]), glitch_held_1 F N v10 v11 v12 c22_0 l24 = some r → Run Tryz.prog ⟨⟨101, [], none⟩, [.mk ⟨79, [], none⟩ 54 (treeOf []) [itemC Tryz.prog 79 [1, 0] 2, codeC Tryz.prog 79 [1, 1]]]⟩ 29 (glitch_held_post r) [(1, (.fn (.func 102) [] [(.ptr b22 0)])), (5, s24), (10, sv10), (11, (.int .i64 v11)), (12, (.int .i64 v12))] [codeC Tryz.prog 101 [1, 1, 0, 1, 0, 0], loopC Tryz.prog 101 [1, 1, 0, 1, 0, 0], .inBlock 0, codeC Tryz.prog 101 [1, 1, 1]] M := by
  intro N
  induction N with
  | zero =>
    intro v10 v11 v12 c22_0 l24 sv10 b22 s24 Fr M r hv10 hH h
    simp [glitch_held_1] at h
  | succ N ih =>
    intro v10 v11 v12 c22_0 l24 sv10 b22 s24 Fr M r hv10 hH h
    rw [glitch_held_1] at h
    refine Run.seq (Run.region ?_)
    refine Run.opG wantS_none (ex_lss rfl rfl) rfl ?_
    refine Run.opsEnd (Run.seq ?_)
    rcases btf ((decide (v12 < v11))) with hc26 | hc26
    · have h := bif_t hc26 h
      refine Run.condT' rfl hc26 ?_
      refine Run.skip (Run.seq (Run.block (Run.seq (Run.region ?_))))
      obtain ⟨x28, hx28, h⟩ := bnd_some h
      obtain ⟨p28, o28, _, hx28, hp28, rfl⟩ := sl_elem (P := Tryz.prog) (t := 33) (kk := .i64) hv10 hx28 els33
      refine Run.opG wantS_none (ex_elX rfl rfl hx28) rfl ?_
      refine Run.opG wantS_none (ex_loadA rfl (hH.ptrF hp28) rdLe_rfl agg106 rfl rfl rfl) rfl ?_
      refine Run.opX wantS_none rfl (ExG.new (v := fun b => .ptr b 0) (ex_alloc zer106) hH) ?_
      rintro _ M31 ⟨b30, rfl, hH31⟩
      refine Run.opX wantS_none rfl (ExG.storeC (c' := [(.int .i64 x28.From), (.int .i64 x28.To)]) rfl rfl rfl hH31 (i := 0) rfl sz106 rfl rfl rfl rfl rfl) ?_
      rintro _ M32 ⟨rfl, (hH32 : Has Fr M32 [.obj b30 (.row 106 .whole [(.int .i64 x28.From), (.int .i64 x28.To)]), .obj b22 (.row 3 .whole [(.int .i64 c22_0)]), .vec 106 2 l24.length s24 (l24.flatMap enc106)])⟩
      refine Run.opsEnd (Run.seq (Run.region ?_))
      refine Run.opG wantS_none (ex_move rfl) rfl ?_
      refine Run.opG wantS_none (ex_loadA rfl (hH32.cells (i := 0) rfl 0 rfl) rdLe_rfl agg106 rfl rfl rfl) rfl ?_
      refine Run.enter wantS_none (ex_closure rfl rfl mkk102 cal102) Tryz.func102 rfl rfl ?_
      refine Run.seq (Run.region ?_)
      refine Run.opX wantS_none rfl (ExG.box rfl rfl hH32) ?_
      rintro _ M35 ⟨b34, rfl, hH35⟩
      refine Run.opX wantS_none rfl (ExG.new (v := fun b => .ptr b 0) (ex_alloc zer106) hH35) ?_
      rintro _ M38 ⟨b37, rfl, hH38⟩
      refine Run.opG wantS_none (ex_assign rfl) rfl ?_
      refine Run.opsEnd (Run.seq (Run.region ?_))
      refine Run.opG wantS_none (ex_fieldAddr rfl off106_1) rfl ?_
      refine Run.opG wantS_none (ex_load1 rfl (hH38.cells (i := 1) rfl 1 rfl) rdLe_rfl agg3) rfl ?_
      refine Run.opG wantS_none (ex_load1 rfl (hH38.cells (i := 3) rfl 0 rfl) rdLe_rfl agg3) rfl ?_
      refine Run.opG wantS_none (ex_min rfl rfl) rfl ?_
      refine Run.opG wantS_none (ex_fieldAddr rfl off106_1) rfl ?_
      refine Run.opX wantS_none rfl (ExG.storeC (c' := [(.int .i64 x28.From), (.int .i64 (min x28.To c22_0))]) rfl rfl rfl hH38 (i := 1) rfl sz3 rfl rfl rfl rfl rfl) ?_
      rintro _ M39 ⟨rfl, (hH39 : Has Fr M39 [.obj b37 (.row 106 .whole [(.int .i64 0), (.int .i64 0)]), .obj b34 (.row 106 .whole [(.int .i64 x28.From), (.int .i64 (min x28.To c22_0))]), .obj b30 (.row 106 .whole [(.int .i64 x28.From), (.int .i64 x28.To)]), .obj b22 (.row 3 .whole [(.int .i64 c22_0)]), .vec 106 2 l24.length s24 (l24.flatMap enc106)])⟩
      refine Run.opsEnd (Run.seq ?_)
      refine Run.drawG plan102_1_1_0 ?_
      refine DrawG.fl rfl (ev_ex wantS_none (ex_loadA rfl (hH39.cells (i := 1) rfl 0 rfl) rdLe_rfl agg106 rfl rfl rfl)) rfl ?_
      refine DrawG.fl rfl (ev_ex wantS_none (ex_fieldAddr rfl off106_0)) rfl ?_
      refine DrawG.fl rfl (ev_ex wantS_none (ex_load1 rfl (hH39.cells (i := 1) rfl 0 rfl) rdLe_rfl agg3)) rfl ?_
      refine DrawG.fl rfl (ev_ex wantS_none (ex_fieldAddr rfl off106_1)) rfl ?_
      refine DrawG.fl rfl (ev_ex wantS_none (ex_load1 rfl (hH39.cells (i := 1) rfl 1 rfl) rdLe_rfl agg3)) rfl ?_
      refine DrawG.fl rfl (ev_ex wantS_none (ex_lss rfl rfl)) rfl ?_
      refine DrawG.opX rfl wantS_none rfl (ExG.storeC (c' := [(.int .i64 x28.From), (.int .i64 (min x28.To c22_0))]) rfl rfl rfl hH39 (i := 0) rfl sz106 rfl rfl rfl rfl rfl) ?_
      rintro _ M40 ⟨rfl, (hH40 : Has Fr M40 [.obj b37 (.row 106 .whole [(.int .i64 x28.From), (.int .i64 (min x28.To c22_0))]), .obj b34 (.row 106 .whole [(.int .i64 x28.From), (.int .i64 (min x28.To c22_0))]), .obj b30 (.row 106 .whole [(.int .i64 x28.From), (.int .i64 x28.To)]), .obj b22 (.row 3 .whole [(.int .i64 c22_0)]), .vec 106 2 l24.length s24 (l24.flatMap enc106)])⟩
      refine ⟨(st_cons rfl (ev_ex wantS_none (ex_lss rfl rfl)) rfl rfl rfl (st_cons rfl (ev_ex wantS_none (ex_load1 rfl (hH40.cells (i := 1) rfl 1 rfl) rdLe_rfl agg3)) rfl rfl rfl (st_cons rfl (ev_ex wantS_none (ex_fieldAddr rfl off106_1)) rfl rfl rfl (st_cons rfl (ev_ex wantS_none (ex_load1 rfl (hH40.cells (i := 1) rfl 0 rfl) rdLe_rfl agg3)) rfl rfl rfl (st_cons rfl (ev_ex wantS_none (ex_fieldAddr rfl off106_0)) rfl rfl rfl st_nil))))), ?_⟩
      refine DrawG.fl rfl (ev_ex wantS_none (ex_assign rfl)) rfl ?_
      refine DrawG.sync ?_
      refine DrawG.nil ?_
      refine Run.retTo Tryz.func102 rfl (res_cell rfl (x_load (ex_loadA rfl (hH40.cells (i := 0) rfl 0 rfl) rdLe_rfl agg106 rfl rfl rfl)) (res_tmp rfl res_nil)) rfl ?_
      refine Run.opG wantS_none (ex_move rfl) rfl ?_
      refine Run.opG wantS_none (ex_extract rfl rfl) rfl ?_
      refine Run.opG wantS_none (ex_extract rfl rfl) rfl ?_
      refine Run.opX wantS_none rfl (ExG.new (v := fun b => .ptr b 0) (ex_alloc zer106) hH40) ?_
      rintro _ M43 ⟨b42, rfl, hH43⟩
      refine Run.opX wantS_none rfl (ExG.storeC (c' := [(.int .i64 x28.From), (.int .i64 (min x28.To c22_0))]) rfl rfl rfl hH43 (i := 0) rfl sz106 rfl rfl rfl rfl rfl) ?_
      rintro _ M44 ⟨rfl, (hH44 : Has Fr M44 [.obj b42 (.row 106 .whole [(.int .i64 x28.From), (.int .i64 (min x28.To c22_0))]), .obj b37 (.row 106 .whole [(.int .i64 x28.From), (.int .i64 (min x28.To c22_0))]), .obj b34 (.row 106 .whole [(.int .i64 x28.From), (.int .i64 (min x28.To c22_0))]), .obj b30 (.row 106 .whole [(.int .i64 x28.From), (.int .i64 x28.To)]), .obj b22 (.row 3 .whole [(.int .i64 c22_0)]), .vec 106 2 l24.length s24 (l24.flatMap enc106)])⟩
      refine Run.opG wantS_none (ex_assign rfl) rfl ?_
      refine Run.opsEnd (Run.seq (Run.region ?_))
      refine Run.opG wantS_none (ex_move rfl) rfl ?_
      refine Run.opsEnd ?_
      rcases btf ((decide (x28.From < (min x28.To c22_0)))) with hc45 | hc45
      · have h := bif_t hc45 h
        refine Run.condT' rfl hc45 ?_
        refine Run.region ?_
        refine Run.opG wantS_none (ex_move rfl) rfl ?_
        refine Run.opG wantS_none (ex_loadA rfl (hH44.cells (i := 0) rfl 0 rfl) rdLe_rfl agg106 rfl rfl rfl) rfl ?_
        refine Run.opX wantS_none rfl (ExG.built (enc := enc106) (l := ([(S_api_Segment.mk x28.From (min x28.To c22_0))] : List S_api_Segment)) (z := 2) rfl elt33 rfl rfl rfl enc106_len hH44) ?_
        rintro s47 M48 (hH48 : Has Fr M48 [.vec 106 2 ([(S_api_Segment.mk x28.From (min x28.To c22_0))] : List S_api_Segment).length s47 (([(S_api_Segment.mk x28.From (min x28.To c22_0))] : List S_api_Segment).flatMap enc106), .obj b42 (.row 106 .whole [(.int .i64 x28.From), (.int .i64 (min x28.To c22_0))]), .obj b37 (.row 106 .whole [(.int .i64 x28.From), (.int .i64 (min x28.To c22_0))]), .obj b34 (.row 106 .whole [(.int .i64 x28.From), (.int .i64 (min x28.To c22_0))]), .obj b30 (.row 106 .whole [(.int .i64 x28.From), (.int .i64 x28.To)]), .obj b22 (.row 3 .whole [(.int .i64 c22_0)]), .vec 106 2 l24.length s24 (l24.flatMap enc106)])
        obtain ⟨l51, hl51, h⟩ := bnd_some h
        refine Run.opX wantS_none rfl (ExG.append rfl rfl hH48 (i := 6) rfl enc106_len rfl enc106_ones appt33_33 rfl (len_slc (hH48.slc (i := 0) rfl enc106_len)) (first_slc (hH48.slc (i := 0) rfl enc106_len) (rdLe_rdRow _) enc106_len) hl51) ?_
        rintro s51 M53 (hH53 : Has Fr M53 [.vec 106 2 ([(S_api_Segment.mk x28.From (min x28.To c22_0))] : List S_api_Segment).length s47 (([(S_api_Segment.mk x28.From (min x28.To c22_0))] : List S_api_Segment).flatMap enc106), .obj b42 (.row 106 .whole [(.int .i64 x28.From), (.int .i64 (min x28.To c22_0))]), .obj b37 (.row 106 .whole [(.int .i64 x28.From), (.int .i64 (min x28.To c22_0))]), .obj b34 (.row 106 .whole [(.int .i64 x28.From), (.int .i64 (min x28.To c22_0))]), .obj b30 (.row 106 .whole [(.int .i64 x28.From), (.int .i64 x28.To)]), .obj b22 (.row 3 .whole [(.int .i64 c22_0)]), .vec 106 2 l51.length s51 (l51.flatMap enc106)])
        refine Run.opG wantS_none (ex_assign rfl) rfl ?_
        refine Run.opsEnd (Run.inBlock (Run.region ?_))
        exact Run.low (.cons (fle_pick [] rfl) .nil) (Run.pick [1, 5, 10, 11, 12] (glitch_held_2_ok F (glitch_held_1 F N) ih v10 v11 v12 c22_0 l51 sv10 b22 s51 _ _ _ hv10 (hH53.pick [5, 6] rfl rfl) h))
      · have h := bif_f hc45 h
        refine Run.condF' rfl hc45 ?_
        refine Run.skip (Run.inBlock (Run.region ?_))
        exact Run.low (.cons (fle_pick [] rfl) .nil) (Run.pick [1, 5, 10, 11, 12] (glitch_held_2_ok F (glitch_held_1 F N) ih v10 v11 v12 c22_0 l24 sv10 b22 s24 _ _ _ hv10 (hH44.pick [4, 5] rfl rfl) h))
    · have h := bif_f hc26 h
      refine Run.condF' rfl hc26 ?_
      refine Run.exit rfl (Run.seq (Run.region ?_))
      refine Run.opG wantS_none (ex_move rfl) rfl ?_
      refine Run.opG wantS_none (ex_assign rfl) rfl ?_
      refine Run.opsEnd ?_
      refine Run.retTo Tryz.func101 rfl (res_tmp rfl res_nil) rfl ?_
      refine Run.opG wantS_none (ex_assign rfl) rfl ?_
      refine Run.opsEnd (Run.seq (Run.region ?_))
      refine Run.opG wantS_none (ex_move rfl) rfl ?_
      obtain ⟨l55, hl55, h⟩ := bnd_some h
      refine Run.callX wantS_none (ex_call rfl mkk103 cal103) rfl ((sort103 enc106 (fun a => a.From) (fun a => a.To) (fun _ => rfl)).callsP hH (i := 1) rfl hl55) ?_
      rintro _ M56 ⟨rfl, (hH56 : Has Fr M56 [.obj b22 (.row 3 .whole [(.int .i64 c22_0)]), .vec 106 2 l55.length s24 (l55.flatMap enc106)])⟩
      refine Run.opsEnd (Run.seq (Run.region ?_))
      refine Run.opG wantS_none (ex_assign rfl) rfl ?_
      refine Run.opsEnd (Run.seq (Run.seq (Run.region ?_)))
      refine Run.opG wantS_none (ex_move rfl) rfl ?_
      refine Run.opG wantS_none (ex_len' rfl (hH56.slc (i := 1) rfl enc106_len) lenk33) rfl ?_
      refine Run.opG wantS_none (ex_move rfl) rfl ?_
      refine Run.opsEnd (Run.block (Run.loop ?_))
      have hH58 : Has Fr M56 [.vec 106 2 ([] : List S_api_Segment).length .nils (([] : List S_api_Segment).flatMap enc106), .obj b22 (.row 3 .whole [(.int .i64 c22_0)]), .vec 106 2 l55.length s24 (l55.flatMap enc106)] := hH56.nils 106 2
      exact Run.pick [6, 15, 16, 17] (glitch_held_3_ok F F (l55.length : Int) (0 : Int) ([] : List S_api_Segment) l55 .nils s24 _ _ _ (hH58.pick [0, 2] rfl rfl) h)

def glitch_held (F : Nat) (a0 : (List S_api_Segment)) (a1 : Int) : Option ((List S_api_Segment)) :=
  glitch_held_1 F F a0 (a0.length : Int) (0 : Int) a1 ([] : List S_api_Segment)

theorem glitch_held_ok (F : Nat) (a0 : (List S_api_Segment)) (a1 : Int) (s0 : SV) (r : (List S_api_Segment)) (M : Mem) (hs0 : Slc (rd M) 2 (FlatR enc106) s0 a0) (h : glitch_held F a0 a1 = some r) : CallsM Tryz.prog 79 [s0, (.int .i64 a1)] M (fun s M' => ∃ q1, s = q1 ∧ New M M' [.vec 106 2 r.length q1 (r.flatMap enc106)]) := by
  refine CallsM.fresh (Q := glitch_held_post r) Tryz.func79 rfl rfl ?_ (by rintro s Me ⟨q1, rfl, hx⟩ ha hw; exact ⟨_, rfl, New.of rfl hx ha hw⟩)
  rw [glitch_held] at h
  replace hs0 := hs0.mono (rdLe_frozen M) (fun _ _ h => h)
  have hH := Has.nil (frozen M)
  refine Run.seq (Run.region ?_)
  refine Run.opX wantS_none rfl (ExG.box rfl rfl hH) ?_
  rintro _ M23 ⟨b22, rfl, hH23⟩
  refine Run.opG wantS_none (ex_assign rfl) rfl ?_
  refine Run.opsEnd (Run.seq (Run.region ?_))
  refine Run.opG wantS_none (ex_move rfl) rfl ?_
  refine Run.opG wantS_none (ex_makeFunc rfl rfl) rfl ?_
  refine Run.enter wantS_none (ex_call rfl mkk101 cal101) Tryz.func101 rfl rfl ?_
  refine Run.seq (Run.region ?_)
  refine Run.opG wantS_none (ex_assign rfl) rfl ?_
  refine Run.opsEnd (Run.seq (Run.region ?_))
  refine Run.opG wantS_none (ex_assign rfl) rfl ?_
  refine Run.opsEnd (Run.seq (Run.seq (Run.region ?_)))
  refine Run.opG wantS_none (ex_move rfl) rfl ?_
  refine Run.opG wantS_none (ex_len' rfl hs0 lenk33) rfl ?_
  refine Run.opG wantS_none (ex_move rfl) rfl ?_
  refine Run.opsEnd (Run.block (Run.loop ?_))
  have hH25 : Has (ro (frozen M)) M23 [.vec 106 2 ([] : List S_api_Segment).length .nils (([] : List S_api_Segment).flatMap enc106), .obj b22 (.row 3 .whole [(.int .i64 a1)])] := hH23.nils 106 2
  exact Run.low (.cons (fle_pick [] rfl) .nil) (Run.pick [1, 5, 10, 11, 12] (glitch_held_1_ok F F a0 (a0.length : Int) (0 : Int) a1 ([] : List S_api_Segment) s0 b22 .nils _ _ _ hs0 (hH25.pick [1, 0] rfl rfl) h))

theorem mkk79 : makeK Tryz.prog 79 = none := by kernel_rfl
theorem cal79 : callable Tryz.prog 79 = true := by kernel_rfl
abbrev glitch_Held_post (r : (List S_api_Segment) × Int) : SV → Mem → Prop := fun s Me => ∃ q1, s = (.tuple [q1, (.int .i64 r.2)]) ∧ Has (fun _ => none) Me [.vec 106 2 r.1.length q1 (r.1.flatMap enc106)]

def glitch_Held (F : Nat) (a0 : S_api_Veto) (a1 : Int) : Option ((List S_api_Segment) × Int) :=
  bnd (glitch_checkSpan F ([a0] : List S_api_Veto) a1) fun r28 =>
  bif (!(r28 == (0 : Int))) then
    some (([] : List S_api_Segment), r28)
  else
    bnd (glitch_held F a0.Segments a1) fun r35 =>
    some (r35, (0 : Int))

theorem glitch_Held_ok (F : Nat) (a0 : S_api_Veto) (a1 : Int) (s0 : SV) (r : (List S_api_Segment) × Int) (M : Mem) (hs0 : Slc (rd M) 2 (FlatR enc106) s0 a0.Segments) (h : glitch_Held F a0 a1 = some r) : CallsM Tryz.prog 68 [(.agg [(.str a0.Name), s0]), (.int .i64 a1)] M (fun s M' => ∃ q1, s = (.tuple [q1, (.int .i64 r.2)]) ∧ New M M' [.vec 106 2 r.1.length q1 (r.1.flatMap enc106)]) := by
  refine CallsM.fresh (Q := glitch_Held_post r) Tryz.func68 rfl rfl ?_ (by rintro s Me ⟨q1, rfl, hx⟩ ha hw; exact ⟨_, rfl, New.of rfl hx ha hw⟩)
  rw [glitch_Held] at h
  replace hs0 := hs0.mono (rdLe_frozen M) (fun _ _ h => h)
  have hH := Has.nil (frozen M)
  refine Run.seq (Run.region ?_)
  refine Run.opX wantS_none rfl (ExG.box rfl rfl hH) ?_
  rintro _ M23 ⟨b22, rfl, hH23⟩
  refine Run.opG wantS_none (ex_assign rfl) rfl ?_
  refine Run.opG wantS_none (ex_assign rfl) rfl ?_
  refine Run.opsEnd (Run.seq (Run.seq (Run.region ?_)))
  refine Run.opG wantS_none (ex_loadA rfl (hH23.cells (i := 0) rfl 0 rfl) rdLe_rfl agg127 rfl rfl rfl) rfl ?_
  have hr25 : Rows (rep127 (ro (frozen M))) 2 [(.str a0.Name), s0] ([a0] : List S_api_Veto) := (Rows.cons (cs := [(.str a0.Name), s0]) rfl ⟨s0, rfl, hs0⟩ Rows.nil)
  refine Run.opX wantS_none rfl (ExG.builtR (z := 2) (c := [(.str a0.Name), s0]) rfl elt34 rfl rfl rfl hH23) ?_
  rintro s25 M26 (hH26 : Has (ro (frozen M)) M26 [.vec 127 2 ([a0] : List S_api_Veto).length s25 [(.str a0.Name), s0], .obj b22 (.row 127 .whole [(.str a0.Name), s0])])
  refine Run.opG wantS_none (ex_move rfl) rfl ?_
  obtain ⟨r28, hr28, h⟩ := bnd_some h
  refine Run.callP wantS_none (ex_call rfl mkk46 cal46) rfl (glitch_checkSpan_ok F ([a0] : List S_api_Veto) a1 s25 _ _ (((hH26.slcR (i := 0) rfl hr25)).mono (fun _ _ h => h) (fun _ _ => rep127_mo hH26.le)) hr28) ?_
  refine Run.opG wantS_none (ex_assign rfl) rfl ?_
  refine Run.opsEnd (Run.seq (Run.region ?_))
  refine Run.opG wantS_none (ex_move rfl) rfl ?_
  refine Run.opG wantS_none (ex_neq rfl rfl) rfl ?_
  refine Run.opsEnd ?_
  rcases btf ((!(r28 == (0 : Int)))) with hc30 | hc30
  · have h := bif_t hc30 h
    refine Run.condT' rfl hc30 ?_
    refine Run.seq (Run.region ?_)
    refine Run.opG wantS_none (ex_move rfl) rfl ?_
    refine Run.opG wantS_none (ex_assign rfl) rfl ?_
    refine Run.opG wantS_none (ex_assign rfl) rfl ?_
    refine Run.opsEnd ?_
    have hH32 : Has (ro (frozen M)) M26 [.vec 106 2 ([] : List S_api_Segment).length .nils (([] : List S_api_Segment).flatMap enc106), .vec 127 2 ([a0] : List S_api_Veto).length s25 [(.str a0.Name), s0], .obj b22 (.row 127 .whole [(.str a0.Name), s0])] := hH26.nils 106 2
    cases h
    exact Run.ret Tryz.func68 rfl (res_tmp rfl (res_tmp rfl res_nil)) ⟨_, rfl, (hH32.pick [0] rfl rfl).upF (none_le _)⟩
  · have h := bif_f hc30 h
    refine Run.condF' rfl hc30 ?_
    refine Run.skip (Run.seq (Run.region ?_))
    refine Run.opG wantS_none (ex_fieldAddr rfl off127_1) rfl ?_
    refine Run.opG wantS_none (ex_load1 rfl (hH26.cells (i := 1) rfl 1 rfl) rdLe_rfl agg33) rfl ?_
    refine Run.opG wantS_none (ex_move rfl) rfl ?_
    obtain ⟨r35, hr35, h⟩ := bnd_some h
    refine Run.callX wantS_none (ex_call rfl mkk79 cal79) rfl (glitch_held_ok F a0.Segments a1 s0 _ _ (hH26.slcF hs0) hr35) ?_
    rintro s35_0 M37 ⟨_, rfl, hN35⟩
    have hH37 : Has (ro (frozen M)) M37 [.vec 106 2 r35.length s35_0 (r35.flatMap enc106), .vec 127 2 ([a0] : List S_api_Veto).length s25 [(.str a0.Name), s0], .obj b22 (.row 127 .whole [(.str a0.Name), s0])] := hN35.1 _ _ hH26
    refine Run.opG wantS_none (ex_assign rfl) rfl ?_
    refine Run.opG wantS_none (ex_assign rfl) rfl ?_
    refine Run.opsEnd ?_
    cases h
    exact Run.ret Tryz.func68 rfl (res_tmp rfl (res_tmp rfl res_nil)) ⟨_, rfl, (hH37.pick [0] rfl rfl).upF (none_le _)⟩

theorem mkk68 : makeK Tryz.prog 68 = none := by kernel_rfl
theorem cal68 : callable Tryz.prog 68 = true := by kernel_rfl
theorem plan40_1_1_1_1_0_1_0_0_1_1_0_0_1_0 : planOf Tryz.prog (opsC (atC Tryz.prog 40 [1, 1, 1, 1, 0, 1, 0, 0, 1, 1, 0, 0, 1, 0])) = some [.fl 0, .fl 1, .an 2 [0], .an 3 [], .fl 4, .fl 5, .fl 6, .fl 7, .fl 8, .sync] := by kernel_rfl
abbrev run_plan_quiet_post (r : (List Bool)) : SV → Mem → Prop := fun s Me => ∃ q1, s = q1 ∧ Has (fun _ => none) Me [.vec 4 1 r.length q1 (r.flatMap enc4)]

def run_plan_quiet_4 (F : Nat) (hd3 : (List S_api_Veto) → Int → Int → (List S_api_Duty) → (List S_api_Segment) → (List S_api_Veto) → (List S_api_Veto) → (List Int) → (List Int) → (List Bool) → Option ((List Bool))) : Nat → Int → Int → (List S_api_Veto) → Int → Int → (List S_api_Duty) → (List S_api_Segment) → (List S_api_Veto) → (List S_api_Veto) → (List Int) → (List Int) → (List Bool) → (List S_api_Segment) → Option ((List Bool))
  | 0, _, _, _, _, _, _, _, _, _, _, _, _, _ => none
  | N + 1, v6, v7, v23_f1, v24_f1, v25_f1, c22_0, c22_1, c22_2, c22_3, c22_4, c22_5, l33, l66 =>
    bif (decide (v7 < v6)) then
      bnd (idx l66 v7) fun x70 =>
      bnd (subP l33.length x70.From x70.To) fun l76 =>
      bnd (clrP l33 (0 + l76.1) l76.2 false) fun l78 =>
      (run_plan_quiet_4 F hd3 N) v6 (w64 (v7 + (1 : Int))) v23_f1 v24_f1 v25_f1 c22_0 c22_1 c22_2 c22_3 c22_4 c22_5 l78 l66
    else
      hd3 v23_f1 v24_f1 (w64 (v25_f1 + (1 : Int))) c22_0 c22_1 c22_2 c22_3 c22_4 c22_5 l33

theorem run_plan_quiet_4_ok (F : Nat) (hd3 : (List S_api_Veto) → Int → Int → (List S_api_Duty) → (List S_api_Segment) → (List S_api_Veto) → (List S_api_Veto) → (List Int) → (List Int) → (List Bool) → Option ((List Bool))) (hhd3 : ∀ (v23 : (List S_api_Veto)) (v24 v25 : Int) (c22_0 : (List S_api_Duty)) (c22_1 : (List S_api_Segment)) (c22_2 c22_3 : (List S_api_Veto)) (c22_4 c22_5 : (List Int)) (l33 : (List Bool)) (sv23 sc22_0 sc22_1 sc22_2 sc22_3 sc22_4 sc22_5 : SV) (b22 b36 : Pos) (s33 : SV) (Fr : Rd) (M : Mem) (r : (List Bool)) (hv23 : Slc Fr 2 (rep127 Fr) sv23 v23) (hc22_0 : Slc Fr 3 (FlatR enc43) sc22_0 c22_0) (hc22_1 : Slc Fr 2 (FlatR enc106) sc22_1 c22_1) (hc22_2 : Slc Fr 2 (rep127 Fr) sc22_2 c22_2) (hc22_3 : Slc Fr 2 (rep127 Fr) sc22_3 c22_3) (hc22_4 : Slc Fr 1 (FlatR enc3) sc22_4 c22_4) (hc22_5 : Slc Fr 1 (FlatR enc3) sc22_5 c22_5) (hH : Has Fr M [.obj b22 (.row 85 .whole [sc22_0, sc22_1, sc22_2, sc22_3, sc22_4, sc22_5]), .obj b36 (.row 48 .whole [s33]), .vec 4 1 l33.length s33 (l33.flatMap enc4)]), hd3 v23 v24 v25 c22_0 c22_1 c22_2 c22_3 c22_4 c22_5 l33 = some r → Run Tryz.prog ⟨⟨40, [], none⟩, []⟩ 41 (run_plan_quiet_post r) [(2, (.ptr b22 0)), (5, (.ptr b36 0)), (6, (.fn (.func 67) [] [(.ptr b36 0)])), (23, sv23), (24, (.int .i64 v24)), (25, (.int .i64 v25))] [codeC Tryz.prog 40 [1, 1, 1, 1, 0, 1, 0, 0], loopC Tryz.prog 40 [1, 1, 1, 1, 0, 1, 0, 0], .inBlock 0, codeC Tryz.prog 40 [1, 1, 1, 1, 1]] M) : ∀ (N : Nat), ∀ (v6 v7 : Int) (v23_f1 : (List S_api_Veto)) (v24_f1 v25_f1 : Int) (c22_0 : (List S_api_Duty)) (c22_1 : (List S_api_Segment)) (c22_2 c22_3 : (List S_api_Veto)) (c22_4 c22_5 : (List Int)) (l33 : (List Bool)) (l66 : (List S_api_Segment)) (sv23_f1 sc22_0 sc22_1 sc22_2 sc22_3 sc22_4 sc22_5 : SV) (b36 : Pos) (s33 s66 : SV) (b22 : Pos) (Fr : Rd) (M : Mem) (r : (List Bool)) (hv23_f1 : Slc Fr 2 (rep127 Fr) sv23_f1 v23_f1) (hc22_0 : Slc Fr 3 (FlatR enc43) sc22_0 c22_0) (hc22_1 : Slc Fr 2 (FlatR enc106) sc22_1 c22_1) (hc22_2 : Slc Fr 2 (rep127 Fr) sc22_2 c22_2) (hc22_3 : Slc Fr 2 (rep127 Fr) sc22_3 c22_3) (hc22_4 : Slc Fr 1 (FlatR enc3) sc22_4 c22_4) (hc22_5 : Slc Fr 1 (FlatR enc3) sc22_5 c22_5) (hH : Has Fr M [.obj b36 (.row 48 .whole [s33]), .vec 4 1 l33.length s33 (l33.flatMap enc4), .vec 106 2 l66.length s66 (l66.flatMap enc106), .obj b22 (.row 85 .whole [sc22_0, sc22_1, sc22_2, sc22_3, sc22_4, sc22_5])]), run_plan_quiet_4 F hd3 N v6 v7 v23_f1 v24_f1 v25_f1 c22_0 c22_1 c22_2 c22_3 c22_4 c22_5 l33 l66 = some r → Run Tryz.prog ⟨⟨67, [], none⟩, [.mk ⟨40, [], none⟩ 41 (treeOf [(2, (.ptr b22 0)), (5, (.ptr b36 0)), (6, (.fn (.func 67) [] [(.ptr b36 0)])), (23, sv23_f1), (24, (.int .i64 v24_f1)), (25, (.int .i64 v25_f1))]) [itemC Tryz.prog 40 [1, 1, 1, 1, 0, 1, 0, 0, 1, 1, 0, 0, 1, 1] 2, .inBlock 1, codeC Tryz.prog 40 [1, 1, 1, 1, 0, 1, 0, 0, 1, 1, 1], loopC Tryz.prog 40 [1, 1, 1, 1, 0, 1, 0, 0], .inBlock 0, codeC Tryz.prog 40 [1, 1, 1, 1, 1]]]⟩ 18 (run_plan_quiet_post r) [(1, (.ptr b36 0)), (5, s66), (6, (.int .i64 v6)), (7, (.int .i64 v7))] [codeC Tryz.prog 67 [1, 0, 0], loopC Tryz.prog 67 [1, 0, 0], .inBlock 0] M := by
  intro N
  induction N with
  | zero =>
    intro v6 v7 v23_f1 v24_f1 v25_f1 c22_0 c22_1 c22_2 c22_3 c22_4 c22_5 l33 l66 sv23_f1 sc22_0 sc22_1 sc22_2 sc22_3 sc22_4 sc22_5 b36 s33 s66 b22 Fr M r hv23_f1 hc22_0 hc22_1 hc22_2 hc22_3 hc22_4 hc22_5 hH h
    simp [run_plan_quiet_4] at h
  | succ N ih =>
    intro v6 v7 v23_f1 v24_f1 v25_f1 c22_0 c22_1 c22_2 c22_3 c22_4 c22_5 l33 l66 sv23_f1 sc22_0 sc22_1 sc22_2 sc22_3 sc22_4 sc22_5 b36 s33 s66 b22 Fr M r hv23_f1 hc22_0 hc22_1 hc22_2 hc22_3 hc22_4 hc22_5 hH h
    rw [run_plan_quiet_4] at h
    refine Run.seq (Run.region ?_)
    refine Run.opG wantS_none (ex_lss rfl rfl) rfl ?_
    refine Run.opsEnd (Run.seq ?_)
    rcases btf ((decide (v7 < v6))) with hc68 | hc68
    · have h := bif_t hc68 h
      refine Run.condT' rfl hc68 ?_
      refine Run.skip (Run.seq (Run.block (Run.seq (Run.region ?_))))
      obtain ⟨x70, hx70, h⟩ := bnd_some h
      obtain ⟨p70, o70, hb70, hx70, he70⟩ := vec_elem (P := Tryz.prog) (t := 33) (kk := .i64) hH (i := 2) rfl hx70 els33
      refine Run.opG wantS_none (ex_elX rfl rfl hx70) rfl ?_
      refine Run.opG wantS_none (ex_loadA rfl (hH.at (enc := enc106) (a := x70) (i := 2) rfl hb70 he70 enc106_len) rdLe_rfl agg106 rfl rfl rfl) rfl ?_
      refine Run.opX wantS_none rfl (ExG.new (v := fun b => .ptr b 0) (ex_alloc zer106) hH) ?_
      rintro _ M73 ⟨b72, rfl, hH73⟩
      refine Run.opX wantS_none rfl (ExG.storeC (c' := [(.int .i64 x70.From), (.int .i64 x70.To)]) rfl rfl rfl hH73 (i := 0) rfl sz106 rfl rfl rfl rfl rfl) ?_
      rintro _ M74 ⟨rfl, (hH74 : Has Fr M74 [.obj b72 (.row 106 .whole [(.int .i64 x70.From), (.int .i64 x70.To)]), .obj b36 (.row 48 .whole [s33]), .vec 4 1 l33.length s33 (l33.flatMap enc4), .vec 106 2 l66.length s66 (l66.flatMap enc106), .obj b22 (.row 85 .whole [sc22_0, sc22_1, sc22_2, sc22_3, sc22_4, sc22_5])])⟩
      refine Run.opsEnd (Run.region ?_)
      refine Run.opG wantS_none (ex_load1 rfl (hH74.cells (i := 1) rfl 0 rfl) rdLe_rfl agg48) rfl ?_
      refine Run.opG wantS_none (ex_fieldAddr rfl off106_0) rfl ?_
      refine Run.opG wantS_none (ex_load1 rfl (hH74.cells (i := 0) rfl 0 rfl) rdLe_rfl agg3) rfl ?_
      refine Run.opG wantS_none (ex_fieldAddr rfl off106_1) rfl ?_
      refine Run.opG wantS_none (ex_load1 rfl (hH74.cells (i := 0) rfl 1 rfl) rdLe_rfl agg3) rfl ?_
      obtain ⟨l76, hl76, h⟩ := bnd_some h
      have hq76 := part_all hH74 (i := 2) rfl
      obtain ⟨s76, hx76, hp76⟩ := part_cutB (P := Tryz.prog) (t := 48) (k0 := .i64) (k1 := .i64) hq76 hl76 slk48
      refine Run.opG wantS_none (ex_slX rfl (argO_some rfl) (argO_some rfl) hx76) rfl ?_
      obtain ⟨l78, hl78, h⟩ := bnd_some h
      refine Run.opX wantS_none rfl (ExG.clearP rfl hH74 (i := 2) rfl hp76 hl78 elt48 rfl enc4_len enc4_ones) ?_
      rintro _ M79 ⟨rfl, (hH79 : Has Fr M79 [.obj b72 (.row 106 .whole [(.int .i64 x70.From), (.int .i64 x70.To)]), .obj b36 (.row 48 .whole [s33]), .vec 4 1 l78.length s33 (l78.flatMap enc4), .vec 106 2 l66.length s66 (l66.flatMap enc106), .obj b22 (.row 85 .whole [sc22_0, sc22_1, sc22_2, sc22_3, sc22_4, sc22_5])])⟩
      refine Run.opsEnd (Run.inBlock (Run.region ?_))
      refine Run.opG wantS_none (ex_add rfl rfl) rfl ?_
      refine Run.opG wantS_none (ex_move rfl) rfl ?_
      refine Run.opsEnd (Run.inLoop ?_)
      exact Run.low (.cons (fle_pick [2, 5, 6, 23, 24, 25] rfl) .nil) (Run.pick [1, 5, 6, 7] (ih v6 (w64 (v7 + (1 : Int))) v23_f1 v24_f1 v25_f1 c22_0 c22_1 c22_2 c22_3 c22_4 c22_5 l78 l66 sv23_f1 sc22_0 sc22_1 sc22_2 sc22_3 sc22_4 sc22_5 b36 s33 s66 b22 _ _ _ hv23_f1 hc22_0 hc22_1 hc22_2 hc22_3 hc22_4 hc22_5 (hH79.pick [1, 2, 3, 4] rfl rfl) h))
    · have h := bif_f hc68 h
      refine Run.condF' rfl hc68 ?_
      refine Run.exit rfl ?_
      refine Run.fallTo Tryz.func67 rfl res_nil rfl ?_
      refine Run.opsEnd (Run.inBlock (Run.region ?_))
      refine Run.opG wantS_none (ex_add rfl rfl) rfl ?_
      refine Run.opG wantS_none (ex_move rfl) rfl ?_
      refine Run.opsEnd (Run.inLoop ?_)
      exact Run.pick [2, 5, 6, 23, 24, 25] (hhd3 v23_f1 v24_f1 (w64 (v25_f1 + (1 : Int))) c22_0 c22_1 c22_2 c22_3 c22_4 c22_5 l33 sv23_f1 sc22_0 sc22_1 sc22_2 sc22_3 sc22_4 sc22_5 b22 b36 s33 _ _ _ hv23_f1 hc22_0 hc22_1 hc22_2 hc22_3 hc22_4 hc22_5 (hH.pick [3, 0, 1] rfl rfl) h)

def run_plan_quiet_3 (F : Nat) : Nat → (List S_api_Veto) → Int → Int → (List S_api_Duty) → (List S_api_Segment) → (List S_api_Veto) → (List S_api_Veto) → (List Int) → (List Int) → (List Bool) → Option ((List Bool))
  | 0, _, _, _, _, _, _, _, _, _, _ => none
  | N + 1, v23, v24, v25, c22_0, c22_1, c22_2, c22_3, c22_4, c22_5, l33 =>
    bif (decide (v25 < v24)) then
      bnd (idx v23 v25) fun x58 =>
      bnd (run_plan_span F (S_run_plan.mk c22_0 c22_1 (S__2_api_Veto.mk c22_2 c22_3) (S__2_int.mk c22_4 c22_5))) fun r63 =>
      bnd (glitch_Held F x58 r63) fun r65 =>
      run_plan_quiet_4 F (run_plan_quiet_3 F N) F (r65.1.length : Int) (0 : Int) v23 v24 v25 c22_0 c22_1 c22_2 c22_3 c22_4 c22_5 l33 r65.1
    else
      some l33

theorem run_plan_quiet_3_ok (F : Nat) : ∀ (N : Nat), ∀ (v23 : (List S_api_Veto)) (v24 v25 : Int) (c22_0 : (List S_api_Duty)) (c22_1 : (List S_api_Segment)) (c22_2 c22_3 : (List S_api_Veto)) (c22_4 c22_5 : (List Int)) (l33 : (List Bool)) (sv23 sc22_0 sc22_1 sc22_2 sc22_3 sc22_4 sc22_5 : SV) (b22 b36 : Pos) (s33 : SV) (Fr : Rd) (M : Mem) (r : (List Bool)) (hv23 : Slc Fr 2 (rep127 Fr) sv23 v23) (hc22_0 : Slc Fr 3 (FlatR enc43) sc22_0 c22_0) (hc22_1 : Slc Fr 2 (FlatR enc106) sc22_1 c22_1) (hc22_2 : Slc Fr 2 (rep127 Fr) sc22_2 c22_2) (hc22_3 : Slc Fr 2 (rep127 Fr) sc22_3 c22_3) (hc22_4 : Slc Fr 1 (FlatR enc3) sc22_4 c22_4) (hc22_5 : Slc Fr 1 (FlatR enc3) sc22_5 c22_5) (hH : Has Fr M [.obj b22 (.row 85 .whole [sc22_0, sc22_1, sc22_2, sc22_3, sc22_4, sc22_5]), .obj b36 (.row 48 .whole [s33]), .vec 4 1 l33.length s33 (l33.flatMap enc4)]), run_plan_quiet_3 F N v23 v24 v25 c22_0 c22_1 c22_2 c22_3 c22_4 c22_5 l33 = some r → Run Tryz.prog ⟨⟨40, [], none⟩, []⟩ 41 (run_plan_quiet_post r) [(2, (.ptr b22 0)), (5, (.ptr b36 0)), (6, (.fn (.func 67) [] [(.ptr b36 0)])), (23, sv23), (24, (.int .i64 v24)), (25, (.int .i64 v25))] [codeC Tryz.prog 40 [1, 1, 1, 1, 0, 1, 0, 0], loopC Tryz.prog 40 [1, 1, 1, 1, 0, 1, 0, 0], .inBlock 0, codeC Tryz.prog 40 [1, 1, 1, 1, 1]] M := by
  intro N
  induction N with
  | zero =>
    intro v23 v24 v25 c22_0 c22_1 c22_2 c22_3 c22_4 c22_5 l33 sv23 sc22_0 sc22_1 sc22_2 sc22_3 sc22_4 sc22_5 b22 b36 s33 Fr M r hv23 hc22_0 hc22_1 hc22_2 hc22_3 hc22_4 hc22_5 hH h
    simp [run_plan_quiet_3] at h
  | succ N ih =>
    intro v23 v24 v25 c22_0 c22_1 c22_2 c22_3 c22_4 c22_5 l33 sv23 sc22_0 sc22_1 sc22_2 sc22_3 sc22_4 sc22_5 b22 b36 s33 Fr M r hv23 hc22_0 hc22_1 hc22_2 hc22_3 hc22_4 hc22_5 hH h
    rw [run_plan_quiet_3] at h
    refine Run.seq (Run.region ?_)
    refine Run.opG wantS_none (ex_lss rfl rfl) rfl ?_
    refine Run.opsEnd (Run.seq ?_)
    rcases btf ((decide (v25 < v24))) with hc56 | hc56
    · have h := bif_t hc56 h
      refine Run.condT' rfl hc56 ?_
      refine Run.skip (Run.seq (Run.block (Run.seq (Run.region ?_))))
      obtain ⟨x58, hx58, h⟩ := bnd_some h
      obtain ⟨p58, o58, _, hx58, hp58, ⟨q58_0, rfl, hq58_0⟩⟩ := sl_elem (P := Tryz.prog) (t := 34) (kk := .i64) hv23 hx58 els34
      refine Run.opG wantS_none (ex_elX rfl rfl hx58) rfl ?_
      refine Run.opG wantS_none (ex_loadA rfl (hH.ptrF hp58) rdLe_rfl agg127 rfl rfl rfl) rfl ?_
      refine Run.opX wantS_none rfl (ExG.new (v := fun b => .ptr b 0) (ex_alloc zer127) hH) ?_
      rintro _ M61 ⟨b60, rfl, hH61⟩
      refine Run.opX wantS_none rfl (ExG.storeC (c' := [(.str x58.Name), q58_0]) rfl rfl rfl hH61 (i := 0) rfl sz127 rfl rfl rfl (ones_cons rfl (ones_cons (slc_one hq58_0) ones_nil)) rfl) ?_
      rintro _ M62 ⟨rfl, (hH62 : Has Fr M62 [.obj b60 (.row 127 .whole [(.str x58.Name), q58_0]), .obj b22 (.row 85 .whole [sc22_0, sc22_1, sc22_2, sc22_3, sc22_4, sc22_5]), .obj b36 (.row 48 .whole [s33]), .vec 4 1 l33.length s33 (l33.flatMap enc4)])⟩
      refine Run.opsEnd (Run.seq ?_)
      refine Run.drawG plan40_1_1_1_1_0_1_0_0_1_1_0_0_1_0 ?_
      refine DrawG.fl rfl (ev_ex wantS_none (ex_loadA rfl (hH62.cells (i := 0) rfl 0 rfl) rdLe_rfl agg127 rfl rfl rfl)) rfl ?_
      refine DrawG.fl rfl (ev_ex wantS_none (ex_loadA rfl (hH62.cells (i := 1) rfl 0 rfl) rdLe_rfl agg85 rfl rfl rfl)) rfl ?_
      obtain ⟨r63, hr63, h⟩ := bnd_some h
      refine DrawG.callP rfl wantS_none (ex_call rfl mkk37 cal37) rfl (run_plan_span_ok F (S_run_plan.mk c22_0 c22_1 (S__2_api_Veto.mk c22_2 c22_3) (S__2_int.mk c22_4 c22_5)) sc22_0 sc22_1 sc22_2 sc22_3 sc22_4 sc22_5 _ _ (hH62.slcF hc22_0) (hH62.slcF hc22_1) ((hc22_2).mono hH62.le (fun _ _ => rep127_mo hH62.le)) ((hc22_3).mono hH62.le (fun _ _ => rep127_mo hH62.le)) (hH62.slcF hc22_4) (hH62.slcF hc22_5) hr63) (st_cons rfl (ev_ex wantS_none (ex_loadA rfl (hH62.cells (i := 0) rfl 0 rfl) rdLe_rfl agg127 rfl rfl rfl)) rfl rfl (self_agg (self_cons rfl (self_cons (slc_self hq58_0) self_nil))) st_nil) ?_
      obtain ⟨r65, hr65, h⟩ := bnd_some h
      refine DrawG.call rfl wantS_none (ex_call rfl mkk68 cal68) rfl (glitch_Held_ok F x58 r63 q58_0 _ _ (hH62.slcF hq58_0) hr65) ?_
      rintro _ M67 ⟨s65_0, rfl, hN65⟩
      have hH67 : Has Fr M67 [.vec 106 2 r65.1.length s65_0 (r65.1.flatMap enc106), .obj b60 (.row 127 .whole [(.str x58.Name), q58_0]), .obj b22 (.row 85 .whole [sc22_0, sc22_1, sc22_2, sc22_3, sc22_4, sc22_5]), .obj b36 (.row 48 .whole [s33]), .vec 4 1 l33.length s33 (l33.flatMap enc4)] := hN65.1 _ _ hH62
      refine ⟨st_nil, ?_⟩
      refine DrawG.fl rfl (ev_ex wantS_none (ex_move rfl)) rfl ?_
      refine DrawG.fl rfl (ev_ex wantS_none (ex_extract rfl rfl)) rfl ?_
      refine DrawG.fl rfl (ev_ex wantS_none (ex_extract rfl rfl)) rfl ?_
      refine DrawG.fl rfl (ev_ex wantS_none (ex_assign rfl)) rfl ?_
      refine DrawG.fl rfl (ev_ex wantS_none (ex_assign rfl)) rfl ?_
      refine DrawG.sync ?_
      refine DrawG.nil ?_
      refine Run.region ?_
      refine Run.opG wantS_none (ex_move rfl) rfl ?_
      refine Run.opG wantS_none (ex_move rfl) rfl ?_
      refine Run.enter wantS_none (ex_closure rfl rfl mkk67 cal67) Tryz.func67 rfl rfl ?_
      refine Run.seq (Run.region ?_)
      refine Run.opG wantS_none (ex_move rfl) rfl ?_
      refine Run.opG wantS_none (ex_len' rfl (hH67.slc (i := 0) rfl enc106_len) lenk33) rfl ?_
      refine Run.opG wantS_none (ex_move rfl) rfl ?_
      refine Run.opsEnd (Run.block (Run.loop ?_))
      exact Run.low (.cons (fle_pick [2, 5, 6, 23, 24, 25] rfl) .nil) (Run.pick [1, 5, 6, 7] (run_plan_quiet_4_ok F (run_plan_quiet_3 F N) ih F (r65.1.length : Int) (0 : Int) v23 v24 v25 c22_0 c22_1 c22_2 c22_3 c22_4 c22_5 l33 r65.1 sv23 sc22_0 sc22_1 sc22_2 sc22_3 sc22_4 sc22_5 b36 s33 s65_0 b22 _ _ _ hv23 hc22_0 hc22_1 hc22_2 hc22_3 hc22_4 hc22_5 (hH67.pick [3, 4, 0, 2] rfl rfl) h))
    · have h := bif_f hc56 h
      refine Run.condF' rfl hc56 ?_
      refine Run.exit rfl (Run.seq (Run.region ?_))
      refine Run.opG wantS_none (ex_load1 rfl (hH.cells (i := 1) rfl 0 rfl) rdLe_rfl agg48) rfl ?_
      refine Run.opG wantS_none (ex_assign rfl) rfl ?_
      refine Run.opsEnd ?_
      cases h
      exact Run.ret Tryz.func40 rfl (res_tmp rfl res_nil) ⟨_, rfl, (hH.pick [2] rfl rfl).upF (none_le _)⟩

def run_plan_quiet_2 (F : Nat) (c22_0 : (List S_api_Duty)) (c22_1 : (List S_api_Segment)) (c22_2 c22_3 : (List S_api_Veto)) (c22_4 c22_5 : (List Int)) (l33 : (List Bool)) : Option ((List Bool)) :=
  run_plan_quiet_3 F F c22_2 (c22_2.length : Int) (0 : Int) c22_0 c22_1 c22_2 c22_3 c22_4 c22_5 l33

theorem run_plan_quiet_2_ok (F : Nat) : ∀ (c22_0 : (List S_api_Duty)) (c22_1 : (List S_api_Segment)) (c22_2 c22_3 : (List S_api_Veto)) (c22_4 c22_5 : (List Int)) (l33 : (List Bool)) (sc22_0 sc22_1 sc22_2 sc22_3 sc22_4 sc22_5 : SV) (b22 b36 : Pos) (s33 : SV) (Fr : Rd) (M : Mem) (r : (List Bool)) (hc22_0 : Slc Fr 3 (FlatR enc43) sc22_0 c22_0) (hc22_1 : Slc Fr 2 (FlatR enc106) sc22_1 c22_1) (hc22_2 : Slc Fr 2 (rep127 Fr) sc22_2 c22_2) (hc22_3 : Slc Fr 2 (rep127 Fr) sc22_3 c22_3) (hc22_4 : Slc Fr 1 (FlatR enc3) sc22_4 c22_4) (hc22_5 : Slc Fr 1 (FlatR enc3) sc22_5 c22_5) (hH : Has Fr M [.obj b22 (.row 85 .whole [sc22_0, sc22_1, sc22_2, sc22_3, sc22_4, sc22_5]), .obj b36 (.row 48 .whole [s33]), .vec 4 1 l33.length s33 (l33.flatMap enc4)]), run_plan_quiet_2 F c22_0 c22_1 c22_2 c22_3 c22_4 c22_5 l33 = some r → Run Tryz.prog ⟨⟨40, [], none⟩, []⟩ 41 (run_plan_quiet_post r) [(2, (.ptr b22 0)), (5, (.ptr b36 0)), (6, (.fn (.func 67) [] [(.ptr b36 0)])), (22, (.ptr b22 2))] [itemC Tryz.prog 40 [1, 1, 1, 1, 0, 0] 3, codeC Tryz.prog 40 [1, 1, 1, 1, 0, 1], codeC Tryz.prog 40 [1, 1, 1, 1, 1]] M := by
  intro c22_0 c22_1 c22_2 c22_3 c22_4 c22_5 l33 sc22_0 sc22_1 sc22_2 sc22_3 sc22_4 sc22_5 b22 b36 s33 Fr M r hc22_0 hc22_1 hc22_2 hc22_3 hc22_4 hc22_5 hH h
  rw [run_plan_quiet_2] at h
  refine Run.opG wantS_none (ex_load1 rfl (hH.cells (i := 0) rfl 2 rfl) rdLe_rfl agg34) rfl ?_
  refine Run.opG wantS_none (ex_len' rfl hc22_2 lenk34) rfl ?_
  refine Run.opG wantS_none (ex_move rfl) rfl ?_
  refine Run.opsEnd (Run.block (Run.loop ?_))
  exact Run.pick [2, 5, 6, 23, 24, 25] (run_plan_quiet_3_ok F F c22_2 (c22_2.length : Int) (0 : Int) c22_0 c22_1 c22_2 c22_3 c22_4 c22_5 l33 sc22_2 sc22_0 sc22_1 sc22_2 sc22_3 sc22_4 sc22_5 b22 b36 s33 _ _ _ hc22_2 hc22_0 hc22_1 hc22_2 hc22_3 hc22_4 hc22_5 hH h)

def run_plan_quiet_5 (F : Nat) (c22_0 : (List S_api_Duty)) (c22_1 : (List S_api_Segment)) (c22_2 c22_3 : (List S_api_Veto)) (c22_4 c22_5 : (List Int)) (l33 : (List Bool)) : Option ((List Bool)) :=
  run_plan_quiet_3 F F c22_3 (c22_3.length : Int) (0 : Int) c22_0 c22_1 c22_2 c22_3 c22_4 c22_5 l33

theorem run_plan_quiet_5_ok (F : Nat) : ∀ (c22_0 : (List S_api_Duty)) (c22_1 : (List S_api_Segment)) (c22_2 c22_3 : (List S_api_Veto)) (c22_4 c22_5 : (List Int)) (l33 : (List Bool)) (sc22_0 sc22_1 sc22_2 sc22_3 sc22_4 sc22_5 : SV) (b22 b36 : Pos) (s33 : SV) (Fr : Rd) (M : Mem) (r : (List Bool)) (hc22_0 : Slc Fr 3 (FlatR enc43) sc22_0 c22_0) (hc22_1 : Slc Fr 2 (FlatR enc106) sc22_1 c22_1) (hc22_2 : Slc Fr 2 (rep127 Fr) sc22_2 c22_2) (hc22_3 : Slc Fr 2 (rep127 Fr) sc22_3 c22_3) (hc22_4 : Slc Fr 1 (FlatR enc3) sc22_4 c22_4) (hc22_5 : Slc Fr 1 (FlatR enc3) sc22_5 c22_5) (hH : Has Fr M [.obj b22 (.row 85 .whole [sc22_0, sc22_1, sc22_2, sc22_3, sc22_4, sc22_5]), .obj b36 (.row 48 .whole [s33]), .vec 4 1 l33.length s33 (l33.flatMap enc4)]), run_plan_quiet_5 F c22_0 c22_1 c22_2 c22_3 c22_4 c22_5 l33 = some r → Run Tryz.prog ⟨⟨40, [], none⟩, []⟩ 41 (run_plan_quiet_post r) [(2, (.ptr b22 0)), (5, (.ptr b36 0)), (6, (.fn (.func 67) [] [(.ptr b36 0)])), (22, (.ptr b22 3))] [itemC Tryz.prog 40 [1, 1, 1, 1, 0, 0] 3, codeC Tryz.prog 40 [1, 1, 1, 1, 0, 1], codeC Tryz.prog 40 [1, 1, 1, 1, 1]] M := by
  intro c22_0 c22_1 c22_2 c22_3 c22_4 c22_5 l33 sc22_0 sc22_1 sc22_2 sc22_3 sc22_4 sc22_5 b22 b36 s33 Fr M r hc22_0 hc22_1 hc22_2 hc22_3 hc22_4 hc22_5 hH h
  rw [run_plan_quiet_5] at h
  refine Run.opG wantS_none (ex_load1 rfl (hH.cells (i := 0) rfl 3 rfl) rdLe_rfl agg34) rfl ?_
  refine Run.opG wantS_none (ex_len' rfl hc22_3 lenk34) rfl ?_
  refine Run.opG wantS_none (ex_move rfl) rfl ?_
  refine Run.opsEnd (Run.block (Run.loop ?_))
  exact Run.pick [2, 5, 6, 23, 24, 25] (run_plan_quiet_3_ok F F c22_3 (c22_3.length : Int) (0 : Int) c22_0 c22_1 c22_2 c22_3 c22_4 c22_5 l33 sc22_3 sc22_0 sc22_1 sc22_2 sc22_3 sc22_4 sc22_5 b22 b36 s33 _ _ _ hc22_3 hc22_0 hc22_1 hc22_2 hc22_3 hc22_4 hc22_5 hH h)

def run_plan_quiet_1 (F : Nat) : Nat → (List S_api_Segment) → Int → Int → Int → (List S_api_Duty) → (List S_api_Segment) → (List S_api_Veto) → (List S_api_Veto) → (List Int) → (List Int) → (List Bool) → Option ((List Bool))
  | 0, _, _, _, _, _, _, _, _, _, _, _ => none
  | N + 1, v5, v6, v7, v1_f1, c22_0, c22_1, c22_2, c22_3, c22_4, c22_5, l33 =>
    bif (decide (v7 < v6)) then
      bnd (idx v5 v7) fun x41 =>
      bnd (subP l33.length x41.From x41.To) fun l47 =>
      bnd (clrP l33 (0 + l47.1) l47.2 false) fun l49 =>
      (run_plan_quiet_1 F N) v5 v6 (w64 (v7 + (1 : Int))) v1_f1 c22_0 c22_1 c22_2 c22_3 c22_4 c22_5 l49
    else
      bif (v1_f1 == (0 : Int)) then
        run_plan_quiet_2 F c22_0 c22_1 c22_2 c22_3 c22_4 c22_5 l33
      else
        bif (v1_f1 == (1 : Int)) then
          run_plan_quiet_5 F c22_0 c22_1 c22_2 c22_3 c22_4 c22_5 l33
        else
          none

theorem run_plan_quiet_1_ok (F : Nat) : ∀ (N : Nat), ∀ (v5 : (List S_api_Segment)) (v6 v7 v1_f1 : Int) (c22_0 : (List S_api_Duty)) (c22_1 : (List S_api_Segment)) (c22_2 c22_3 : (List S_api_Veto)) (c22_4 c22_5 : (List Int)) (l33 : (List Bool)) (sv5 sc22_0 sc22_1 sc22_2 sc22_3 sc22_4 sc22_5 : SV) (b36 : Pos) (s33 : SV) (b22 : Pos) (Fr : Rd) (M : Mem) (r : (List Bool)) (hv5 : Slc Fr 2 (FlatR enc106) sv5 v5) (hc22_0 : Slc Fr 3 (FlatR enc43) sc22_0 c22_0) (hc22_1 : Slc Fr 2 (FlatR enc106) sc22_1 c22_1) (hc22_2 : Slc Fr 2 (rep127 Fr) sc22_2 c22_2) (hc22_3 : Slc Fr 2 (rep127 Fr) sc22_3 c22_3) (hc22_4 : Slc Fr 1 (FlatR enc3) sc22_4 c22_4) (hc22_5 : Slc Fr 1 (FlatR enc3) sc22_5 c22_5) (hH : Has Fr M [.obj b36 (.row 48 .whole [s33]), .vec 4 1 l33.length s33 (l33.flatMap enc4), .obj b22 (.row 85 .whole [sc22_0, sc22_1, sc22_2, sc22_3, sc22_4, sc22_5])]), run_plan_quiet_1 F N v5 v6 v7 v1_f1 c22_0 c22_1 c22_2 c22_3 c22_4 c22_5 l33 = some r → Run Tryz.prog ⟨⟨67, [], none⟩, [.mk ⟨40, [], none⟩ 41 (treeOf [(1, (.int .i64 v1_f1)), (2, (.ptr b22 0)), (5, (.ptr b36 0)), (6, (.fn (.func 67) [] [(.ptr b36 0)]))]) [itemC Tryz.prog 40 [1, 1, 1, 0] 3, codeC Tryz.prog 40 [1, 1, 1, 1]]]⟩ 18 (run_plan_quiet_post r) [(1, (.ptr b36 0)), (5, sv5), (6, (.int .i64 v6)), (7, (.int .i64 v7))] [codeC Tryz.prog 67 [1, 0, 0], loopC Tryz.prog 67 [1, 0, 0], .inBlock 0] M := by
  intro N
  induction N with
  | zero =>
    intro v5 v6 v7 v1_f1 c22_0 c22_1 c22_2 c22_3 c22_4 c22_5 l33 sv5 sc22_0 sc22_1 sc22_2 sc22_3 sc22_4 sc22_5 b36 s33 b22 Fr M r hv5 hc22_0 hc22_1 hc22_2 hc22_3 hc22_4 hc22_5 hH h
    simp [run_plan_quiet_1] at h
  | succ N ih =>
    intro v5 v6 v7 v1_f1 c22_0 c22_1 c22_2 c22_3 c22_4 c22_5 l33 sv5 sc22_0 sc22_1 sc22_2 sc22_3 sc22_4 sc22_5 b36 s33 b22 Fr M r hv5 hc22_0 hc22_1 hc22_2 hc22_3 hc22_4 hc22_5 hH h
    rw [run_plan_quiet_1] at h
    refine Run.seq (Run.region ?_)
    refine Run.opG wantS_none (ex_lss rfl rfl) rfl ?_
    refine Run.opsEnd (Run.seq ?_)
    rcases btf ((decide (v7 < v6))) with hc39 | hc39
    · have h := bif_t hc39 h
      refine Run.condT' rfl hc39 ?_
      refine Run.skip (Run.seq (Run.block (Run.seq (Run.region ?_))))
      obtain ⟨x41, hx41, h⟩ := bnd_some h
      obtain ⟨p41, o41, _, hx41, hp41, rfl⟩ := sl_elem (P := Tryz.prog) (t := 33) (kk := .i64) hv5 hx41 els33
      refine Run.opG wantS_none (ex_elX rfl rfl hx41) rfl ?_
      refine Run.opG wantS_none (ex_loadA rfl (hH.ptrF hp41) rdLe_rfl agg106 rfl rfl rfl) rfl ?_
      refine Run.opX wantS_none rfl (ExG.new (v := fun b => .ptr b 0) (ex_alloc zer106) hH) ?_
      rintro _ M44 ⟨b43, rfl, hH44⟩
      refine Run.opX wantS_none rfl (ExG.storeC (c' := [(.int .i64 x41.From), (.int .i64 x41.To)]) rfl rfl rfl hH44 (i := 0) rfl sz106 rfl rfl rfl rfl rfl) ?_
      rintro _ M45 ⟨rfl, (hH45 : Has Fr M45 [.obj b43 (.row 106 .whole [(.int .i64 x41.From), (.int .i64 x41.To)]), .obj b36 (.row 48 .whole [s33]), .vec 4 1 l33.length s33 (l33.flatMap enc4), .obj b22 (.row 85 .whole [sc22_0, sc22_1, sc22_2, sc22_3, sc22_4, sc22_5])])⟩
      refine Run.opsEnd (Run.region ?_)
      refine Run.opG wantS_none (ex_load1 rfl (hH45.cells (i := 1) rfl 0 rfl) rdLe_rfl agg48) rfl ?_
      refine Run.opG wantS_none (ex_fieldAddr rfl off106_0) rfl ?_
      refine Run.opG wantS_none (ex_load1 rfl (hH45.cells (i := 0) rfl 0 rfl) rdLe_rfl agg3) rfl ?_
      refine Run.opG wantS_none (ex_fieldAddr rfl off106_1) rfl ?_
      refine Run.opG wantS_none (ex_load1 rfl (hH45.cells (i := 0) rfl 1 rfl) rdLe_rfl agg3) rfl ?_
      obtain ⟨l47, hl47, h⟩ := bnd_some h
      have hq47 := part_all hH45 (i := 2) rfl
      obtain ⟨s47, hx47, hp47⟩ := part_cutB (P := Tryz.prog) (t := 48) (k0 := .i64) (k1 := .i64) hq47 hl47 slk48
      refine Run.opG wantS_none (ex_slX rfl (argO_some rfl) (argO_some rfl) hx47) rfl ?_
      obtain ⟨l49, hl49, h⟩ := bnd_some h
      refine Run.opX wantS_none rfl (ExG.clearP rfl hH45 (i := 2) rfl hp47 hl49 elt48 rfl enc4_len enc4_ones) ?_
      rintro _ M50 ⟨rfl, (hH50 : Has Fr M50 [.obj b43 (.row 106 .whole [(.int .i64 x41.From), (.int .i64 x41.To)]), .obj b36 (.row 48 .whole [s33]), .vec 4 1 l49.length s33 (l49.flatMap enc4), .obj b22 (.row 85 .whole [sc22_0, sc22_1, sc22_2, sc22_3, sc22_4, sc22_5])])⟩
      refine Run.opsEnd (Run.inBlock (Run.region ?_))
      refine Run.opG wantS_none (ex_add rfl rfl) rfl ?_
      refine Run.opG wantS_none (ex_move rfl) rfl ?_
      refine Run.opsEnd (Run.inLoop ?_)
      exact Run.low (.cons (fle_pick [1, 2, 5, 6] rfl) .nil) (Run.pick [1, 5, 6, 7] (ih v5 v6 (w64 (v7 + (1 : Int))) v1_f1 c22_0 c22_1 c22_2 c22_3 c22_4 c22_5 l49 sv5 sc22_0 sc22_1 sc22_2 sc22_3 sc22_4 sc22_5 b36 s33 b22 _ _ _ hv5 hc22_0 hc22_1 hc22_2 hc22_3 hc22_4 hc22_5 (hH50.pick [1, 2, 3] rfl rfl) h))
    · have h := bif_f hc39 h
      refine Run.condF' rfl hc39 ?_
      refine Run.exit rfl ?_
      refine Run.fallTo Tryz.func67 rfl res_nil rfl ?_
      refine Run.opsEnd (Run.seq (Run.seq (Run.region ?_)))
      refine Run.opG wantS_none (ex_move rfl) rfl ?_
      refine Run.opG wantS_none (ex_fieldAddr rfl off85_2) rfl ?_
      rcases btf ((v1_f1 == (0 : Int))) with hc53 | hc53
      · have h := bif_t hc53 h
        refine Run.opG wantS_none (ex_elX rfl rfl (arr_place (j := 0) (natIn_beq hc53 rfl rfl) els35)) rfl ?_
        exact Run.pick [2, 5, 6, 22] (run_plan_quiet_2_ok F c22_0 c22_1 c22_2 c22_3 c22_4 c22_5 l33 sc22_0 sc22_1 sc22_2 sc22_3 sc22_4 sc22_5 b22 b36 s33 _ _ _ hc22_0 hc22_1 hc22_2 hc22_3 hc22_4 hc22_5 (hH.pick [2, 0, 1] rfl rfl) h)
      · have h := bif_f hc53 h
        rcases btf ((v1_f1 == (1 : Int))) with hc82 | hc82
        · have h := bif_t hc82 h
          refine Run.opG wantS_none (ex_elX rfl rfl (arr_place (j := 1) (natIn_beq hc82 rfl rfl) els35)) rfl ?_
          exact Run.pick [2, 5, 6, 22] (run_plan_quiet_5_ok F c22_0 c22_1 c22_2 c22_3 c22_4 c22_5 l33 sc22_0 sc22_1 sc22_2 sc22_3 sc22_4 sc22_5 b22 b36 s33 _ _ _ hc22_0 hc22_1 hc22_2 hc22_3 hc22_4 hc22_5 (hH.pick [2, 0, 1] rfl rfl) h)
        · have h := bif_f hc82 h
          cases h

def run_plan_quiet (F : Nat) (a0 : S_run_plan) (a1 : Int) : Option ((List Bool)) :=
  bnd (run_plan_span F a0) fun r28 =>
  bnd (slices_Repeat F ([true] : List Bool) r28) fun r32 =>
  run_plan_quiet_1 F F a0.work (a0.work.length : Int) (0 : Int) a1 a0.duties a0.work a0.vetoes.e0 a0.vetoes.e1 a0.data.e0 a0.data.e1 r32

theorem run_plan_quiet_ok (F : Nat) (a0 : S_run_plan) (a1 : Int) (s0 s1 s2 s3 s4 s5 : SV) (r : (List Bool)) (M : Mem) (hs0 : Slc (rd M) 3 (FlatR enc43) s0 a0.duties) (hs1 : Slc (rd M) 2 (FlatR enc106) s1 a0.work) (hs2 : Slc (rd M) 2 (rep127 (rd M)) s2 a0.vetoes.e0) (hs3 : Slc (rd M) 2 (rep127 (rd M)) s3 a0.vetoes.e1) (hs4 : Slc (rd M) 1 (FlatR enc3) s4 a0.data.e0) (hs5 : Slc (rd M) 1 (FlatR enc3) s5 a0.data.e1) (h : run_plan_quiet F a0 a1 = some r) : CallsM Tryz.prog 40 [(.agg [s0, s1, s2, s3, s4, s5]), (.int .i64 a1)] M (fun s M' => ∃ q1, s = q1 ∧ New M M' [.vec 4 1 r.length q1 (r.flatMap enc4)]) := by
  refine CallsM.fresh (Q := run_plan_quiet_post r) Tryz.func40 rfl rfl ?_ (by rintro s Me ⟨q1, rfl, hx⟩ ha hw; exact ⟨_, rfl, New.of rfl hx ha hw⟩)
  rw [run_plan_quiet] at h
  replace hs0 := hs0.mono (rdLe_frozen M) (fun _ _ h => h)
  replace hs1 := hs1.mono (rdLe_frozen M) (fun _ _ h => h)
  replace hs2 := hs2.mono (rdLe_frozen M) (fun _ _ => rep127_mo (rdLe_frozen M))
  replace hs3 := hs3.mono (rdLe_frozen M) (fun _ _ => rep127_mo (rdLe_frozen M))
  replace hs4 := hs4.mono (rdLe_frozen M) (fun _ _ h => h)
  replace hs5 := hs5.mono (rdLe_frozen M) (fun _ _ h => h)
  have hH := Has.nil (frozen M)
  refine Run.seq (Run.region ?_)
  refine Run.opX wantS_none rfl (ExG.box rfl rfl hH) ?_
  rintro _ M23 ⟨b22, rfl, hH23⟩
  refine Run.opG wantS_none (ex_assign rfl) rfl ?_
  refine Run.opsEnd (Run.seq (Run.region ?_))
  refine Run.opX wantS_none rfl (ExG.built (enc := enc4) (l := ([true] : List Bool)) (z := 1) rfl elt48 rfl rfl rfl enc4_len hH23) ?_
  rintro s25 M26 (hH26 : Has (ro (frozen M)) M26 [.vec 4 1 ([true] : List Bool).length s25 (([true] : List Bool).flatMap enc4), .obj b22 (.row 85 .whole [s0, s1, s2, s3, s4, s5])])
  refine Run.opG wantS_none (ex_loadA rfl (hH26.cells (i := 1) rfl 0 rfl) rdLe_rfl agg85 rfl rfl rfl) rfl ?_
  obtain ⟨r28, hr28, h⟩ := bnd_some h
  refine Run.callP wantS_none (ex_call rfl mkk37 cal37) rfl (run_plan_span_ok F a0 s0 s1 s2 s3 s4 s5 _ _ (hH26.slcF hs0) (hH26.slcF hs1) ((hs2).mono hH26.le (fun _ _ => rep127_mo hH26.le)) ((hs3).mono hH26.le (fun _ _ => rep127_mo hH26.le)) (hH26.slcF hs4) (hH26.slcF hs5) hr28) ?_
  obtain ⟨r32, hr32, h⟩ := bnd_some h
  refine Run.callX wantS_none (ex_call rfl mkk66 cal66) rfl (slices_Repeat_ok F ([true] : List Bool) r28 s25 _ _ (hH26.slc (i := 0) rfl enc4_len) hr32) ?_
  rintro s32_0 M34 ⟨_, rfl, hN32⟩
  have hH34 : Has (ro (frozen M)) M34 [.vec 4 1 r32.length s32_0 (r32.flatMap enc4), .vec 4 1 ([true] : List Bool).length s25 (([true] : List Bool).flatMap enc4), .obj b22 (.row 85 .whole [s0, s1, s2, s3, s4, s5])] := hN32.1 _ _ hH26
  refine Run.opX wantS_none rfl (ExG.new (v := fun b => .ptr b 0) (ex_alloc zer48) hH34) ?_
  rintro _ M37 ⟨b36, rfl, hH37⟩
  refine Run.opX wantS_none rfl (ExG.storeC (c' := [s32_0]) rfl rfl (cells_one (vec_one hH37 (i := 1) rfl)) hH37 (i := 0) rfl sz48 rfl rfl rfl (ones_cons (vec_one hH37 (i := 1) rfl) ones_nil) rfl) ?_
  rintro _ M38 ⟨rfl, (hH38 : Has (ro (frozen M)) M38 [.obj b36 (.row 48 .whole [s32_0]), .vec 4 1 r32.length s32_0 (r32.flatMap enc4), .vec 4 1 ([true] : List Bool).length s25 (([true] : List Bool).flatMap enc4), .obj b22 (.row 85 .whole [s0, s1, s2, s3, s4, s5])])⟩
  refine Run.opsEnd (Run.seq (Run.region ?_))
  refine Run.opG wantS_none (ex_makeFunc rfl rfl) rfl ?_
  refine Run.opG wantS_none (ex_assign rfl) rfl ?_
  refine Run.opsEnd (Run.seq (Run.region ?_))
  refine Run.opG wantS_none (ex_move rfl) rfl ?_
  refine Run.opG wantS_none (ex_fieldAddr rfl off85_1) rfl ?_
  refine Run.opG wantS_none (ex_load1 rfl (hH38.cells (i := 3) rfl 1 rfl) rdLe_rfl agg33) rfl ?_
  refine Run.enter wantS_none (ex_closure rfl rfl mkk67 cal67) Tryz.func67 rfl rfl ?_
  refine Run.seq (Run.region ?_)
  refine Run.opG wantS_none (ex_move rfl) rfl ?_
  refine Run.opG wantS_none (ex_len' rfl hs1 lenk33) rfl ?_
  refine Run.opG wantS_none (ex_move rfl) rfl ?_
  refine Run.opsEnd (Run.block (Run.loop ?_))
  exact Run.low (.cons (fle_pick [1, 2, 5, 6] rfl) .nil) (Run.pick [1, 5, 6, 7] (run_plan_quiet_1_ok F F a0.work (a0.work.length : Int) (0 : Int) a1 a0.duties a0.work a0.vetoes.e0 a0.vetoes.e1 a0.data.e0 a0.data.e1 r32 s1 s0 s1 s2 s3 s4 s5 b36 s32_0 b22 _ _ _ hs1 hs0 hs1 hs2 hs3 hs4 hs5 (hH38.pick [0, 1, 3] rfl rfl) h))

theorem mkk40 : makeK Tryz.prog 40 = none := by kernel_rfl
theorem cal40 : callable Tryz.prog 40 = true := by kernel_rfl
abbrev run_Quiet_post (r : (List Bool) × Int) : SV → Mem → Prop := fun s Me => ∃ q1, s = (.tuple [q1, (.int .i64 r.2)]) ∧ Has (fun _ => none) Me [.vec 4 1 r.1.length q1 (r.1.flatMap enc4)]

def run_Quiet (F : Nat) (a0 : S_api_Plan) (a1 : Int) : Option ((List Bool) × Int) :=
  bnd (run_checkDetector F a0 a1) fun r25 =>
  bif (!(r25 == (0 : Int))) then
    some (([] : List Bool), r25)
  else
    bnd (run_plan_quiet F (S_run_plan.mk a0.Duties a0.Work a0.Vetoes a0.Data) a1) fun r39 =>
    some (r39, (0 : Int))

theorem run_Quiet_ok (F : Nat) (a0 : S_api_Plan) (a1 : Int) (s0 s1 s2 s3 s4 s5 : SV) (r : (List Bool) × Int) (M : Mem) (hs0 : Slc (rd M) 3 (FlatR enc43) s0 a0.Duties) (hs1 : Slc (rd M) 2 (FlatR enc106) s1 a0.Work) (hs2 : Slc (rd M) 2 (rep127 (rd M)) s2 a0.Vetoes.e0) (hs3 : Slc (rd M) 2 (rep127 (rd M)) s3 a0.Vetoes.e1) (hs4 : Slc (rd M) 1 (FlatR enc3) s4 a0.Data.e0) (hs5 : Slc (rd M) 1 (FlatR enc3) s5 a0.Data.e1) (h : run_Quiet F a0 a1 = some r) : CallsM Tryz.prog 15 [(.agg [s0, s1, s2, s3, s4, s5]), (.int .i64 a1)] M (fun s M' => ∃ q1, s = (.tuple [q1, (.int .i64 r.2)]) ∧ New M M' [.vec 4 1 r.1.length q1 (r.1.flatMap enc4)]) := by
  refine CallsM.fresh (Q := run_Quiet_post r) Tryz.func15 rfl rfl ?_ (by rintro s Me ⟨q1, rfl, hx⟩ ha hw; exact ⟨_, rfl, New.of rfl hx ha hw⟩)
  rw [run_Quiet] at h
  replace hs0 := hs0.mono (rdLe_frozen M) (fun _ _ h => h)
  replace hs1 := hs1.mono (rdLe_frozen M) (fun _ _ h => h)
  replace hs2 := hs2.mono (rdLe_frozen M) (fun _ _ => rep127_mo (rdLe_frozen M))
  replace hs3 := hs3.mono (rdLe_frozen M) (fun _ _ => rep127_mo (rdLe_frozen M))
  replace hs4 := hs4.mono (rdLe_frozen M) (fun _ _ h => h)
  replace hs5 := hs5.mono (rdLe_frozen M) (fun _ _ h => h)
  have hH := Has.nil (frozen M)
  refine Run.seq (Run.region ?_)
  refine Run.opX wantS_none rfl (ExG.box rfl rfl hH) ?_
  rintro _ M23 ⟨b22, rfl, hH23⟩
  refine Run.opG wantS_none (ex_assign rfl) rfl ?_
  refine Run.opG wantS_none (ex_assign rfl) rfl ?_
  refine Run.opsEnd (Run.seq (Run.seq (Run.region ?_)))
  refine Run.opG wantS_none (ex_loadA rfl (hH23.cells (i := 0) rfl 0 rfl) rdLe_rfl agg38 rfl rfl rfl) rfl ?_
  refine Run.opG wantS_none (ex_move rfl) rfl ?_
  obtain ⟨r25, hr25, h⟩ := bnd_some h
  refine Run.callP wantS_none (ex_call rfl mkk39 cal39) rfl (run_checkDetector_ok F a0 a1 s0 s1 s2 s3 s4 s5 _ _ (hH23.slcF hs0) (hH23.slcF hs1) ((hs2).mono hH23.le (fun _ _ => rep127_mo hH23.le)) ((hs3).mono hH23.le (fun _ _ => rep127_mo hH23.le)) (hH23.slcF hs4) (hH23.slcF hs5) hr25) ?_
  refine Run.opG wantS_none (ex_assign rfl) rfl ?_
  refine Run.opsEnd (Run.seq (Run.region ?_))
  refine Run.opG wantS_none (ex_move rfl) rfl ?_
  refine Run.opG wantS_none (ex_neq rfl rfl) rfl ?_
  refine Run.opsEnd ?_
  rcases btf ((!(r25 == (0 : Int)))) with hc27 | hc27
  · have h := bif_t hc27 h
    refine Run.condT' rfl hc27 ?_
    refine Run.seq (Run.region ?_)
    refine Run.opG wantS_none (ex_move rfl) rfl ?_
    refine Run.opG wantS_none (ex_assign rfl) rfl ?_
    refine Run.opG wantS_none (ex_assign rfl) rfl ?_
    refine Run.opsEnd ?_
    have hH29 : Has (ro (frozen M)) M23 [.vec 4 1 ([] : List Bool).length .nils (([] : List Bool).flatMap enc4), .obj b22 (.row 38 .whole [s0, s1, s2, s3, s4, s5])] := hH23.nils 4 1
    cases h
    exact Run.ret Tryz.func15 rfl (res_tmp rfl (res_tmp rfl res_nil)) ⟨_, rfl, (hH29.pick [0] rfl rfl).upF (none_le _)⟩
  · have h := bif_f hc27 h
    refine Run.condF' rfl hc27 ?_
    refine Run.skip (Run.seq (Run.region ?_))
    refine Run.opG wantS_none (ex_loadA rfl (hH23.cells (i := 0) rfl 0 rfl) rdLe_rfl agg38 rfl rfl rfl) rfl ?_
    refine Run.enter wantS_none (ex_call rfl mkk35 cal35) Tryz.func35 rfl rfl ?_
    refine Run.seq (Run.region ?_)
    refine Run.opX wantS_none rfl (ExG.box rfl rfl hH23) ?_
    rintro _ M32 ⟨b31, rfl, hH32⟩
    refine Run.opX wantS_none rfl (ExG.new (v := fun b => .ptr b 0) (ex_alloc zer85) hH32) ?_
    rintro _ M35 ⟨b34, rfl, hH35⟩
    refine Run.opsEnd (Run.seq (Run.region ?_))
    refine Run.opG wantS_none (ex_fieldAddr rfl off38_0) rfl ?_
    refine Run.opG wantS_none (ex_load1 rfl (hH35.cells (i := 1) rfl 0 rfl) rdLe_rfl agg32) rfl ?_
    refine Run.opG wantS_none (ex_fieldAddr rfl off38_1) rfl ?_
    refine Run.opG wantS_none (ex_load1 rfl (hH35.cells (i := 1) rfl 1 rfl) rdLe_rfl agg33) rfl ?_
    refine Run.opG wantS_none (ex_fieldAddr rfl off38_2) rfl ?_
    refine Run.opG wantS_none (ex_loadA rfl (hH35.cells (i := 1) rfl 2 rfl) rdLe_rfl agg35 rfl rfl rfl) rfl ?_
    refine Run.opG wantS_none (ex_fieldAddr rfl off38_3) rfl ?_
    refine Run.opG wantS_none (ex_loadA rfl (hH35.cells (i := 1) rfl 4 rfl) rdLe_rfl agg36 rfl rfl rfl) rfl ?_
    refine Run.opG wantS_none (ex_build (r := [s0, s1, s2, s3, s4, s5]) rfl zer85 pls85 (by simp only [fillS, cells_one (slc_one hs0), cells_one (slc_one hs1)]; rfl)) rfl ?_
    refine Run.opX wantS_none rfl (ExG.storeC (c' := [s0, s1, s2, s3, s4, s5]) rfl rfl rfl hH35 (i := 0) rfl sz85 rfl rfl rfl (ones_cons (slc_one hs0) (ones_cons (slc_one hs1) (ones_cons (slc_one hs2) (ones_cons (slc_one hs3) (ones_cons (slc_one hs4) (ones_cons (slc_one hs5) ones_nil)))))) rfl) ?_
    rintro _ M36 ⟨rfl, (hH36 : Has (ro (frozen M)) M36 [.obj b34 (.row 85 .whole [s0, s1, s2, s3, s4, s5]), .obj b31 (.row 38 .whole [s0, s1, s2, s3, s4, s5]), .obj b22 (.row 38 .whole [s0, s1, s2, s3, s4, s5])])⟩
    refine Run.opsEnd ?_
    refine Run.retTo Tryz.func35 rfl (res_cell rfl (x_load (ex_loadA rfl (hH36.cells (i := 0) rfl 0 rfl) rdLe_rfl agg85 rfl rfl rfl)) res_nil) rfl ?_
    refine Run.opG wantS_none (ex_move rfl) rfl ?_
    obtain ⟨r39, hr39, h⟩ := bnd_some h
    refine Run.callX wantS_none (ex_call rfl mkk40 cal40) rfl (run_plan_quiet_ok F (S_run_plan.mk a0.Duties a0.Work a0.Vetoes a0.Data) a1 s0 s1 s2 s3 s4 s5 _ _ (hH36.slcF hs0) (hH36.slcF hs1) ((hs2).mono hH36.le (fun _ _ => rep127_mo hH36.le)) ((hs3).mono hH36.le (fun _ _ => rep127_mo hH36.le)) (hH36.slcF hs4) (hH36.slcF hs5) hr39) ?_
    rintro s39_0 M41 ⟨_, rfl, hN39⟩
    have hH41 : Has (ro (frozen M)) M41 [.vec 4 1 r39.length s39_0 (r39.flatMap enc4), .obj b34 (.row 85 .whole [s0, s1, s2, s3, s4, s5]), .obj b31 (.row 38 .whole [s0, s1, s2, s3, s4, s5]), .obj b22 (.row 38 .whole [s0, s1, s2, s3, s4, s5])] := hN39.1 _ _ hH36
    refine Run.opG wantS_none (ex_assign rfl) rfl ?_
    refine Run.opG wantS_none (ex_assign rfl) rfl ?_
    refine Run.opsEnd ?_
    cases h
    exact Run.ret Tryz.func15 rfl (res_tmp rfl (res_tmp rfl res_nil)) ⟨_, rfl, (hH41.pick [0] rfl rfl).upF (none_le _)⟩

theorem mkk15 : makeK Tryz.prog 15 = none := by kernel_rfl
theorem cal15 : callable Tryz.prog 15 = true := by kernel_rfl
theorem mkk9 : makeK Tryz.prog 9 = none := by kernel_rfl
theorem cal9 : callable Tryz.prog 9 = true := by kernel_rfl
theorem els48 : elems Tryz.prog 48 = some (.sl 1) := by kernel_rfl
theorem agg4 : aggSize Tryz.prog 4 = some none := by kernel_rfl
theorem elt24 : sliceElt Tryz.prog 24 = some (⟨1, 8, [(.int .i64 0)], 3⟩ : Elt) := by kernel_rfl
theorem appt24_24 : appT Tryz.prog 24 24 = some (⟨1, 8, [(.int .i64 0)], 3⟩ : Elt) := by kernel_rfl
abbrev run_plan_ready_post (r : (List Int)) : SV → Mem → Prop := fun s Me => ∃ q1, s = q1 ∧ Has (fun _ => none) Me [.vec 3 1 r.length q1 (r.flatMap enc3)]

def run_plan_ready_2 (F : Nat) (hd1 : Int → Int → Int → Int → (List Int) → (List Bool) → Option ((List Int))) (v2 v8 v15 v16 : Int) (l29 : (List Int)) (l27 : (List Bool)) : Option ((List Int)) :=
  hd1 v2 v8 v15 (w64 (v16 + (1 : Int))) l29 l27

theorem run_plan_ready_2_ok (F : Nat) (hd1 : Int → Int → Int → Int → (List Int) → (List Bool) → Option ((List Int))) (hhd1 : ∀ (v2 v8 v15 v16 : Int) (l29 : (List Int)) (l27 : (List Bool)) (s29 s27 : SV) (Fr : Rd) (M : Mem) (r : (List Int)) (hH : Has Fr M [.vec 3 1 l29.length s29 (l29.flatMap enc3), .vec 4 1 l27.length s27 (l27.flatMap enc4)]), hd1 v2 v8 v15 v16 l29 l27 = some r → Run Tryz.prog ⟨⟨41, [], none⟩, []⟩ 38 (run_plan_ready_post r) [(2, (.int .i64 v2)), (7, s29), (8, (.int .i64 v8)), (14, s27), (15, (.int .i64 v15)), (16, (.int .i64 v16))] [codeC Tryz.prog 41 [1, 1, 1, 0, 1, 0, 0], loopC Tryz.prog 41 [1, 1, 1, 0, 1, 0, 0], .inBlock 0, codeC Tryz.prog 41 [1, 1, 1, 1]] M) : ∀ (v2 v8 v15 v16 : Int) (l29 : (List Int)) (l27 : (List Bool)) (s29 s27 : SV) (Fr : Rd) (M : Mem) (r : (List Int)) (hH : Has Fr M [.vec 3 1 l29.length s29 (l29.flatMap enc3), .vec 4 1 l27.length s27 (l27.flatMap enc4)]), run_plan_ready_2 F hd1 v2 v8 v15 v16 l29 l27 = some r → Run Tryz.prog ⟨⟨41, [], none⟩, []⟩ 38 (run_plan_ready_post r) [(2, (.int .i64 v2)), (7, s29), (8, (.int .i64 v8)), (14, s27), (15, (.int .i64 v15)), (16, (.int .i64 v16))] [itemC Tryz.prog 41 [1, 1, 1, 0, 1, 0, 0, 1, 1, 1] 0, loopC Tryz.prog 41 [1, 1, 1, 0, 1, 0, 0], .inBlock 0, codeC Tryz.prog 41 [1, 1, 1, 1]] M := by
  intro v2 v8 v15 v16 l29 l27 s29 s27 Fr M r hH h
  rw [run_plan_ready_2] at h
  refine Run.opG wantS_none (ex_add rfl rfl) rfl ?_
  refine Run.opG wantS_none (ex_move rfl) rfl ?_
  refine Run.opsEnd (Run.inLoop ?_)
  exact Run.pick [2, 7, 8, 14, 15, 16] (hhd1 v2 v8 v15 (w64 (v16 + (1 : Int))) l29 l27 s29 s27 _ _ _ hH h)

def run_plan_ready_1 (F : Nat) : Nat → Int → Int → Int → Int → (List Int) → (List Bool) → Option ((List Int))
  | 0, _, _, _, _, _, _ => none
  | N + 1, v2, v8, v15, v16, l29, l27 =>
    bif (decide (v16 < v15)) then
      bnd (idx l27 v16) fun x33 =>
      bif (!x33) then
        run_plan_ready_2 F (run_plan_ready_1 F N) v2 (w64 (v16 + (1 : Int))) v15 v16 l29 l27
      else
        bif (decide (v8 ≤ (w64 ((w64 (v16 + (1 : Int))) - v2)))) then
          bnd (apd 8 l29 ([(w64 ((w64 (v16 + (1 : Int))) - v2))] : List Int)) fun l41 =>
          run_plan_ready_2 F (run_plan_ready_1 F N) v2 v8 v15 v16 l41 l27
        else
          run_plan_ready_2 F (run_plan_ready_1 F N) v2 v8 v15 v16 l29 l27
    else
      some l29

theorem run_plan_ready_1_ok (F : Nat) : ∀ (N : Nat), ∀ (v2 v8 v15 v16 : Int) (l29 : (List Int)) (l27 : (List Bool)) (s29 s27 : SV) (Fr : Rd) (M : Mem) (r : (List Int)) (hH : Has Fr M [.vec 3 1 l29.length s29 (l29.flatMap enc3), .vec 4 1 l27.length s27 (l27.flatMap enc4)]), run_plan_ready_1 F N v2 v8 v15 v16 l29 l27 = some r → Run Tryz.prog ⟨⟨41, [], none⟩, []⟩ 38 (run_plan_ready_post r) [(2, (.int .i64 v2)), (7, s29), (8, (.int .i64 v8)), (14, s27), (15, (.int .i64 v15)), (16, (.int .i64 v16))] [codeC Tryz.prog 41 [1, 1, 1, 0, 1, 0, 0], loopC Tryz.prog 41 [1, 1, 1, 0, 1, 0, 0], .inBlock 0, codeC Tryz.prog 41 [1, 1, 1, 1]] M := by
  intro N
  induction N with
  | zero =>
    intro v2 v8 v15 v16 l29 l27 s29 s27 Fr M r hH h
    simp [run_plan_ready_1] at h
  | succ N ih =>
    intro v2 v8 v15 v16 l29 l27 s29 s27 Fr M r hH h
    rw [run_plan_ready_1] at h
    refine Run.seq (Run.region ?_)
    refine Run.opG wantS_none (ex_lss rfl rfl) rfl ?_
    refine Run.opsEnd (Run.seq ?_)
    rcases btf ((decide (v16 < v15))) with hc31 | hc31
    · have h := bif_t hc31 h
      refine Run.condT' rfl hc31 ?_
      refine Run.skip (Run.seq (Run.block (Run.seq (Run.region ?_))))
      refine Run.opG wantS_none (ex_move rfl) rfl ?_
      obtain ⟨x33, hx33, h⟩ := bnd_some h
      obtain ⟨p33, o33, hb33, hx33, he33⟩ := vec_elem (P := Tryz.prog) (t := 48) (kk := .i64) hH (i := 1) rfl hx33 els48
      refine Run.opG wantS_none (ex_elX rfl rfl hx33) rfl ?_
      refine Run.opG wantS_none (ex_load1 rfl (hH.at (enc := enc4) (a := x33) (i := 1) rfl hb33 he33 enc4_len) rdLe_rfl agg4) rfl ?_
      refine Run.opG wantS_none (ex_assign rfl) rfl ?_
      refine Run.opG wantS_none (ex_assign rfl) rfl ?_
      refine Run.opsEnd (Run.seq (Run.region ?_))
      refine Run.opG wantS_none (ex_move rfl) rfl ?_
      refine Run.opG wantS_none (ex_add rfl rfl) rfl ?_
      refine Run.opG wantS_none (ex_move rfl) rfl ?_
      refine Run.opG wantS_none (ex_sub rfl rfl) rfl ?_
      refine Run.opG wantS_none (ex_assign rfl) rfl ?_
      refine Run.opsEnd (Run.seq (Run.region ?_))
      refine Run.opG wantS_none (ex_move rfl) rfl ?_
      refine Run.opG wantS_none (ex_not rfl) rfl ?_
      refine Run.opsEnd ?_
      rcases btf ((!x33)) with hc34 | hc34
      · have h := bif_t hc34 h
        refine Run.condT' rfl hc34 ?_
        refine Run.region ?_
        refine Run.opG wantS_none (ex_move rfl) rfl ?_
        refine Run.opG wantS_none (ex_add rfl rfl) rfl ?_
        refine Run.opG wantS_none (ex_assign rfl) rfl ?_
        refine Run.opsEnd (Run.inBlock (Run.region ?_))
        exact Run.pick [2, 7, 8, 14, 15, 16] (run_plan_ready_2_ok F (run_plan_ready_1 F N) ih v2 (w64 (v16 + (1 : Int))) v15 v16 l29 l27 s29 s27 _ _ _ hH h)
      · have h := bif_f hc34 h
        refine Run.condF' rfl hc34 ?_
        refine Run.seq (Run.region ?_)
        refine Run.opG wantS_none (ex_move rfl) rfl ?_
        refine Run.opG wantS_none (ex_move rfl) rfl ?_
        refine Run.opG wantS_none (ex_geq rfl rfl) rfl ?_
        refine Run.opsEnd ?_
        rcases btf ((decide (v8 ≤ (w64 ((w64 (v16 + (1 : Int))) - v2))))) with hc35 | hc35
        · have h := bif_t hc35 h
          refine Run.condT' rfl hc35 ?_
          refine Run.region ?_
          refine Run.opG wantS_none (ex_move rfl) rfl ?_
          refine Run.opG wantS_none (ex_move rfl) rfl ?_
          refine Run.opX wantS_none rfl (ExG.built (enc := enc3) (l := ([(w64 ((w64 (v16 + (1 : Int))) - v2))] : List Int)) (z := 1) rfl elt24 rfl rfl rfl enc3_len hH) ?_
          rintro s37 M38 (hH38 : Has Fr M38 [.vec 3 1 ([(w64 ((w64 (v16 + (1 : Int))) - v2))] : List Int).length s37 (([(w64 ((w64 (v16 + (1 : Int))) - v2))] : List Int).flatMap enc3), .vec 3 1 l29.length s29 (l29.flatMap enc3), .vec 4 1 l27.length s27 (l27.flatMap enc4)])
          obtain ⟨l41, hl41, h⟩ := bnd_some h
          refine Run.opX wantS_none rfl (ExG.append rfl rfl hH38 (i := 1) rfl enc3_len rfl enc3_ones appt24_24 rfl (len_slc (hH38.slc (i := 0) rfl enc3_len)) (first_slc (hH38.slc (i := 0) rfl enc3_len) (rdLe_rdRow _) enc3_len) hl41) ?_
          rintro s41 M43 (hH43 : Has Fr M43 [.vec 3 1 ([(w64 ((w64 (v16 + (1 : Int))) - v2))] : List Int).length s37 (([(w64 ((w64 (v16 + (1 : Int))) - v2))] : List Int).flatMap enc3), .vec 3 1 l41.length s41 (l41.flatMap enc3), .vec 4 1 l27.length s27 (l27.flatMap enc4)])
          refine Run.opG wantS_none (ex_assign rfl) rfl ?_
          refine Run.opsEnd (Run.inBlock (Run.region ?_))
          exact Run.pick [2, 7, 8, 14, 15, 16] (run_plan_ready_2_ok F (run_plan_ready_1 F N) ih v2 v8 v15 v16 l41 l27 s41 s27 _ _ _ (hH43.pick [1, 2] rfl rfl) h)
        · have h := bif_f hc35 h
          refine Run.condF' rfl hc35 ?_
          refine Run.skip (Run.inBlock (Run.region ?_))
          exact Run.pick [2, 7, 8, 14, 15, 16] (run_plan_ready_2_ok F (run_plan_ready_1 F N) ih v2 v8 v15 v16 l29 l27 s29 s27 _ _ _ hH h)
    · have h := bif_f hc31 h
      refine Run.condF' rfl hc31 ?_
      refine Run.exit rfl (Run.seq (Run.region ?_))
      refine Run.opG wantS_none (ex_move rfl) rfl ?_
      refine Run.opG wantS_none (ex_assign rfl) rfl ?_
      refine Run.opsEnd ?_
      cases h
      exact Run.ret Tryz.func41 rfl (res_tmp rfl res_nil) ⟨_, rfl, (hH.pick [0] rfl rfl).upF (none_le _)⟩

def run_plan_ready (F : Nat) (a0 : S_run_plan) (a1 a2 : Int) : Option ((List Int)) :=
  bnd (run_plan_quiet F a0 a1) fun r26 =>
  run_plan_ready_1 F F a2 (0 : Int) (r26.length : Int) (0 : Int) ([] : List Int) r26

theorem run_plan_ready_ok (F : Nat) (a0 : S_run_plan) (a1 a2 : Int) (s0 s1 s2 s3 s4 s5 : SV) (r : (List Int)) (M : Mem) (hs0 : Slc (rd M) 3 (FlatR enc43) s0 a0.duties) (hs1 : Slc (rd M) 2 (FlatR enc106) s1 a0.work) (hs2 : Slc (rd M) 2 (rep127 (rd M)) s2 a0.vetoes.e0) (hs3 : Slc (rd M) 2 (rep127 (rd M)) s3 a0.vetoes.e1) (hs4 : Slc (rd M) 1 (FlatR enc3) s4 a0.data.e0) (hs5 : Slc (rd M) 1 (FlatR enc3) s5 a0.data.e1) (h : run_plan_ready F a0 a1 a2 = some r) : CallsM Tryz.prog 41 [(.agg [s0, s1, s2, s3, s4, s5]), (.int .i64 a1), (.int .i64 a2)] M (fun s M' => ∃ q1, s = q1 ∧ New M M' [.vec 3 1 r.length q1 (r.flatMap enc3)]) := by
  refine CallsM.fresh (Q := run_plan_ready_post r) Tryz.func41 rfl rfl ?_ (by rintro s Me ⟨q1, rfl, hx⟩ ha hw; exact ⟨_, rfl, New.of rfl hx ha hw⟩)
  rw [run_plan_ready] at h
  replace hs0 := hs0.mono (rdLe_frozen M) (fun _ _ h => h)
  replace hs1 := hs1.mono (rdLe_frozen M) (fun _ _ h => h)
  replace hs2 := hs2.mono (rdLe_frozen M) (fun _ _ => rep127_mo (rdLe_frozen M))
  replace hs3 := hs3.mono (rdLe_frozen M) (fun _ _ => rep127_mo (rdLe_frozen M))
  replace hs4 := hs4.mono (rdLe_frozen M) (fun _ _ h => h)
  replace hs5 := hs5.mono (rdLe_frozen M) (fun _ _ h => h)
  have hH := Has.nil (frozen M)
  refine Run.seq (Run.region ?_)
  refine Run.opX wantS_none rfl (ExG.box rfl rfl hH) ?_
  rintro _ M23 ⟨b22, rfl, hH23⟩
  refine Run.opG wantS_none (ex_assign rfl) rfl ?_
  refine Run.opsEnd (Run.seq (Run.region ?_))
  refine Run.opG wantS_none (ex_assign rfl) rfl ?_
  refine Run.opsEnd (Run.seq (Run.region ?_))
  refine Run.opG wantS_none (ex_assign rfl) rfl ?_
  refine Run.opsEnd (Run.seq (Run.seq (Run.region ?_)))
  refine Run.opG wantS_none (ex_loadA rfl (hH23.cells (i := 0) rfl 0 rfl) rdLe_rfl agg85 rfl rfl rfl) rfl ?_
  refine Run.opG wantS_none (ex_move rfl) rfl ?_
  obtain ⟨r26, hr26, h⟩ := bnd_some h
  refine Run.callX wantS_none (ex_call rfl mkk40 cal40) rfl (run_plan_quiet_ok F a0 a1 s0 s1 s2 s3 s4 s5 _ _ (hH23.slcF hs0) (hH23.slcF hs1) ((hs2).mono hH23.le (fun _ _ => rep127_mo hH23.le)) ((hs3).mono hH23.le (fun _ _ => rep127_mo hH23.le)) (hH23.slcF hs4) (hH23.slcF hs5) hr26) ?_
  rintro s26_0 M28 ⟨_, rfl, hN26⟩
  have hH28 : Has (ro (frozen M)) M28 [.vec 4 1 r26.length s26_0 (r26.flatMap enc4), .obj b22 (.row 85 .whole [s0, s1, s2, s3, s4, s5])] := hN26.1 _ _ hH23
  refine Run.opG wantS_none (ex_len' rfl (hH28.slc (i := 0) rfl enc4_len) lenk48) rfl ?_
  refine Run.opG wantS_none (ex_move rfl) rfl ?_
  refine Run.opsEnd (Run.block (Run.loop ?_))
  have hH30 : Has (ro (frozen M)) M28 [.vec 3 1 ([] : List Int).length .nils (([] : List Int).flatMap enc3), .vec 4 1 r26.length s26_0 (r26.flatMap enc4), .obj b22 (.row 85 .whole [s0, s1, s2, s3, s4, s5])] := hH28.nils 3 1
  exact Run.pick [2, 7, 8, 14, 15, 16] (run_plan_ready_1_ok F F a2 (0 : Int) (r26.length : Int) (0 : Int) ([] : List Int) r26 .nils s26_0 _ _ _ (hH30.pick [0, 1] rfl rfl) h)

theorem mkk41 : makeK Tryz.prog 41 = none := by kernel_rfl
theorem cal41 : callable Tryz.prog 41 = true := by kernel_rfl
abbrev run_Ready_post (r : (List Int) × Int) : SV → Mem → Prop := fun s Me => ∃ q1, s = (.tuple [q1, (.int .i64 r.2)]) ∧ Has (fun _ => none) Me [.vec 3 1 r.1.length q1 (r.1.flatMap enc3)]

def run_Ready (F : Nat) (a0 : S_api_Plan) (a1 a2 : Int) : Option ((List Int) × Int) :=
  bnd (run_checkDetector F a0 a1) fun r25 =>
  bif (!(r25 == (0 : Int))) then
    some (([] : List Int), r25)
  else
    bnd (run_isFrom F (1 : Int) a2 (512 : Int)) fun r31 =>
    bif (!r31) then
      some (([] : List Int), (8 : Int))
    else
      bnd (run_plan_ready F (S_run_plan.mk a0.Duties a0.Work a0.Vetoes a0.Data) a1 a2) fun r45 =>
      some (r45, (0 : Int))

theorem run_Ready_ok (F : Nat) (a0 : S_api_Plan) (a1 a2 : Int) (s0 s1 s2 s3 s4 s5 : SV) (r : (List Int) × Int) (M : Mem) (hs0 : Slc (rd M) 3 (FlatR enc43) s0 a0.Duties) (hs1 : Slc (rd M) 2 (FlatR enc106) s1 a0.Work) (hs2 : Slc (rd M) 2 (rep127 (rd M)) s2 a0.Vetoes.e0) (hs3 : Slc (rd M) 2 (rep127 (rd M)) s3 a0.Vetoes.e1) (hs4 : Slc (rd M) 1 (FlatR enc3) s4 a0.Data.e0) (hs5 : Slc (rd M) 1 (FlatR enc3) s5 a0.Data.e1) (h : run_Ready F a0 a1 a2 = some r) : CallsM Tryz.prog 16 [(.agg [s0, s1, s2, s3, s4, s5]), (.int .i64 a1), (.int .i64 a2)] M (fun s M' => ∃ q1, s = (.tuple [q1, (.int .i64 r.2)]) ∧ New M M' [.vec 3 1 r.1.length q1 (r.1.flatMap enc3)]) := by
  refine CallsM.fresh (Q := run_Ready_post r) Tryz.func16 rfl rfl ?_ (by rintro s Me ⟨q1, rfl, hx⟩ ha hw; exact ⟨_, rfl, New.of rfl hx ha hw⟩)
  rw [run_Ready] at h
  replace hs0 := hs0.mono (rdLe_frozen M) (fun _ _ h => h)
  replace hs1 := hs1.mono (rdLe_frozen M) (fun _ _ h => h)
  replace hs2 := hs2.mono (rdLe_frozen M) (fun _ _ => rep127_mo (rdLe_frozen M))
  replace hs3 := hs3.mono (rdLe_frozen M) (fun _ _ => rep127_mo (rdLe_frozen M))
  replace hs4 := hs4.mono (rdLe_frozen M) (fun _ _ h => h)
  replace hs5 := hs5.mono (rdLe_frozen M) (fun _ _ h => h)
  have hH := Has.nil (frozen M)
  refine Run.seq (Run.region ?_)
  refine Run.opX wantS_none rfl (ExG.box rfl rfl hH) ?_
  rintro _ M23 ⟨b22, rfl, hH23⟩
  refine Run.opG wantS_none (ex_assign rfl) rfl ?_
  refine Run.opG wantS_none (ex_assign rfl) rfl ?_
  refine Run.opsEnd (Run.seq (Run.seq (Run.region ?_)))
  refine Run.opG wantS_none (ex_loadA rfl (hH23.cells (i := 0) rfl 0 rfl) rdLe_rfl agg38 rfl rfl rfl) rfl ?_
  refine Run.opG wantS_none (ex_move rfl) rfl ?_
  obtain ⟨r25, hr25, h⟩ := bnd_some h
  refine Run.callP wantS_none (ex_call rfl mkk39 cal39) rfl (run_checkDetector_ok F a0 a1 s0 s1 s2 s3 s4 s5 _ _ (hH23.slcF hs0) (hH23.slcF hs1) ((hs2).mono hH23.le (fun _ _ => rep127_mo hH23.le)) ((hs3).mono hH23.le (fun _ _ => rep127_mo hH23.le)) (hH23.slcF hs4) (hH23.slcF hs5) hr25) ?_
  refine Run.opG wantS_none (ex_assign rfl) rfl ?_
  refine Run.opsEnd (Run.block (Run.seq (Run.region ?_)))
  refine Run.opG wantS_none (ex_move rfl) rfl ?_
  refine Run.opG wantS_none (ex_neq rfl rfl) rfl ?_
  refine Run.opG wantS_none (ex_assign rfl) rfl ?_
  refine Run.opsEnd ?_
  rcases btf ((!(r25 == (0 : Int)))) with hc27 | hc27
  · have h := bif_t hc27 h
    refine Run.condT' rfl hc27 ?_
    refine Run.seq (Run.region ?_)
    refine Run.opG wantS_none (ex_move rfl) rfl ?_
    refine Run.opG wantS_none (ex_assign rfl) rfl ?_
    refine Run.opG wantS_none (ex_assign rfl) rfl ?_
    refine Run.opsEnd ?_
    have hH29 : Has (ro (frozen M)) M23 [.vec 3 1 ([] : List Int).length .nils (([] : List Int).flatMap enc3), .obj b22 (.row 38 .whole [s0, s1, s2, s3, s4, s5])] := hH23.nils 3 1
    cases h
    exact Run.ret Tryz.func16 rfl (res_tmp rfl (res_tmp rfl res_nil)) ⟨_, rfl, (hH29.pick [0] rfl rfl).upF (none_le _)⟩
  · have h := bif_f hc27 h
    refine Run.condF' rfl hc27 ?_
    refine Run.seq (Run.region ?_)
    refine Run.opG wantS_none (ex_move rfl) rfl ?_
    obtain ⟨r31, hr31, h⟩ := bnd_some h
    refine Run.callP wantS_none (ex_call rfl mkk27 cal27) rfl (run_isFrom_ok F (1 : Int) a2 (512 : Int) _ _ hr31) ?_
    refine Run.opG wantS_none (ex_not rfl) rfl ?_
    refine Run.opG wantS_none (ex_assign rfl) rfl ?_
    refine Run.opsEnd ?_
    rcases btf ((!r31)) with hc33 | hc33
    · have h := bif_t hc33 h
      refine Run.condT' rfl hc33 ?_
      refine Run.seq (Run.region ?_)
      refine Run.opG wantS_none (ex_assign rfl) rfl ?_
      refine Run.opG wantS_none (ex_assign rfl) rfl ?_
      refine Run.opsEnd ?_
      have hH35 : Has (ro (frozen M)) M23 [.vec 3 1 ([] : List Int).length .nils (([] : List Int).flatMap enc3), .obj b22 (.row 38 .whole [s0, s1, s2, s3, s4, s5])] := hH23.nils 3 1
      cases h
      exact Run.ret Tryz.func16 rfl (res_tmp rfl (res_tmp rfl res_nil)) ⟨_, rfl, (hH35.pick [0] rfl rfl).upF (none_le _)⟩
    · have h := bif_f hc33 h
      refine Run.condF' rfl hc33 ?_
      refine Run.skip (Run.inBlock (Run.seq (Run.region ?_)))
      refine Run.opG wantS_none (ex_loadA rfl (hH23.cells (i := 0) rfl 0 rfl) rdLe_rfl agg38 rfl rfl rfl) rfl ?_
      refine Run.enter wantS_none (ex_call rfl mkk35 cal35) Tryz.func35 rfl rfl ?_
      refine Run.seq (Run.region ?_)
      refine Run.opX wantS_none rfl (ExG.box rfl rfl hH23) ?_
      rintro _ M38 ⟨b37, rfl, hH38⟩
      refine Run.opX wantS_none rfl (ExG.new (v := fun b => .ptr b 0) (ex_alloc zer85) hH38) ?_
      rintro _ M41 ⟨b40, rfl, hH41⟩
      refine Run.opsEnd (Run.seq (Run.region ?_))
      refine Run.opG wantS_none (ex_fieldAddr rfl off38_0) rfl ?_
      refine Run.opG wantS_none (ex_load1 rfl (hH41.cells (i := 1) rfl 0 rfl) rdLe_rfl agg32) rfl ?_
      refine Run.opG wantS_none (ex_fieldAddr rfl off38_1) rfl ?_
      refine Run.opG wantS_none (ex_load1 rfl (hH41.cells (i := 1) rfl 1 rfl) rdLe_rfl agg33) rfl ?_
      refine Run.opG wantS_none (ex_fieldAddr rfl off38_2) rfl ?_
      refine Run.opG wantS_none (ex_loadA rfl (hH41.cells (i := 1) rfl 2 rfl) rdLe_rfl agg35 rfl rfl rfl) rfl ?_
      refine Run.opG wantS_none (ex_fieldAddr rfl off38_3) rfl ?_
      refine Run.opG wantS_none (ex_loadA rfl (hH41.cells (i := 1) rfl 4 rfl) rdLe_rfl agg36 rfl rfl rfl) rfl ?_
      refine Run.opG wantS_none (ex_build (r := [s0, s1, s2, s3, s4, s5]) rfl zer85 pls85 (by simp only [fillS, cells_one (slc_one hs0), cells_one (slc_one hs1)]; rfl)) rfl ?_
      refine Run.opX wantS_none rfl (ExG.storeC (c' := [s0, s1, s2, s3, s4, s5]) rfl rfl rfl hH41 (i := 0) rfl sz85 rfl rfl rfl (ones_cons (slc_one hs0) (ones_cons (slc_one hs1) (ones_cons (slc_one hs2) (ones_cons (slc_one hs3) (ones_cons (slc_one hs4) (ones_cons (slc_one hs5) ones_nil)))))) rfl) ?_
      rintro _ M42 ⟨rfl, (hH42 : Has (ro (frozen M)) M42 [.obj b40 (.row 85 .whole [s0, s1, s2, s3, s4, s5]), .obj b37 (.row 38 .whole [s0, s1, s2, s3, s4, s5]), .obj b22 (.row 38 .whole [s0, s1, s2, s3, s4, s5])])⟩
      refine Run.opsEnd ?_
      refine Run.retTo Tryz.func35 rfl (res_cell rfl (x_load (ex_loadA rfl (hH42.cells (i := 0) rfl 0 rfl) rdLe_rfl agg85 rfl rfl rfl)) res_nil) rfl ?_
      refine Run.opG wantS_none (ex_move rfl) rfl ?_
      refine Run.opG wantS_none (ex_move rfl) rfl ?_
      obtain ⟨r45, hr45, h⟩ := bnd_some h
      refine Run.callX wantS_none (ex_call rfl mkk41 cal41) rfl (run_plan_ready_ok F (S_run_plan.mk a0.Duties a0.Work a0.Vetoes a0.Data) a1 a2 s0 s1 s2 s3 s4 s5 _ _ (hH42.slcF hs0) (hH42.slcF hs1) ((hs2).mono hH42.le (fun _ _ => rep127_mo hH42.le)) ((hs3).mono hH42.le (fun _ _ => rep127_mo hH42.le)) (hH42.slcF hs4) (hH42.slcF hs5) hr45) ?_
      rintro s45_0 M47 ⟨_, rfl, hN45⟩
      have hH47 : Has (ro (frozen M)) M47 [.vec 3 1 r45.length s45_0 (r45.flatMap enc3), .obj b40 (.row 85 .whole [s0, s1, s2, s3, s4, s5]), .obj b37 (.row 38 .whole [s0, s1, s2, s3, s4, s5]), .obj b22 (.row 38 .whole [s0, s1, s2, s3, s4, s5])] := hN45.1 _ _ hH42
      refine Run.opG wantS_none (ex_assign rfl) rfl ?_
      refine Run.opG wantS_none (ex_assign rfl) rfl ?_
      refine Run.opsEnd ?_
      cases h
      exact Run.ret Tryz.func16 rfl (res_tmp rfl (res_tmp rfl res_nil)) ⟨_, rfl, (hH47.pick [0] rfl rfl).upF (none_le _)⟩

theorem mkk16 : makeK Tryz.prog 16 = none := by kernel_rfl
theorem cal16 : callable Tryz.prog 16 = true := by kernel_rfl
structure S_api_Tally where
  N : Int
  Of : Int

def enc56 (a : S_api_Tally) : List SV := [(.int .i64 a.N), (.int .i64 a.Of)]
theorem enc56_len (a : S_api_Tally) : (enc56 a).length = 2 := rfl
theorem enc56_ones (a : S_api_Tally) : ones (enc56 a) = true := rfl
theorem sz4 : szOf Tryz.prog 4 = some 1 := by kernel_rfl
theorem zer56 : zerosOf Tryz.prog 56 = some [(.int .i64 0), (.int .i64 0)] := by kernel_rfl
theorem pls56 : placesOf Tryz.prog 56 = some (.st [(0, 1), (1, 1)]) := by kernel_rfl
theorem sz56 : szOf Tryz.prog 56 = some 2 := by kernel_rfl
theorem agg56 : aggSize Tryz.prog 56 = some (some 2) := by kernel_rfl
abbrev run_tally_post (r : S_api_Tally) : SV → Mem → Prop := fun s _ => s = (.agg [(.int .i64 r.N), (.int .i64 r.Of)])

def run_tally_2 (F : Nat) (hd1 : (List Bool) → Int → (List Bool) → Int → Int → S_api_Tally → Option (S_api_Tally)) (v0 : (List Bool)) (v3 : Int) (v6 : (List Bool)) (v7 v8 : Int) (c22 : S_api_Tally) : Option (S_api_Tally) :=
  hd1 v0 v3 v6 v7 (w64 (v8 + (1 : Int))) c22

theorem run_tally_2_ok (F : Nat) (hd1 : (List Bool) → Int → (List Bool) → Int → Int → S_api_Tally → Option (S_api_Tally)) (hhd1 : ∀ (v0 : (List Bool)) (v3 : Int) (v6 : (List Bool)) (v7 v8 : Int) (c22 : S_api_Tally) (sv0 sv6 : SV) (b22 : Pos) (Fr : Rd) (M : Mem) (r : S_api_Tally) (hv0 : Slc Fr 1 (FlatR enc4) sv0 v0) (hv6 : Slc Fr 1 (FlatR enc4) sv6 v6) (hH : Has Fr M [.obj b22 (.row 56 .whole [(.int .i64 c22.N), (.int .i64 c22.Of)])]), hd1 v0 v3 v6 v7 v8 c22 = some r → Run Tryz.prog ⟨⟨69, [], none⟩, []⟩ 20 (run_tally_post r) [(0, sv0), (2, (.ptr b22 0)), (3, (.int .i64 v3)), (6, sv6), (7, (.int .i64 v7)), (8, (.int .i64 v8))] [codeC Tryz.prog 69 [1, 1, 0, 1, 0, 0], loopC Tryz.prog 69 [1, 1, 0, 1, 0, 0], .inBlock 0, codeC Tryz.prog 69 [1, 1, 1]] M) : ∀ (v0 : (List Bool)) (v3 : Int) (v6 : (List Bool)) (v7 v8 : Int) (c22 : S_api_Tally) (sv0 sv6 : SV) (b22 : Pos) (Fr : Rd) (M : Mem) (r : S_api_Tally) (hv0 : Slc Fr 1 (FlatR enc4) sv0 v0) (hv6 : Slc Fr 1 (FlatR enc4) sv6 v6) (hH : Has Fr M [.obj b22 (.row 56 .whole [(.int .i64 c22.N), (.int .i64 c22.Of)])]), run_tally_2 F hd1 v0 v3 v6 v7 v8 c22 = some r → Run Tryz.prog ⟨⟨69, [], none⟩, []⟩ 20 (run_tally_post r) [(0, sv0), (2, (.ptr b22 0)), (3, (.int .i64 v3)), (6, sv6), (7, (.int .i64 v7)), (8, (.int .i64 v8))] [itemC Tryz.prog 69 [1, 1, 0, 1, 0, 0, 1, 1, 1] 0, loopC Tryz.prog 69 [1, 1, 0, 1, 0, 0], .inBlock 0, codeC Tryz.prog 69 [1, 1, 1]] M := by
  intro v0 v3 v6 v7 v8 c22 sv0 sv6 b22 Fr M r hv0 hv6 hH h
  rw [run_tally_2] at h
  refine Run.opG wantS_none (ex_add rfl rfl) rfl ?_
  refine Run.opG wantS_none (ex_move rfl) rfl ?_
  refine Run.opsEnd (Run.inLoop ?_)
  exact Run.pick [0, 2, 3, 6, 7, 8] (hhd1 v0 v3 v6 v7 (w64 (v8 + (1 : Int))) c22 sv0 sv6 b22 _ _ _ hv0 hv6 hH h)

def run_tally_1 (F : Nat) : Nat → (List Bool) → Int → (List Bool) → Int → Int → S_api_Tally → Option (S_api_Tally)
  | 0, _, _, _, _, _, _ => none
  | N + 1, v0, v3, v6, v7, v8, c22 =>
    bif (decide (v8 < v7)) then
      bnd (idx v6 v8) fun x26 =>
      bif x26 then
        run_tally_2 F (run_tally_1 F N) v0 (w64 (v3 + (1 : Int))) v6 v7 v8 c22
      else
        run_tally_2 F (run_tally_1 F N) v0 v3 v6 v7 v8 c22
    else
      some (S_api_Tally.mk v3 (v0.length : Int))

theorem run_tally_1_ok (F : Nat) : ∀ (N : Nat), ∀ (v0 : (List Bool)) (v3 : Int) (v6 : (List Bool)) (v7 v8 : Int) (c22 : S_api_Tally) (sv0 sv6 : SV) (b22 : Pos) (Fr : Rd) (M : Mem) (r : S_api_Tally) (hv0 : Slc Fr 1 (FlatR enc4) sv0 v0) (hv6 : Slc Fr 1 (FlatR enc4) sv6 v6) (hH : Has Fr M [.obj b22 (.row 56 .whole [(.int .i64 c22.N), (.int .i64 c22.Of)])]), run_tally_1 F N v0 v3 v6 v7 v8 c22 = some r → Run Tryz.prog ⟨⟨69, [], none⟩, []⟩ 20 (run_tally_post r) [(0, sv0), (2, (.ptr b22 0)), (3, (.int .i64 v3)), (6, sv6), (7, (.int .i64 v7)), (8, (.int .i64 v8))] [codeC Tryz.prog 69 [1, 1, 0, 1, 0, 0], loopC Tryz.prog 69 [1, 1, 0, 1, 0, 0], .inBlock 0, codeC Tryz.prog 69 [1, 1, 1]] M := by
  intro N
  induction N with
  | zero =>
    intro v0 v3 v6 v7 v8 c22 sv0 sv6 b22 Fr M r hv0 hv6 hH h
    simp [run_tally_1] at h
  | succ N ih =>
    intro v0 v3 v6 v7 v8 c22 sv0 sv6 b22 Fr M r hv0 hv6 hH h
    rw [run_tally_1] at h
    refine Run.seq (Run.region ?_)
    refine Run.opG wantS_none (ex_lss rfl rfl) rfl ?_
    refine Run.opsEnd (Run.seq ?_)
    rcases btf ((decide (v8 < v7))) with hc24 | hc24
    · have h := bif_t hc24 h
      refine Run.condT' rfl hc24 ?_
      refine Run.skip (Run.seq (Run.block (Run.seq (Run.region ?_))))
      obtain ⟨x26, hx26, h⟩ := bnd_some h
      obtain ⟨p26, o26, _, hx26, hp26, rfl⟩ := sl_elem (P := Tryz.prog) (t := 48) (kk := .i64) hv6 hx26 els48
      refine Run.opG wantS_none (ex_elX rfl rfl hx26) rfl ?_
      refine Run.opG wantS_none (ex_load1 rfl (hH.ptrF hp26) rdLe_rfl agg4) rfl ?_
      refine Run.opG wantS_none (ex_assign rfl) rfl ?_
      refine Run.opsEnd (Run.seq (Run.region ?_))
      refine Run.opG wantS_none (ex_move rfl) rfl ?_
      refine Run.opsEnd ?_
      rcases btf (x26) with hc27 | hc27
      · have h := bif_t hc27 h
        refine Run.condT' rfl hc27 ?_
        refine Run.region ?_
        refine Run.opG wantS_none (ex_move rfl) rfl ?_
        refine Run.opG wantS_none (ex_add rfl rfl) rfl ?_
        refine Run.opG wantS_none (ex_assign rfl) rfl ?_
        refine Run.opsEnd (Run.inBlock (Run.region ?_))
        exact Run.pick [0, 2, 3, 6, 7, 8] (run_tally_2_ok F (run_tally_1 F N) ih v0 (w64 (v3 + (1 : Int))) v6 v7 v8 c22 sv0 sv6 b22 _ _ _ hv0 hv6 hH h)
      · have h := bif_f hc27 h
        refine Run.condF' rfl hc27 ?_
        refine Run.skip (Run.inBlock (Run.region ?_))
        exact Run.pick [0, 2, 3, 6, 7, 8] (run_tally_2_ok F (run_tally_1 F N) ih v0 v3 v6 v7 v8 c22 sv0 sv6 b22 _ _ _ hv0 hv6 hH h)
    · have h := bif_f hc24 h
      refine Run.condF' rfl hc24 ?_
      refine Run.exit rfl (Run.seq (Run.region ?_))
      refine Run.opG wantS_none (ex_move rfl) rfl ?_
      refine Run.opG wantS_none (ex_move rfl) rfl ?_
      refine Run.opG wantS_none (ex_len' rfl hv0 lenk48) rfl ?_
      refine Run.opG wantS_none (ex_build (r := [(.int .i64 v3), (.int .i64 (v0.length : Int))]) rfl zer56 pls56 rfl) rfl ?_
      refine Run.opX wantS_none rfl (ExG.storeC (c' := [(.int .i64 v3), (.int .i64 (v0.length : Int))]) rfl rfl rfl hH (i := 0) rfl sz56 rfl rfl rfl rfl rfl) ?_
      rintro _ M28 ⟨rfl, (hH28 : Has Fr M28 [.obj b22 (.row 56 .whole [(.int .i64 v3), (.int .i64 (v0.length : Int))])])⟩
      refine Run.opsEnd ?_
      cases h
      exact Run.ret Tryz.func69 rfl (res_cell rfl (x_load (ex_loadA rfl (hH28.cells (i := 0) rfl 0 rfl) rdLe_rfl agg56 rfl rfl rfl)) res_nil) rfl

def run_tally (F : Nat) (a0 : (List Bool)) : Option (S_api_Tally) :=
  run_tally_1 F F a0 (0 : Int) a0 (a0.length : Int) (0 : Int) (S_api_Tally.mk 0 0)

theorem run_tally_ok (F : Nat) (a0 : (List Bool)) (s0 : SV) (r : S_api_Tally) (M : Mem) (hs0 : Slc (rd M) 1 (FlatR enc4) s0 a0) (h : run_tally F a0 = some r) : CallsM Tryz.prog 69 [s0] M (fun s M' => s = (.agg [(.int .i64 r.N), (.int .i64 r.Of)]) ∧ M' = M) := by
  refine CallsM.plain Tryz.func69 rfl rfl rfl (show Run _ _ _ (run_tally_post r) _ _ _ from ?_)
  rw [run_tally] at h
  replace hs0 := hs0.mono (rdLe_frozen M) (fun _ _ h => h)
  have hH := Has.nil (frozen M)
  refine Run.seq (Run.region ?_)
  refine Run.opX wantS_none rfl (ExG.new (v := fun b => .ptr b 0) (ex_alloc zer56) hH) ?_
  rintro _ M23 ⟨b22, rfl, hH23⟩
  refine Run.opsEnd (Run.seq (Run.region ?_))
  refine Run.opG wantS_none (ex_assign rfl) rfl ?_
  refine Run.opsEnd (Run.seq (Run.seq (Run.region ?_)))
  refine Run.opG wantS_none (ex_move rfl) rfl ?_
  refine Run.opG wantS_none (ex_len' rfl hs0 lenk48) rfl ?_
  refine Run.opG wantS_none (ex_move rfl) rfl ?_
  refine Run.opsEnd (Run.block (Run.loop ?_))
  exact Run.pick [0, 2, 3, 6, 7, 8] (run_tally_1_ok F F a0 (0 : Int) a0 (a0.length : Int) (0 : Int) (S_api_Tally.mk 0 0) s0 s0 b22 _ _ _ hs0 hs0 hH23 h)

theorem mkk69 : makeK Tryz.prog 69 = none := by kernel_rfl
theorem cal69 : callable Tryz.prog 69 = true := by kernel_rfl
theorem elt52 : sliceElt Tryz.prog 52 = some (⟨2, 16, [(.int .i64 0), (.int .i64 0)], 56⟩ : Elt) := by kernel_rfl
theorem plan42_1_0 : planOf Tryz.prog (opsC (atC Tryz.prog 42 [1, 0])) = some [.fl 0, .fl 2, .an 1 [2], .an 3 [], .fl 4, .fl 5, .sync] := by kernel_rfl
abbrev run_plan_tallies_post (r : (List S_api_Tally)) : SV → Mem → Prop := fun s Me => ∃ q1, s = q1 ∧ Has (fun _ => none) Me [.vec 56 2 r.length q1 (r.flatMap enc56)]

def run_plan_tallies_2 (F : Nat) (hd1 : Int → Int → (List Bool) → (List Bool) → (List Bool) → Option ((List S_api_Tally))) (v15 v16 v20 : Int) (v30 : Bool) (l25 l28 l34 : (List Bool)) : Option ((List S_api_Tally)) :=
  bnd (inn l34 v20) fun o43 =>
  bnd (upd l34 o43 v30) fun l45 =>
  hd1 v15 (w64 (v16 + (1 : Int))) l25 l28 l45

theorem run_plan_tallies_2_ok (F : Nat) (hd1 : Int → Int → (List Bool) → (List Bool) → (List Bool) → Option ((List S_api_Tally))) (hhd1 : ∀ (v15 v16 : Int) (l25 l28 l34 : (List Bool)) (s25 s28 s34 : SV) (Fr : Rd) (M : Mem) (r : (List S_api_Tally)) (hH : Has Fr M [.vec 4 1 l25.length s25 (l25.flatMap enc4), .vec 4 1 l28.length s28 (l28.flatMap enc4), .vec 4 1 l34.length s34 (l34.flatMap enc4)]), hd1 v15 v16 l25 l28 l34 = some r → Run Tryz.prog ⟨⟨42, [], none⟩, []⟩ 40 (run_plan_tallies_post r) [(3, s25), (4, s28), (5, s34), (15, (.int .i64 v15)), (16, (.int .i64 v16))] [codeC Tryz.prog 42 [1, 1, 1, 0, 1, 0, 0], loopC Tryz.prog 42 [1, 1, 1, 0, 1, 0, 0], .inBlock 0, codeC Tryz.prog 42 [1, 1, 1, 1]] M) : ∀ (v15 v16 v20 : Int) (v30 : Bool) (l25 l28 l34 : (List Bool)) (s25 s28 s34 : SV) (Fr : Rd) (M : Mem) (r : (List S_api_Tally)) (hH : Has Fr M [.vec 4 1 l25.length s25 (l25.flatMap enc4), .vec 4 1 l28.length s28 (l28.flatMap enc4), .vec 4 1 l34.length s34 (l34.flatMap enc4)]), run_plan_tallies_2 F hd1 v15 v16 v20 v30 l25 l28 l34 = some r → Run Tryz.prog ⟨⟨42, [], none⟩, []⟩ 40 (run_plan_tallies_post r) [(3, s25), (4, s28), (5, s34), (15, (.int .i64 v15)), (16, (.int .i64 v16)), (19, s34), (20, (.int .i64 v20)), (30, (.bool v30))] [itemC Tryz.prog 42 [1, 1, 1, 0, 1, 0, 0, 1, 1, 0, 0, 1] 12, .inBlock 1, codeC Tryz.prog 42 [1, 1, 1, 0, 1, 0, 0, 1, 1, 1], loopC Tryz.prog 42 [1, 1, 1, 0, 1, 0, 0], .inBlock 0, codeC Tryz.prog 42 [1, 1, 1, 1]] M := by
  intro v15 v16 v20 v30 l25 l28 l34 s25 s28 s34 Fr M r hH h
  rw [run_plan_tallies_2] at h
  obtain ⟨o43, ho43, h⟩ := bnd_some h
  obtain ⟨p43, hb43, hx43⟩ := vec_place (P := Tryz.prog) (t := 48) (kk := .i64) hH (i := 2) rfl ho43 els48
  refine Run.opG wantS_none (ex_elX rfl rfl hx43) rfl ?_
  obtain ⟨l45, hl45, h⟩ := bnd_some h
  refine Run.opX wantS_none rfl (ExG.storeEl rfl rfl hH (i := 2) rfl hb43 hl45 sz4 rfl enc4_len enc4_ones) ?_
  rintro _ M46 ⟨rfl, (hH46 : Has Fr M46 [.vec 4 1 l25.length s25 (l25.flatMap enc4), .vec 4 1 l28.length s28 (l28.flatMap enc4), .vec 4 1 l45.length s34 (l45.flatMap enc4)])⟩
  refine Run.opsEnd (Run.inBlock (Run.region ?_))
  refine Run.opG wantS_none (ex_add rfl rfl) rfl ?_
  refine Run.opG wantS_none (ex_move rfl) rfl ?_
  refine Run.opsEnd (Run.inLoop ?_)
  exact Run.pick [3, 4, 5, 15, 16] (hhd1 v15 (w64 (v16 + (1 : Int))) l25 l28 l45 s25 s28 s34 _ _ _ hH46 h)

def run_plan_tallies_1 (F : Nat) : Nat → Int → Int → (List Bool) → (List Bool) → (List Bool) → Option ((List S_api_Tally))
  | 0, _, _, _, _, _ => none
  | N + 1, v15, v16, l25, l28, l34 =>
    bif (decide (v16 < v15)) then
      bnd (idx l25 v16) fun x38 =>
      bif x38 then
        bnd (idx l28 v16) fun x41 =>
        run_plan_tallies_2 F (run_plan_tallies_1 F N) v15 v16 v16 x41 l25 l28 l34
      else
        run_plan_tallies_2 F (run_plan_tallies_1 F N) v15 v16 v16 false l25 l28 l34
    else
      bnd (run_tally F l25) fun r48 =>
      bnd (run_tally F l28) fun r51 =>
      bnd (run_tally F l34) fun r54 =>
      some ([r48, r51, r54] : List S_api_Tally)

theorem run_plan_tallies_1_ok (F : Nat) : ∀ (N : Nat), ∀ (v15 v16 : Int) (l25 l28 l34 : (List Bool)) (s25 s28 s34 : SV) (Fr : Rd) (M : Mem) (r : (List S_api_Tally)) (hH : Has Fr M [.vec 4 1 l25.length s25 (l25.flatMap enc4), .vec 4 1 l28.length s28 (l28.flatMap enc4), .vec 4 1 l34.length s34 (l34.flatMap enc4)]), run_plan_tallies_1 F N v15 v16 l25 l28 l34 = some r → Run Tryz.prog ⟨⟨42, [], none⟩, []⟩ 40 (run_plan_tallies_post r) [(3, s25), (4, s28), (5, s34), (15, (.int .i64 v15)), (16, (.int .i64 v16))] [codeC Tryz.prog 42 [1, 1, 1, 0, 1, 0, 0], loopC Tryz.prog 42 [1, 1, 1, 0, 1, 0, 0], .inBlock 0, codeC Tryz.prog 42 [1, 1, 1, 1]] M := by
  intro N
  induction N with
  | zero =>
    intro v15 v16 l25 l28 l34 s25 s28 s34 Fr M r hH h
    simp [run_plan_tallies_1] at h
  | succ N ih =>
    intro v15 v16 l25 l28 l34 s25 s28 s34 Fr M r hH h
    rw [run_plan_tallies_1] at h
    refine Run.seq (Run.region ?_)
    refine Run.opG wantS_none (ex_lss rfl rfl) rfl ?_
    refine Run.opsEnd (Run.seq ?_)
    rcases btf ((decide (v16 < v15))) with hc36 | hc36
    · have h := bif_t hc36 h
      refine Run.condT' rfl hc36 ?_
      refine Run.skip (Run.seq (Run.block (Run.seq (Run.region ?_))))
      refine Run.opG wantS_none (ex_move rfl) rfl ?_
      refine Run.opG wantS_none (ex_assign rfl) rfl ?_
      refine Run.opsEnd (Run.region ?_)
      refine Run.opG wantS_none (ex_move rfl) rfl ?_
      refine Run.opG wantS_none (ex_move rfl) rfl ?_
      refine Run.opG wantS_none (ex_move rfl) rfl ?_
      refine Run.opG wantS_none (ex_move rfl) rfl ?_
      obtain ⟨x38, hx38, h⟩ := bnd_some h
      obtain ⟨p38, o38, hb38, hx38, he38⟩ := vec_elem (P := Tryz.prog) (t := 48) (kk := .i64) hH (i := 0) rfl hx38 els48
      refine Run.opG wantS_none (ex_elX rfl rfl hx38) rfl ?_
      refine Run.opG wantS_none (ex_load1 rfl (hH.at (enc := enc4) (a := x38) (i := 0) rfl hb38 he38 enc4_len) rdLe_rfl agg4) rfl ?_
      refine Run.opG wantS_none (ex_move rfl) rfl ?_
      rcases btf (x38) with hc39 | hc39
      · have h := bif_t hc39 h
        refine Run.opG (wantS_yes' rfl rfl hc39) (ex_move rfl) rfl ?_
        refine Run.opG (wantS_yes' rfl rfl hc39) (ex_move rfl) rfl ?_
        obtain ⟨x41, hx41, h⟩ := bnd_some h
        obtain ⟨p41, o41, hb41, hx41, he41⟩ := vec_elem (P := Tryz.prog) (t := 48) (kk := .i64) hH (i := 1) rfl hx41 els48
        refine Run.opG (wantS_yes' rfl rfl hc39) (ex_elX rfl rfl hx41) rfl ?_
        refine Run.opG (wantS_yes' rfl rfl hc39) (ex_load1 rfl (hH.at (enc := enc4) (a := x41) (i := 1) rfl hb41 he41 enc4_len) rdLe_rfl agg4) rfl ?_
        refine Run.opG wantS_none (ex_pickT' rfl hc39 rfl rfl) rfl ?_
        exact Run.pick [3, 4, 5, 15, 16, 19, 20, 30] (run_plan_tallies_2_ok F (run_plan_tallies_1 F N) ih v15 v16 v16 x41 l25 l28 l34 s25 s28 s34 _ _ _ hH h)
      · have h := bif_f hc39 h
        refine Run.no (wantS_not' rfl rfl hc39) rfl ?_
        refine Run.no (wantS_not' rfl rfl hc39) rfl ?_
        refine Run.no (wantS_not' rfl rfl hc39) rfl ?_
        refine Run.no (wantS_not' rfl rfl hc39) rfl ?_
        refine Run.opG wantS_none (ex_pickF' rfl hc39 rfl rfl) rfl ?_
        exact Run.pick [3, 4, 5, 15, 16, 19, 20, 30] (run_plan_tallies_2_ok F (run_plan_tallies_1 F N) ih v15 v16 v16 false l25 l28 l34 s25 s28 s34 _ _ _ hH h)
    · have h := bif_f hc36 h
      refine Run.condF' rfl hc36 ?_
      refine Run.exit rfl (Run.seq (Run.region ?_))
      refine Run.opG wantS_none (ex_move rfl) rfl ?_
      obtain ⟨r48, hr48, h⟩ := bnd_some h
      refine Run.callP wantS_none (ex_call rfl mkk69 cal69) rfl (run_tally_ok F l25 s25 _ _ (hH.slc (i := 0) rfl enc4_len) hr48) ?_
      refine Run.opG wantS_none (ex_move rfl) rfl ?_
      obtain ⟨r51, hr51, h⟩ := bnd_some h
      refine Run.callP wantS_none (ex_call rfl mkk69 cal69) rfl (run_tally_ok F l28 s28 _ _ (hH.slc (i := 1) rfl enc4_len) hr51) ?_
      refine Run.opG wantS_none (ex_move rfl) rfl ?_
      obtain ⟨r54, hr54, h⟩ := bnd_some h
      refine Run.callP wantS_none (ex_call rfl mkk69 cal69) rfl (run_tally_ok F l34 s34 _ _ (hH.slc (i := 2) rfl enc4_len) hr54) ?_
      refine Run.opX wantS_none rfl (ExG.built (enc := enc56) (l := ([r48, r51, r54] : List S_api_Tally)) (z := 2) rfl elt52 rfl rfl rfl enc56_len hH) ?_
      rintro s57 M58 (hH58 : Has Fr M58 [.vec 56 2 ([r48, r51, r54] : List S_api_Tally).length s57 (([r48, r51, r54] : List S_api_Tally).flatMap enc56), .vec 4 1 l25.length s25 (l25.flatMap enc4), .vec 4 1 l28.length s28 (l28.flatMap enc4), .vec 4 1 l34.length s34 (l34.flatMap enc4)])
      refine Run.opG wantS_none (ex_assign rfl) rfl ?_
      refine Run.opsEnd ?_
      cases h
      exact Run.ret Tryz.func42 rfl (res_tmp rfl res_nil) ⟨_, rfl, (hH58.pick [0] rfl rfl).upF (none_le _)⟩

def run_plan_tallies (F : Nat) (a0 : S_run_plan) : Option ((List S_api_Tally)) :=
  bnd (run_plan_quiet F a0 (0 : Int)) fun r24 =>
  bnd (run_plan_quiet F a0 (1 : Int)) fun r27 =>
  bnd (run_plan_span F a0) fun r31 =>
  bnd (mk r31 1 false) fun l34 =>
  run_plan_tallies_1 F F (l34.length : Int) (0 : Int) r24 r27 l34

theorem run_plan_tallies_ok (F : Nat) (a0 : S_run_plan) (s0 s1 s2 s3 s4 s5 : SV) (r : (List S_api_Tally)) (M : Mem) (hs0 : Slc (rd M) 3 (FlatR enc43) s0 a0.duties) (hs1 : Slc (rd M) 2 (FlatR enc106) s1 a0.work) (hs2 : Slc (rd M) 2 (rep127 (rd M)) s2 a0.vetoes.e0) (hs3 : Slc (rd M) 2 (rep127 (rd M)) s3 a0.vetoes.e1) (hs4 : Slc (rd M) 1 (FlatR enc3) s4 a0.data.e0) (hs5 : Slc (rd M) 1 (FlatR enc3) s5 a0.data.e1) (h : run_plan_tallies F a0 = some r) : CallsM Tryz.prog 42 [(.agg [s0, s1, s2, s3, s4, s5])] M (fun s M' => ∃ q1, s = q1 ∧ New M M' [.vec 56 2 r.length q1 (r.flatMap enc56)]) := by
  refine CallsM.fresh (Q := run_plan_tallies_post r) Tryz.func42 rfl rfl ?_ (by rintro s Me ⟨q1, rfl, hx⟩ ha hw; exact ⟨_, rfl, New.of rfl hx ha hw⟩)
  rw [run_plan_tallies] at h
  replace hs0 := hs0.mono (rdLe_frozen M) (fun _ _ h => h)
  replace hs1 := hs1.mono (rdLe_frozen M) (fun _ _ h => h)
  replace hs2 := hs2.mono (rdLe_frozen M) (fun _ _ => rep127_mo (rdLe_frozen M))
  replace hs3 := hs3.mono (rdLe_frozen M) (fun _ _ => rep127_mo (rdLe_frozen M))
  replace hs4 := hs4.mono (rdLe_frozen M) (fun _ _ h => h)
  replace hs5 := hs5.mono (rdLe_frozen M) (fun _ _ h => h)
  have hH := Has.nil (frozen M)
  refine Run.seq (Run.region ?_)
  refine Run.opX wantS_none rfl (ExG.box rfl rfl hH) ?_
  rintro _ M23 ⟨b22, rfl, hH23⟩
  refine Run.opG wantS_none (ex_assign rfl) rfl ?_
  refine Run.opsEnd (Run.seq ?_)
  refine Run.drawG plan42_1_0 ?_
  refine DrawG.fl rfl (ev_ex wantS_none (ex_loadA rfl (hH23.cells (i := 0) rfl 0 rfl) rdLe_rfl agg85 rfl rfl rfl)) rfl ?_
  refine DrawG.fl rfl (ev_ex wantS_none (ex_loadA rfl (hH23.cells (i := 0) rfl 0 rfl) rdLe_rfl agg85 rfl rfl rfl)) rfl ?_
  obtain ⟨r24, hr24, h⟩ := bnd_some h
  refine DrawG.call rfl wantS_none (ex_call rfl mkk40 cal40) rfl (run_plan_quiet_ok F a0 (0 : Int) s0 s1 s2 s3 s4 s5 _ _ (hH23.slcF hs0) (hH23.slcF hs1) ((hs2).mono hH23.le (fun _ _ => rep127_mo hH23.le)) ((hs3).mono hH23.le (fun _ _ => rep127_mo hH23.le)) (hH23.slcF hs4) (hH23.slcF hs5) hr24) ?_
  rintro s24_0 M26 ⟨_, rfl, hN24⟩
  have hH26 : Has (ro (frozen M)) M26 [.vec 4 1 r24.length s24_0 (r24.flatMap enc4), .obj b22 (.row 85 .whole [s0, s1, s2, s3, s4, s5])] := hN24.1 _ _ hH23
  refine ⟨(st_cons rfl (ev_ex wantS_none (ex_loadA rfl (hH26.cells (i := 1) rfl 0 rfl) rdLe_rfl agg85 rfl rfl rfl)) rfl rfl (self_agg (self_cons (slc_self hs0) (self_cons (slc_self hs1) (self_cons (slc_self hs2) (self_cons (slc_self hs3) (self_cons (slc_self hs4) (self_cons (slc_self hs5) self_nil))))))) st_nil), ?_⟩
  obtain ⟨r27, hr27, h⟩ := bnd_some h
  refine DrawG.call rfl wantS_none (ex_call rfl mkk40 cal40) rfl (run_plan_quiet_ok F a0 (1 : Int) s0 s1 s2 s3 s4 s5 _ _ (hH26.slcF hs0) (hH26.slcF hs1) ((hs2).mono hH26.le (fun _ _ => rep127_mo hH26.le)) ((hs3).mono hH26.le (fun _ _ => rep127_mo hH26.le)) (hH26.slcF hs4) (hH26.slcF hs5) hr27) ?_
  rintro s27_0 M29 ⟨_, rfl, hN27⟩
  have hH29 : Has (ro (frozen M)) M29 [.vec 4 1 r27.length s27_0 (r27.flatMap enc4), .vec 4 1 r24.length s24_0 (r24.flatMap enc4), .obj b22 (.row 85 .whole [s0, s1, s2, s3, s4, s5])] := hN27.1 _ _ hH26
  refine ⟨st_nil, ?_⟩
  refine DrawG.fl rfl (ev_ex wantS_none (ex_assign rfl)) rfl ?_
  refine DrawG.fl rfl (ev_ex wantS_none (ex_assign rfl)) rfl ?_
  refine DrawG.sync ?_
  refine DrawG.nil ?_
  refine Run.seq (Run.region ?_)
  refine Run.opG wantS_none (ex_loadA rfl (hH29.cells (i := 2) rfl 0 rfl) rdLe_rfl agg85 rfl rfl rfl) rfl ?_
  obtain ⟨r31, hr31, h⟩ := bnd_some h
  refine Run.callP wantS_none (ex_call rfl mkk37 cal37) rfl (run_plan_span_ok F a0 s0 s1 s2 s3 s4 s5 _ _ (hH29.slcF hs0) (hH29.slcF hs1) ((hs2).mono hH29.le (fun _ _ => rep127_mo hH29.le)) ((hs3).mono hH29.le (fun _ _ => rep127_mo hH29.le)) (hH29.slcF hs4) (hH29.slcF hs5) hr31) ?_
  obtain ⟨l34, hl34, h⟩ := bnd_some h
  refine Run.opX wantS_none rfl (ExG.make (enc := enc4) (z := 1) rfl rfl hl34 elt48 rfl rfl enc4_len hH29) ?_
  rintro s34 M35 (hH35 : Has (ro (frozen M)) M35 [.vec 4 1 l34.length s34 (l34.flatMap enc4), .vec 4 1 r27.length s27_0 (r27.flatMap enc4), .vec 4 1 r24.length s24_0 (r24.flatMap enc4), .obj b22 (.row 85 .whole [s0, s1, s2, s3, s4, s5])])
  refine Run.opG wantS_none (ex_assign rfl) rfl ?_
  refine Run.opsEnd (Run.seq (Run.seq (Run.region ?_)))
  refine Run.opG wantS_none (ex_move rfl) rfl ?_
  refine Run.opG wantS_none (ex_len' rfl (hH35.slc (i := 0) rfl enc4_len) lenk48) rfl ?_
  refine Run.opG wantS_none (ex_move rfl) rfl ?_
  refine Run.opsEnd (Run.block (Run.loop ?_))
  exact Run.pick [3, 4, 5, 15, 16] (run_plan_tallies_1_ok F F (l34.length : Int) (0 : Int) r24 r27 l34 s24_0 s27_0 s34 _ _ _ (hH35.pick [2, 1, 0] rfl rfl) h)

theorem mkk42 : makeK Tryz.prog 42 = none := by kernel_rfl
theorem cal42 : callable Tryz.prog 42 = true := by kernel_rfl
abbrev run_Duty_post (r : (List S_api_Tally) × Int) : SV → Mem → Prop := fun s Me => ∃ q1, s = (.tuple [q1, (.int .i64 r.2)]) ∧ Has (fun _ => none) Me [.vec 56 2 r.1.length q1 (r.1.flatMap enc56)]

def run_Duty (F : Nat) (a0 : S_api_Plan) : Option ((List S_api_Tally) × Int) :=
  bnd (run_Check F a0) fun r25 =>
  bif (!(r25 == (0 : Int))) then
    some (([] : List S_api_Tally), r25)
  else
    bnd (run_plan_tallies F (S_run_plan.mk a0.Duties a0.Work a0.Vetoes a0.Data)) fun r39 =>
    some (r39, (0 : Int))

theorem run_Duty_ok (F : Nat) (a0 : S_api_Plan) (s0 s1 s2 s3 s4 s5 : SV) (r : (List S_api_Tally) × Int) (M : Mem) (hs0 : Slc (rd M) 3 (FlatR enc43) s0 a0.Duties) (hs1 : Slc (rd M) 2 (FlatR enc106) s1 a0.Work) (hs2 : Slc (rd M) 2 (rep127 (rd M)) s2 a0.Vetoes.e0) (hs3 : Slc (rd M) 2 (rep127 (rd M)) s3 a0.Vetoes.e1) (hs4 : Slc (rd M) 1 (FlatR enc3) s4 a0.Data.e0) (hs5 : Slc (rd M) 1 (FlatR enc3) s5 a0.Data.e1) (h : run_Duty F a0 = some r) : CallsM Tryz.prog 17 [(.agg [s0, s1, s2, s3, s4, s5])] M (fun s M' => ∃ q1, s = (.tuple [q1, (.int .i64 r.2)]) ∧ New M M' [.vec 56 2 r.1.length q1 (r.1.flatMap enc56)]) := by
  refine CallsM.fresh (Q := run_Duty_post r) Tryz.func17 rfl rfl ?_ (by rintro s Me ⟨q1, rfl, hx⟩ ha hw; exact ⟨_, rfl, New.of rfl hx ha hw⟩)
  rw [run_Duty] at h
  replace hs0 := hs0.mono (rdLe_frozen M) (fun _ _ h => h)
  replace hs1 := hs1.mono (rdLe_frozen M) (fun _ _ h => h)
  replace hs2 := hs2.mono (rdLe_frozen M) (fun _ _ => rep127_mo (rdLe_frozen M))
  replace hs3 := hs3.mono (rdLe_frozen M) (fun _ _ => rep127_mo (rdLe_frozen M))
  replace hs4 := hs4.mono (rdLe_frozen M) (fun _ _ h => h)
  replace hs5 := hs5.mono (rdLe_frozen M) (fun _ _ h => h)
  have hH := Has.nil (frozen M)
  refine Run.seq (Run.region ?_)
  refine Run.opX wantS_none rfl (ExG.box rfl rfl hH) ?_
  rintro _ M23 ⟨b22, rfl, hH23⟩
  refine Run.opG wantS_none (ex_assign rfl) rfl ?_
  refine Run.opG wantS_none (ex_assign rfl) rfl ?_
  refine Run.opsEnd (Run.seq (Run.seq (Run.region ?_)))
  refine Run.opG wantS_none (ex_loadA rfl (hH23.cells (i := 0) rfl 0 rfl) rdLe_rfl agg38 rfl rfl rfl) rfl ?_
  obtain ⟨r25, hr25, h⟩ := bnd_some h
  refine Run.callP wantS_none (ex_call rfl mkk12 cal12) rfl (run_Check_ok F a0 s0 s1 s2 s3 s4 s5 _ _ (hH23.slcF hs0) (hH23.slcF hs1) ((hs2).mono hH23.le (fun _ _ => rep127_mo hH23.le)) ((hs3).mono hH23.le (fun _ _ => rep127_mo hH23.le)) (hH23.slcF hs4) (hH23.slcF hs5) hr25) ?_
  refine Run.opG wantS_none (ex_assign rfl) rfl ?_
  refine Run.opsEnd (Run.seq (Run.region ?_))
  refine Run.opG wantS_none (ex_move rfl) rfl ?_
  refine Run.opG wantS_none (ex_neq rfl rfl) rfl ?_
  refine Run.opsEnd ?_
  rcases btf ((!(r25 == (0 : Int)))) with hc27 | hc27
  · have h := bif_t hc27 h
    refine Run.condT' rfl hc27 ?_
    refine Run.seq (Run.region ?_)
    refine Run.opG wantS_none (ex_move rfl) rfl ?_
    refine Run.opG wantS_none (ex_assign rfl) rfl ?_
    refine Run.opG wantS_none (ex_assign rfl) rfl ?_
    refine Run.opsEnd ?_
    have hH29 : Has (ro (frozen M)) M23 [.vec 56 2 ([] : List S_api_Tally).length .nils (([] : List S_api_Tally).flatMap enc56), .obj b22 (.row 38 .whole [s0, s1, s2, s3, s4, s5])] := hH23.nils 56 2
    cases h
    exact Run.ret Tryz.func17 rfl (res_tmp rfl (res_tmp rfl res_nil)) ⟨_, rfl, (hH29.pick [0] rfl rfl).upF (none_le _)⟩
  · have h := bif_f hc27 h
    refine Run.condF' rfl hc27 ?_
    refine Run.skip (Run.seq (Run.region ?_))
    refine Run.opG wantS_none (ex_loadA rfl (hH23.cells (i := 0) rfl 0 rfl) rdLe_rfl agg38 rfl rfl rfl) rfl ?_
    refine Run.enter wantS_none (ex_call rfl mkk35 cal35) Tryz.func35 rfl rfl ?_
    refine Run.seq (Run.region ?_)
    refine Run.opX wantS_none rfl (ExG.box rfl rfl hH23) ?_
    rintro _ M32 ⟨b31, rfl, hH32⟩
    refine Run.opX wantS_none rfl (ExG.new (v := fun b => .ptr b 0) (ex_alloc zer85) hH32) ?_
    rintro _ M35 ⟨b34, rfl, hH35⟩
    refine Run.opsEnd (Run.seq (Run.region ?_))
    refine Run.opG wantS_none (ex_fieldAddr rfl off38_0) rfl ?_
    refine Run.opG wantS_none (ex_load1 rfl (hH35.cells (i := 1) rfl 0 rfl) rdLe_rfl agg32) rfl ?_
    refine Run.opG wantS_none (ex_fieldAddr rfl off38_1) rfl ?_
    refine Run.opG wantS_none (ex_load1 rfl (hH35.cells (i := 1) rfl 1 rfl) rdLe_rfl agg33) rfl ?_
    refine Run.opG wantS_none (ex_fieldAddr rfl off38_2) rfl ?_
    refine Run.opG wantS_none (ex_loadA rfl (hH35.cells (i := 1) rfl 2 rfl) rdLe_rfl agg35 rfl rfl rfl) rfl ?_
    refine Run.opG wantS_none (ex_fieldAddr rfl off38_3) rfl ?_
    refine Run.opG wantS_none (ex_loadA rfl (hH35.cells (i := 1) rfl 4 rfl) rdLe_rfl agg36 rfl rfl rfl) rfl ?_
    refine Run.opG wantS_none (ex_build (r := [s0, s1, s2, s3, s4, s5]) rfl zer85 pls85 (by simp only [fillS, cells_one (slc_one hs0), cells_one (slc_one hs1)]; rfl)) rfl ?_
    refine Run.opX wantS_none rfl (ExG.storeC (c' := [s0, s1, s2, s3, s4, s5]) rfl rfl rfl hH35 (i := 0) rfl sz85 rfl rfl rfl (ones_cons (slc_one hs0) (ones_cons (slc_one hs1) (ones_cons (slc_one hs2) (ones_cons (slc_one hs3) (ones_cons (slc_one hs4) (ones_cons (slc_one hs5) ones_nil)))))) rfl) ?_
    rintro _ M36 ⟨rfl, (hH36 : Has (ro (frozen M)) M36 [.obj b34 (.row 85 .whole [s0, s1, s2, s3, s4, s5]), .obj b31 (.row 38 .whole [s0, s1, s2, s3, s4, s5]), .obj b22 (.row 38 .whole [s0, s1, s2, s3, s4, s5])])⟩
    refine Run.opsEnd ?_
    refine Run.retTo Tryz.func35 rfl (res_cell rfl (x_load (ex_loadA rfl (hH36.cells (i := 0) rfl 0 rfl) rdLe_rfl agg85 rfl rfl rfl)) res_nil) rfl ?_
    obtain ⟨r39, hr39, h⟩ := bnd_some h
    refine Run.callX wantS_none (ex_call rfl mkk42 cal42) rfl (run_plan_tallies_ok F (S_run_plan.mk a0.Duties a0.Work a0.Vetoes a0.Data) s0 s1 s2 s3 s4 s5 _ _ (hH36.slcF hs0) (hH36.slcF hs1) ((hs2).mono hH36.le (fun _ _ => rep127_mo hH36.le)) ((hs3).mono hH36.le (fun _ _ => rep127_mo hH36.le)) (hH36.slcF hs4) (hH36.slcF hs5) hr39) ?_
    rintro s39_0 M41 ⟨_, rfl, hN39⟩
    have hH41 : Has (ro (frozen M)) M41 [.vec 56 2 r39.length s39_0 (r39.flatMap enc56), .obj b34 (.row 85 .whole [s0, s1, s2, s3, s4, s5]), .obj b31 (.row 38 .whole [s0, s1, s2, s3, s4, s5]), .obj b22 (.row 38 .whole [s0, s1, s2, s3, s4, s5])] := hN39.1 _ _ hH36
    refine Run.opG wantS_none (ex_assign rfl) rfl ?_
    refine Run.opG wantS_none (ex_assign rfl) rfl ?_
    refine Run.opsEnd ?_
    cases h
    exact Run.ret Tryz.func17 rfl (res_tmp rfl (res_tmp rfl res_nil)) ⟨_, rfl, (hH41.pick [0] rfl rfl).upF (none_le _)⟩

theorem mkk17 : makeK Tryz.prog 17 = none := by kernel_rfl
theorem cal17 : callable Tryz.prog 17 = true := by kernel_rfl
theorem plan10_1_1_0_1_0_0_1_0_0_0 : planOf Tryz.prog (opsC (atC Tryz.prog 10 [1, 1, 0, 1, 0, 0, 1, 0, 0, 0])) = some [.fl 0, .fl 1, .fl 2, .fl 3, .fl 4, .fl 5, .fl 6, .fl 7, .fl 8, .sync] := by kernel_rfl
abbrev ref00_SameInts_post (r : Bool) : SV → Mem → Prop := fun s _ => s = (.bool r)

def ref00_SameInts_1 (F : Nat) : Nat → (List Int) → (List Int) → Int → Option (Bool)
  | 0, _, _, _ => none
  | N + 1, v0, v1, v5 =>
    bif (decide (v5 < (v0.length : Int))) then
      bnd (idx v0 v5) fun x23 =>
      bnd (idx v1 v5) fun x24 =>
      bif (!(x23 == x24)) then
        some false
      else
        (ref00_SameInts_1 F N) v0 v1 (w64 (v5 + (1 : Int)))
    else
      some true

theorem ref00_SameInts_1_ok (F : Nat) : ∀ (N : Nat), ∀ (v0 v1 : (List Int)) (v5 : Int) (sv0 sv1 : SV) (Fr : Rd) (M : Mem) (r : Bool) (hv0 : Slc Fr 1 (FlatR enc3) sv0 v0) (hv1 : Slc Fr 1 (FlatR enc3) sv1 v1) (hH : Has Fr M []), ref00_SameInts_1 F N v0 v1 v5 = some r → Run Tryz.prog ⟨⟨10, [], none⟩, []⟩ 26 (ref00_SameInts_post r) [(0, sv0), (1, sv1), (5, (.int .i64 v5))] [codeC Tryz.prog 10 [1, 1, 0, 1, 0, 0], loopC Tryz.prog 10 [1, 1, 0, 1, 0, 0], .inBlock 0, codeC Tryz.prog 10 [1, 1, 1]] M := by
  intro N
  induction N with
  | zero =>
    intro v0 v1 v5 sv0 sv1 Fr M r hv0 hv1 hH h
    simp [ref00_SameInts_1] at h
  | succ N ih =>
    intro v0 v1 v5 sv0 sv1 Fr M r hv0 hv1 hH h
    rw [ref00_SameInts_1] at h
    refine Run.seq (Run.seq (Run.region ?_))
    refine Run.opG wantS_none (ex_move rfl) rfl ?_
    refine Run.opG wantS_none (ex_move rfl) rfl ?_
    refine Run.opG wantS_none (ex_len' rfl hv0 lenk24) rfl ?_
    refine Run.opG wantS_none (ex_lss rfl rfl) rfl ?_
    refine Run.opsEnd ?_
    rcases btf ((decide (v5 < (v0.length : Int)))) with hc22 | hc22
    · have h := bif_t hc22 h
      refine Run.condT' rfl hc22 ?_
      refine Run.skip (Run.seq (Run.block (Run.seq ?_)))
      refine Run.drawG plan10_1_1_0_1_0_0_1_0_0_0 ?_
      refine DrawG.fl rfl (ev_ex wantS_none (ex_move rfl)) rfl ?_
      refine DrawG.fl rfl (ev_ex wantS_none (ex_move rfl)) rfl ?_
      obtain ⟨x23, hx23, h⟩ := bnd_some h
      obtain ⟨p23, o23, _, hx23, hp23, rfl⟩ := sl_elem (P := Tryz.prog) (t := 24) (kk := .i64) hv0 hx23 els24
      refine DrawG.fl rfl (ev_ex wantS_none (ex_elX rfl rfl hx23)) rfl ?_
      refine DrawG.fl rfl (ev_ex wantS_none (ex_load1 rfl (hH.ptrF hp23) rdLe_rfl agg3)) rfl ?_
      refine DrawG.fl rfl (ev_ex wantS_none (ex_move rfl)) rfl ?_
      refine DrawG.fl rfl (ev_ex wantS_none (ex_move rfl)) rfl ?_
      obtain ⟨x24, hx24, h⟩ := bnd_some h
      obtain ⟨p24, o24, _, hx24, hp24, rfl⟩ := sl_elem (P := Tryz.prog) (t := 24) (kk := .i64) hv1 hx24 els24
      refine DrawG.fl rfl (ev_ex wantS_none (ex_elX rfl rfl hx24)) rfl ?_
      refine DrawG.fl rfl (ev_ex wantS_none (ex_load1 rfl (hH.ptrF hp24) rdLe_rfl agg3)) rfl ?_
      refine DrawG.fl rfl (ev_ex wantS_none (ex_neq rfl rfl)) rfl ?_
      refine DrawG.sync ?_
      refine DrawG.nil ?_
      rcases btf ((!(x23 == x24))) with hc25 | hc25
      · have h := bif_t hc25 h
        refine Run.condT' rfl hc25 ?_
        refine Run.seq (Run.region ?_)
        refine Run.opG wantS_none (ex_assign rfl) rfl ?_
        refine Run.opsEnd ?_
        cases h
        exact Run.ret Tryz.func10 rfl (res_tmp rfl res_nil) rfl
      · have h := bif_f hc25 h
        refine Run.condF' rfl hc25 ?_
        refine Run.skip (Run.inBlock (Run.region ?_))
        refine Run.opG wantS_none (ex_move rfl) rfl ?_
        refine Run.opG wantS_none (ex_add rfl rfl) rfl ?_
        refine Run.opG wantS_none (ex_assign rfl) rfl ?_
        refine Run.opsEnd (Run.inLoop ?_)
        exact Run.pick [0, 1, 5] (ih v0 v1 (w64 (v5 + (1 : Int))) sv0 sv1 _ _ _ hv0 hv1 hH h)
    · have h := bif_f hc22 h
      refine Run.condF' rfl hc22 ?_
      refine Run.exit rfl (Run.seq (Run.region ?_))
      refine Run.opG wantS_none (ex_assign rfl) rfl ?_
      refine Run.opsEnd ?_
      cases h
      exact Run.ret Tryz.func10 rfl (res_tmp rfl res_nil) rfl

def ref00_SameInts (F : Nat) (a0 a1 : (List Int)) : Option (Bool) :=
  bif (!((a0.length : Int) == (a1.length : Int))) then
    some false
  else
    ref00_SameInts_1 F F a0 a1 (0 : Int)

theorem ref00_SameInts_ok (F : Nat) (a0 a1 : (List Int)) (s0 s1 : SV) (r : Bool) (M : Mem) (hs0 : Slc (rd M) 1 (FlatR enc3) s0 a0) (hs1 : Slc (rd M) 1 (FlatR enc3) s1 a1) (h : ref00_SameInts F a0 a1 = some r) : CallsM Tryz.prog 10 [s0, s1] M (fun s M' => s = (.bool r) ∧ M' = M) := by
  refine CallsM.plain Tryz.func10 rfl rfl rfl (show Run _ _ _ (ref00_SameInts_post r) _ _ _ from ?_)
  rw [ref00_SameInts] at h
  replace hs0 := hs0.mono (rdLe_frozen M) (fun _ _ h => h)
  replace hs1 := hs1.mono (rdLe_frozen M) (fun _ _ h => h)
  have hH := Has.nil (frozen M)
  refine Run.seq (Run.region ?_)
  refine Run.opG wantS_none (ex_assign rfl) rfl ?_
  refine Run.opsEnd (Run.seq (Run.seq (Run.region ?_)))
  refine Run.opG wantS_none (ex_move rfl) rfl ?_
  refine Run.opG wantS_none (ex_len' rfl hs0 lenk24) rfl ?_
  refine Run.opG wantS_none (ex_move rfl) rfl ?_
  refine Run.opG wantS_none (ex_len' rfl hs1 lenk24) rfl ?_
  refine Run.opG wantS_none (ex_neq rfl rfl) rfl ?_
  refine Run.opsEnd ?_
  rcases btf ((!((a0.length : Int) == (a1.length : Int)))) with hc21 | hc21
  · have h := bif_t hc21 h
    refine Run.condT' rfl hc21 ?_
    refine Run.seq (Run.region ?_)
    refine Run.opG wantS_none (ex_assign rfl) rfl ?_
    refine Run.opsEnd ?_
    cases h
    exact Run.ret Tryz.func10 rfl (res_tmp rfl res_nil) rfl
  · have h := bif_f hc21 h
    refine Run.condF' rfl hc21 ?_
    refine Run.skip (Run.seq (Run.seq (Run.region ?_)))
    refine Run.opG wantS_none (ex_assign rfl) rfl ?_
    refine Run.opsEnd (Run.block (Run.loop ?_))
    exact Run.pick [0, 1, 5] (ref00_SameInts_1_ok F F a0 a1 (0 : Int) s0 s1 _ _ _ hs0 hs1 hH h)

theorem mkk10 : makeK Tryz.prog 10 = none := by kernel_rfl
theorem cal10 : callable Tryz.prog 10 = true := by kernel_rfl
theorem off46_2 : fieldOff Tryz.prog 46 2 = some 2 := by kernel_rfl
abbrev ref00_Find_post (r : Int) : SV → Mem → Prop := fun s _ => s = (.int .i64 r)

def ref00_Find_1 (F : Nat) : Nat → (List Int) → Int → Int → Option (Int)
  | 0, _, _, _ => none
  | N + 1, v0, v1, v5 =>
    bif (decide (v5 < (v0.length : Int))) then
      bnd (idx v0 v5) fun x23 =>
      bif (x23 == v1) then
        some v5
      else
        (ref00_Find_1 F N) v0 v1 (w64 (v5 + (1 : Int)))
    else
      some ((-1) : Int)

theorem ref00_Find_1_ok (F : Nat) : ∀ (N : Nat), ∀ (v0 : (List Int)) (v1 v5 : Int) (sv0 : SV) (Fr : Rd) (M : Mem) (r : Int) (hv0 : Slc Fr 1 (FlatR enc3) sv0 v0) (hH : Has Fr M []), ref00_Find_1 F N v0 v1 v5 = some r → Run Tryz.prog ⟨⟨18, [], none⟩, []⟩ 19 (ref00_Find_post r) [(0, sv0), (1, (.int .i64 v1)), (5, (.int .i64 v5))] [codeC Tryz.prog 18 [1, 0, 1, 0, 0], loopC Tryz.prog 18 [1, 0, 1, 0, 0], .inBlock 0, codeC Tryz.prog 18 [1, 1]] M := by
  intro N
  induction N with
  | zero =>
    intro v0 v1 v5 sv0 Fr M r hv0 hH h
    simp [ref00_Find_1] at h
  | succ N ih =>
    intro v0 v1 v5 sv0 Fr M r hv0 hH h
    rw [ref00_Find_1] at h
    refine Run.seq (Run.seq (Run.region ?_))
    refine Run.opG wantS_none (ex_move rfl) rfl ?_
    refine Run.opG wantS_none (ex_move rfl) rfl ?_
    refine Run.opG wantS_none (ex_len' rfl hv0 lenk24) rfl ?_
    refine Run.opG wantS_none (ex_lss rfl rfl) rfl ?_
    refine Run.opsEnd ?_
    rcases btf ((decide (v5 < (v0.length : Int)))) with hc21 | hc21
    · have h := bif_t hc21 h
      refine Run.condT' rfl hc21 ?_
      refine Run.skip (Run.seq (Run.block (Run.seq (Run.region ?_))))
      refine Run.opG wantS_none (ex_move rfl) rfl ?_
      refine Run.opG wantS_none (ex_move rfl) rfl ?_
      obtain ⟨x23, hx23, h⟩ := bnd_some h
      obtain ⟨p23, o23, _, hx23, hp23, rfl⟩ := sl_elem (P := Tryz.prog) (t := 24) (kk := .i64) hv0 hx23 els24
      refine Run.opG wantS_none (ex_elX rfl rfl hx23) rfl ?_
      refine Run.opG wantS_none (ex_load1 rfl (hH.ptrF hp23) rdLe_rfl agg3) rfl ?_
      refine Run.opG wantS_none (ex_move rfl) rfl ?_
      refine Run.opG wantS_none (ex_eql rfl rfl) rfl ?_
      refine Run.opsEnd ?_
      rcases btf ((x23 == v1)) with hc24 | hc24
      · have h := bif_t hc24 h
        refine Run.condT' rfl hc24 ?_
        refine Run.seq (Run.region ?_)
        refine Run.opG wantS_none (ex_move rfl) rfl ?_
        refine Run.opG wantS_none (ex_assign rfl) rfl ?_
        refine Run.opsEnd ?_
        cases h
        exact Run.ret Tryz.func18 rfl (res_tmp rfl res_nil) rfl
      · have h := bif_f hc24 h
        refine Run.condF' rfl hc24 ?_
        refine Run.skip (Run.inBlock (Run.region ?_))
        refine Run.opG wantS_none (ex_move rfl) rfl ?_
        refine Run.opG wantS_none (ex_add rfl rfl) rfl ?_
        refine Run.opG wantS_none (ex_assign rfl) rfl ?_
        refine Run.opsEnd (Run.inLoop ?_)
        exact Run.pick [0, 1, 5] (ih v0 v1 (w64 (v5 + (1 : Int))) sv0 _ _ _ hv0 hH h)
    · have h := bif_f hc21 h
      refine Run.condF' rfl hc21 ?_
      refine Run.exit rfl (Run.seq (Run.region ?_))
      refine Run.opG wantS_none (ex_assign rfl) rfl ?_
      refine Run.opsEnd ?_
      cases h
      exact Run.ret Tryz.func18 rfl (res_tmp rfl res_nil) rfl

def ref00_Find (F : Nat) (a0 : (List Int)) (a1 : Int) : Option (Int) :=
  ref00_Find_1 F F a0 a1 (0 : Int)

theorem ref00_Find_ok (F : Nat) (a0 : (List Int)) (a1 : Int) (s0 : SV) (r : Int) (M : Mem) (hs0 : Slc (rd M) 1 (FlatR enc3) s0 a0) (h : ref00_Find F a0 a1 = some r) : CallsM Tryz.prog 18 [s0, (.int .i64 a1)] M (fun s M' => s = (.int .i64 r) ∧ M' = M) := by
  refine CallsM.plain Tryz.func18 rfl rfl rfl (show Run _ _ _ (ref00_Find_post r) _ _ _ from ?_)
  rw [ref00_Find] at h
  replace hs0 := hs0.mono (rdLe_frozen M) (fun _ _ h => h)
  have hH := Has.nil (frozen M)
  refine Run.seq (Run.region ?_)
  refine Run.opG wantS_none (ex_assign rfl) rfl ?_
  refine Run.opsEnd (Run.seq (Run.seq (Run.region ?_)))
  refine Run.opG wantS_none (ex_assign rfl) rfl ?_
  refine Run.opsEnd (Run.block (Run.loop ?_))
  exact Run.pick [0, 1, 5] (ref00_Find_1_ok F F a0 a1 (0 : Int) s0 _ _ _ hs0 hH h)

theorem mkk18 : makeK Tryz.prog 18 = none := by kernel_rfl
theorem cal18 : callable Tryz.prog 18 = true := by kernel_rfl
theorem els52 : elems Tryz.prog 52 = some (.sl 2) := by kernel_rfl
theorem agk3 : aggK Tryz.prog 3 = some .int := by kernel_rfl
theorem agk56 : aggK Tryz.prog 56 = some (.st [⟨ "N", 3, 0, false, "", "", 0⟩, ⟨ "Of", 3, 1, false, "", "", 8⟩]) := by kernel_rfl
theorem aeq56 : aggEq Tryz.prog 56 = false := by kernel_rfl
theorem off56_0 : fieldOff Tryz.prog 56 0 = some 0 := by kernel_rfl
theorem plan5_1_1_1_1_1_1_1_1_1_0_0 : planOf Tryz.prog (opsC (atC Tryz.prog 5 [1, 1, 1, 1, 1, 1, 1, 1, 1, 0, 0])) = some [.fl 0, .fl 1, .an 2 [], .fl 3, .fl 4, .fl 5, .fl 6, .fl 7, .fl 8, .fl 9, .fl 10, .fl 11, .fl 12, .fl 13, .fl 14, .fl 15, .fl 16, .fl 17, .fl 18, .fl 19, .fl 20, .fl 21, .fl 22, .fl 23, .fl 24, .fl 25, .fl 26, .fl 27, .sync] := by kernel_rfl
theorem lenk52 : lenK Tryz.prog 52 = some .sl := by kernel_rfl
abbrev law11_RunQuiet_post (r : Bool) : SV → Mem → Prop := fun s _ => s = (.bool r)

def law11_RunQuiet_1 (F : Nat) (v33 : Bool) : Option (Bool) :=
  some v33

theorem law11_RunQuiet_1_ok (F : Nat) : ∀ (v33 : Bool) (Fr : Rd) (M : Mem) (r : Bool) (hH : Has Fr M [tb0, tb1, tb2, tb3]), law11_RunQuiet_1 F v33 = some r → Run Tryz.prog ⟨⟨5, [], none⟩, []⟩ 137 (law11_RunQuiet_post r) [(33, (.bool v33))] [itemC Tryz.prog 5 [1, 1, 1, 0, 1, 0, 0] 6, codeC Tryz.prog 5 [1, 1, 1, 0, 1, 0, 1], codeC Tryz.prog 5 [1, 1, 1, 1]] M := by
  intro v33 Fr M r hH h
  rw [law11_RunQuiet_1] at h
  refine Run.opG wantS_none (ex_assign rfl) rfl ?_
  refine Run.opsEnd ?_
  cases h
  exact Run.ret Tryz.func5 rfl (res_tmp rfl res_nil) rfl

def law11_RunQuiet_5 (F : Nat) (hd4 : Int → Int → (List S_api_Duty) → (List S_api_Segment) → (List S_api_Veto) → (List S_api_Veto) → (List Int) → (List Int) → S_ringdownlaw11_Look → (List Bool) → (List Int) → (List S_api_Tally) → (List Int) → Option (Bool)) (v5 v12 : Int) (c26_0 : (List S_api_Duty)) (c26_1 : (List S_api_Segment)) (c26_2 c26_3 : (List S_api_Veto)) (c26_4 c26_5 : (List Int)) (c29 : S_ringdownlaw11_Look) (l37 : (List Bool)) (l47 : (List Int)) (l52 : (List S_api_Tally)) (l69 : (List Int)) : Option (Bool) :=
  hd4 v5 (w64 (v12 + (1 : Int))) c26_0 c26_1 c26_2 c26_3 c26_4 c26_5 c29 l37 l47 l52 l69

theorem law11_RunQuiet_5_ok (F : Nat) (hd4 : Int → Int → (List S_api_Duty) → (List S_api_Segment) → (List S_api_Veto) → (List S_api_Veto) → (List Int) → (List Int) → S_ringdownlaw11_Look → (List Bool) → (List Int) → (List S_api_Tally) → (List Int) → Option (Bool)) (hhd4 : ∀ (v5 v12 : Int) (c26_0 : (List S_api_Duty)) (c26_1 : (List S_api_Segment)) (c26_2 c26_3 : (List S_api_Veto)) (c26_4 c26_5 : (List Int)) (c29 : S_ringdownlaw11_Look) (l37 : (List Bool)) (l47 : (List Int)) (l52 : (List S_api_Tally)) (l57 : (List Int)) (sc26_0 sc26_1 sc26_2 sc26_3 sc26_4 sc26_5 : SV) (b26 b29 : Pos) (s37 s47 s52 s57 : SV) (Fr : Rd) (M : Mem) (r : Bool) (hc26_0 : Slc Fr 3 (FlatR enc43) sc26_0 c26_0) (hc26_1 : Slc Fr 2 (FlatR enc106) sc26_1 c26_1) (hc26_2 : Slc Fr 2 (rep127 Fr) sc26_2 c26_2) (hc26_3 : Slc Fr 2 (rep127 Fr) sc26_3 c26_3) (hc26_4 : Slc Fr 1 (FlatR enc3) sc26_4 c26_4) (hc26_5 : Slc Fr 1 (FlatR enc3) sc26_5 c26_5) (hH : Has Fr M [.obj b26 (.row 38 .whole [sc26_0, sc26_1, sc26_2, sc26_3, sc26_4, sc26_5]), .obj b29 (.row 46 .whole [(.int .i64 c29.Time), (.int .i64 c29.Detector), (.int .i64 c29.Length)]), .vec 4 1 l37.length s37 (l37.flatMap enc4), .vec 3 1 l47.length s47 (l47.flatMap enc3), .vec 56 2 l52.length s52 (l52.flatMap enc56), .vec 3 1 l57.length s57 (l57.flatMap enc3), tb0, tb1, tb2, tb3]), hd4 v5 v12 c26_0 c26_1 c26_2 c26_3 c26_4 c26_5 c29 l37 l47 l52 l57 = some r → Run Tryz.prog ⟨⟨5, [], none⟩, []⟩ 137 (law11_RunQuiet_post r) [(2, (.ptr b26 0)), (3, (.ptr b29 0)), (5, (.int .i64 v5)), (6, s37), (8, s47), (10, s52), (11, s57), (12, (.int .i64 v12))] [codeC Tryz.prog 5 [1, 1, 1, 1, 1, 1, 1, 1, 0, 1, 0, 0], loopC Tryz.prog 5 [1, 1, 1, 1, 1, 1, 1, 1, 0, 1, 0, 0], .inBlock 0, codeC Tryz.prog 5 [1, 1, 1, 1, 1, 1, 1, 1, 1]] M) : ∀ (v5 v12 : Int) (c26_0 : (List S_api_Duty)) (c26_1 : (List S_api_Segment)) (c26_2 c26_3 : (List S_api_Veto)) (c26_4 c26_5 : (List Int)) (c29 : S_ringdownlaw11_Look) (l37 : (List Bool)) (l47 : (List Int)) (l52 : (List S_api_Tally)) (l69 : (List Int)) (sc26_0 sc26_1 sc26_2 sc26_3 sc26_4 sc26_5 : SV) (b26 b29 : Pos) (s37 s47 s52 s69 : SV) (Fr : Rd) (M : Mem) (r : Bool) (hc26_0 : Slc Fr 3 (FlatR enc43) sc26_0 c26_0) (hc26_1 : Slc Fr 2 (FlatR enc106) sc26_1 c26_1) (hc26_2 : Slc Fr 2 (rep127 Fr) sc26_2 c26_2) (hc26_3 : Slc Fr 2 (rep127 Fr) sc26_3 c26_3) (hc26_4 : Slc Fr 1 (FlatR enc3) sc26_4 c26_4) (hc26_5 : Slc Fr 1 (FlatR enc3) sc26_5 c26_5) (hH : Has Fr M [.obj b26 (.row 38 .whole [sc26_0, sc26_1, sc26_2, sc26_3, sc26_4, sc26_5]), .obj b29 (.row 46 .whole [(.int .i64 c29.Time), (.int .i64 c29.Detector), (.int .i64 c29.Length)]), .vec 4 1 l37.length s37 (l37.flatMap enc4), .vec 3 1 l47.length s47 (l47.flatMap enc3), .vec 56 2 l52.length s52 (l52.flatMap enc56), .vec 3 1 l69.length s69 (l69.flatMap enc3), tb0, tb1, tb2, tb3]), law11_RunQuiet_5 F hd4 v5 v12 c26_0 c26_1 c26_2 c26_3 c26_4 c26_5 c29 l37 l47 l52 l69 = some r → Run Tryz.prog ⟨⟨5, [], none⟩, []⟩ 137 (law11_RunQuiet_post r) [(2, (.ptr b26 0)), (3, (.ptr b29 0)), (5, (.int .i64 v5)), (6, s37), (8, s47), (10, s52), (11, s69), (12, (.int .i64 v12))] [itemC Tryz.prog 5 [1, 1, 1, 1, 1, 1, 1, 1, 0, 1, 0, 0, 1, 1] 0, loopC Tryz.prog 5 [1, 1, 1, 1, 1, 1, 1, 1, 0, 1, 0, 0], .inBlock 0, codeC Tryz.prog 5 [1, 1, 1, 1, 1, 1, 1, 1, 1]] M := by
  intro v5 v12 c26_0 c26_1 c26_2 c26_3 c26_4 c26_5 c29 l37 l47 l52 l69 sc26_0 sc26_1 sc26_2 sc26_3 sc26_4 sc26_5 b26 b29 s37 s47 s52 s69 Fr M r hc26_0 hc26_1 hc26_2 hc26_3 hc26_4 hc26_5 hH h
  rw [law11_RunQuiet_5] at h
  refine Run.opG wantS_none (ex_move rfl) rfl ?_
  refine Run.opG wantS_none (ex_add rfl rfl) rfl ?_
  refine Run.opG wantS_none (ex_assign rfl) rfl ?_
  refine Run.opsEnd (Run.inLoop ?_)
  exact Run.pick [2, 3, 5, 6, 8, 10, 11, 12] (hhd4 v5 (w64 (v12 + (1 : Int))) c26_0 c26_1 c26_2 c26_3 c26_4 c26_5 c29 l37 l47 l52 l69 sc26_0 sc26_1 sc26_2 sc26_3 sc26_4 sc26_5 b26 b29 s37 s47 s52 s69 _ _ _ hc26_0 hc26_1 hc26_2 hc26_3 hc26_4 hc26_5 hH h)

def law11_RunQuiet_8 (F : Nat) : Nat → Int → (List Int) → (List Int) → Option (Bool)
  | 0, _, _, _ => none
  | N + 1, v16, l81, l86 =>
    bif (decide (v16 < (l81.length : Int))) then
      bnd (idx l81 v16) fun x92 =>
      bnd (ref00_Find F l86 x92) fun r94 =>
      bif (decide (r94 < (0 : Int))) then
        some false
      else
        (law11_RunQuiet_8 F N) (w64 (v16 + (1 : Int))) l81 l86
    else
      bnd (works F) fun r98 =>
      some r98

theorem law11_RunQuiet_8_ok (F : Nat) : ∀ (N : Nat), ∀ (v16 : Int) (l81 l86 : (List Int)) (s81 s86 : SV) (Fr : Rd) (M : Mem) (r : Bool) (hH : Has Fr M [.vec 3 1 l81.length s81 (l81.flatMap enc3), .vec 3 1 l86.length s86 (l86.flatMap enc3), tb0, tb1, tb2, tb3]), law11_RunQuiet_8 F N v16 l81 l86 = some r → Run Tryz.prog ⟨⟨5, [], none⟩, []⟩ 137 (law11_RunQuiet_post r) [(14, s81), (15, s86), (16, (.int .i64 v16))] [codeC Tryz.prog 5 [1, 1, 1, 1, 1, 1, 1, 1, 1, 1, 1, 1, 1, 1, 0, 1, 0, 0], loopC Tryz.prog 5 [1, 1, 1, 1, 1, 1, 1, 1, 1, 1, 1, 1, 1, 1, 0, 1, 0, 0], .inBlock 2, codeC Tryz.prog 5 [1, 1, 1, 1, 1, 1, 1, 1, 1, 1, 1, 1, 1, 1, 1]] M := by
  intro N
  induction N with
  | zero =>
    intro v16 l81 l86 s81 s86 Fr M r hH h
    simp [law11_RunQuiet_8] at h
  | succ N ih =>
    intro v16 l81 l86 s81 s86 Fr M r hH h
    rw [law11_RunQuiet_8] at h
    refine Run.seq (Run.seq (Run.region ?_))
    refine Run.opG wantS_none (ex_move rfl) rfl ?_
    refine Run.opG wantS_none (ex_move rfl) rfl ?_
    refine Run.opG wantS_none (ex_len' rfl (hH.slc (i := 0) rfl enc3_len) lenk24) rfl ?_
    refine Run.opG wantS_none (ex_lss rfl rfl) rfl ?_
    refine Run.opsEnd ?_
    rcases btf ((decide (v16 < (l81.length : Int)))) with hc90 | hc90
    · have h := bif_t hc90 h
      refine Run.condT' rfl hc90 ?_
      refine Run.skip (Run.seq (Run.block (Run.seq (Run.region ?_))))
      refine Run.opG wantS_none (ex_move rfl) rfl ?_
      refine Run.opG wantS_none (ex_move rfl) rfl ?_
      refine Run.opG wantS_none (ex_move rfl) rfl ?_
      obtain ⟨x92, hx92, h⟩ := bnd_some h
      obtain ⟨p92, o92, hb92, hx92, he92⟩ := vec_elem (P := Tryz.prog) (t := 24) (kk := .i64) hH (i := 0) rfl hx92 els24
      refine Run.opG wantS_none (ex_elX rfl rfl hx92) rfl ?_
      refine Run.opG wantS_none (ex_load1 rfl (hH.at (enc := enc3) (a := x92) (i := 0) rfl hb92 he92 enc3_len) rdLe_rfl agg3) rfl ?_
      obtain ⟨r94, hr94, h⟩ := bnd_some h
      refine Run.callP wantS_none (ex_call rfl mkk18 cal18) rfl (ref00_Find_ok F l86 x92 s86 _ _ (hH.slc (i := 1) rfl enc3_len) hr94) ?_
      refine Run.opG wantS_none (ex_lss rfl rfl) rfl ?_
      refine Run.opsEnd ?_
      rcases btf ((decide (r94 < (0 : Int)))) with hc96 | hc96
      · have h := bif_t hc96 h
        refine Run.condT' rfl hc96 ?_
        refine Run.seq (Run.region ?_)
        refine Run.opG wantS_none (ex_assign rfl) rfl ?_
        refine Run.opsEnd ?_
        cases h
        exact Run.ret Tryz.func5 rfl (res_tmp rfl res_nil) rfl
      · have h := bif_f hc96 h
        refine Run.condF' rfl hc96 ?_
        refine Run.skip (Run.inBlock (Run.region ?_))
        refine Run.opG wantS_none (ex_move rfl) rfl ?_
        refine Run.opG wantS_none (ex_add rfl rfl) rfl ?_
        refine Run.opG wantS_none (ex_assign rfl) rfl ?_
        refine Run.opsEnd (Run.inLoop ?_)
        exact Run.pick [14, 15, 16] (ih (w64 (v16 + (1 : Int))) l81 l86 s81 s86 _ _ _ hH h)
    · have h := bif_f hc90 h
      refine Run.condF' rfl hc90 ?_
      refine Run.exit rfl (Run.seq (Run.region ?_))
      obtain ⟨r98, hr98, h⟩ := bnd_some h
      refine Run.callP wantS_none (ex_call rfl mkk9 cal9) rfl (works_ok F r98 _ hH (List.mem_of_getElem? (i := 2) rfl) (List.mem_of_getElem? (i := 3) rfl) (List.mem_of_getElem? (i := 4) rfl) (List.mem_of_getElem? (i := 5) rfl) hr98) ?_
      refine Run.opG wantS_none (ex_assign rfl) rfl ?_
      refine Run.opsEnd ?_
      cases h
      exact Run.ret Tryz.func5 rfl (res_tmp rfl res_nil) rfl

def law11_RunQuiet_7 (F : Nat) (v122 : Bool) (l81 l86 : (List Int)) : Option (Bool) :=
  bif v122 then
    some false
  else
    law11_RunQuiet_8 F F (0 : Int) l81 l86

theorem law11_RunQuiet_7_ok (F : Nat) : ∀ (v122 : Bool) (l81 l86 : (List Int)) (s81 s86 : SV) (Fr : Rd) (M : Mem) (r : Bool) (hH : Has Fr M [.vec 3 1 l81.length s81 (l81.flatMap enc3), .vec 3 1 l86.length s86 (l86.flatMap enc3), tb0, tb1, tb2, tb3]), law11_RunQuiet_7 F v122 l81 l86 = some r → Run Tryz.prog ⟨⟨5, [], none⟩, []⟩ 137 (law11_RunQuiet_post r) [(14, s81), (15, s86), (122, (.bool v122))] [codeC Tryz.prog 5 [1, 1, 1, 1, 1, 1, 1, 1, 1, 1, 1, 1, 1, 0, 1], codeC Tryz.prog 5 [1, 1, 1, 1, 1, 1, 1, 1, 1, 1, 1, 1, 1, 1]] M := by
  intro v122 l81 l86 s81 s86 Fr M r hH h
  rw [law11_RunQuiet_7] at h
  rcases btf (v122) with hc89 | hc89
  · have h := bif_t hc89 h
    refine Run.condT' rfl hc89 ?_
    refine Run.seq (Run.region ?_)
    refine Run.opG wantS_none (ex_assign rfl) rfl ?_
    refine Run.opsEnd ?_
    cases h
    exact Run.ret Tryz.func5 rfl (res_tmp rfl res_nil) rfl
  · have h := bif_f hc89 h
    refine Run.condF' rfl hc89 ?_
    refine Run.skip (Run.seq (Run.seq (Run.region ?_)))
    refine Run.opG wantS_none (ex_assign rfl) rfl ?_
    refine Run.opsEnd (Run.block (Run.loop ?_))
    exact Run.pick [14, 15, 16] (law11_RunQuiet_8_ok F F (0 : Int) l81 l86 s81 s86 _ _ _ hH h)

def law11_RunQuiet_6 (F : Nat) (v5 : Int) (v97 : Bool) (c26_0 : (List S_api_Duty)) (c26_1 : (List S_api_Segment)) (c26_2 c26_3 : (List S_api_Veto)) (c26_4 c26_5 : (List Int)) (c29 : S_ringdownlaw11_Look) : Option (Bool) :=
  bif v97 then
    some false
  else
    bnd (ref00_Mod F c29.Length (40 : Int)) fun r76 =>
    bnd (run_Ready F (S_api_Plan.mk c26_0 c26_1 (S__2_api_Veto.mk c26_2 c26_3) (S__2_int.mk c26_4 c26_5)) v5 (w64 ((2 : Int) + r76))) fun r80 =>
    bnd (run_Ready F (S_api_Plan.mk c26_0 c26_1 (S__2_api_Veto.mk c26_2 c26_3) (S__2_int.mk c26_4 c26_5)) v5 (w64 ((w64 ((2 : Int) + r76)) - (1 : Int)))) fun r85 =>
    bif (!(r80.2 == (0 : Int))) then
      law11_RunQuiet_7 F true r80.1 r85.1
    else
      law11_RunQuiet_7 F (!(r85.2 == (0 : Int))) r80.1 r85.1

theorem law11_RunQuiet_6_ok (F : Nat) : ∀ (v5 : Int) (v97 : Bool) (c26_0 : (List S_api_Duty)) (c26_1 : (List S_api_Segment)) (c26_2 c26_3 : (List S_api_Veto)) (c26_4 c26_5 : (List Int)) (c29 : S_ringdownlaw11_Look) (sc26_0 sc26_1 sc26_2 sc26_3 sc26_4 sc26_5 : SV) (b26 b29 : Pos) (Fr : Rd) (M : Mem) (r : Bool) (hc26_0 : Slc Fr 3 (FlatR enc43) sc26_0 c26_0) (hc26_1 : Slc Fr 2 (FlatR enc106) sc26_1 c26_1) (hc26_2 : Slc Fr 2 (rep127 Fr) sc26_2 c26_2) (hc26_3 : Slc Fr 2 (rep127 Fr) sc26_3 c26_3) (hc26_4 : Slc Fr 1 (FlatR enc3) sc26_4 c26_4) (hc26_5 : Slc Fr 1 (FlatR enc3) sc26_5 c26_5) (hH : Has Fr M [.obj b26 (.row 38 .whole [sc26_0, sc26_1, sc26_2, sc26_3, sc26_4, sc26_5]), .obj b29 (.row 46 .whole [(.int .i64 c29.Time), (.int .i64 c29.Detector), (.int .i64 c29.Length)]), tb0, tb1, tb2, tb3]), law11_RunQuiet_6 F v5 v97 c26_0 c26_1 c26_2 c26_3 c26_4 c26_5 c29 = some r → Run Tryz.prog ⟨⟨5, [], none⟩, []⟩ 137 (law11_RunQuiet_post r) [(2, (.ptr b26 0)), (3, (.ptr b29 0)), (5, (.int .i64 v5)), (97, (.bool v97))] [codeC Tryz.prog 5 [1, 1, 1, 1, 1, 1, 1, 1, 1, 0, 1], codeC Tryz.prog 5 [1, 1, 1, 1, 1, 1, 1, 1, 1, 1]] M := by
  intro v5 v97 c26_0 c26_1 c26_2 c26_3 c26_4 c26_5 c29 sc26_0 sc26_1 sc26_2 sc26_3 sc26_4 sc26_5 b26 b29 Fr M r hc26_0 hc26_1 hc26_2 hc26_3 hc26_4 hc26_5 hH h
  rw [law11_RunQuiet_6] at h
  rcases btf (v97) with hc74 | hc74
  · have h := bif_t hc74 h
    refine Run.condT' rfl hc74 ?_
    refine Run.seq (Run.region ?_)
    refine Run.opG wantS_none (ex_assign rfl) rfl ?_
    refine Run.opsEnd ?_
    cases h
    exact Run.ret Tryz.func5 rfl (res_tmp rfl res_nil) rfl
  · have h := bif_f hc74 h
    refine Run.condF' rfl hc74 ?_
    refine Run.skip (Run.seq (Run.region ?_))
    refine Run.opG wantS_none (ex_fieldAddr rfl off46_2) rfl ?_
    refine Run.opG wantS_none (ex_load1 rfl (hH.cells (i := 1) rfl 2 rfl) rdLe_rfl agg3) rfl ?_
    obtain ⟨r76, hr76, h⟩ := bnd_some h
    refine Run.callP wantS_none (ex_call rfl mkk14 cal14) rfl (ref00_Mod_ok F c29.Length (40 : Int) _ _ hr76) ?_
    refine Run.opG wantS_none (ex_add rfl rfl) rfl ?_
    refine Run.opG wantS_none (ex_assign rfl) rfl ?_
    refine Run.opsEnd (Run.seq (Run.region ?_))
    refine Run.opG wantS_none (ex_loadA rfl (hH.cells (i := 0) rfl 0 rfl) rdLe_rfl agg38 rfl rfl rfl) rfl ?_
    refine Run.opG wantS_none (ex_move rfl) rfl ?_
    refine Run.opG wantS_none (ex_move rfl) rfl ?_
    obtain ⟨r80, hr80, h⟩ := bnd_some h
    refine Run.callX wantS_none (ex_call rfl mkk16 cal16) rfl (run_Ready_ok F (S_api_Plan.mk c26_0 c26_1 (S__2_api_Veto.mk c26_2 c26_3) (S__2_int.mk c26_4 c26_5)) v5 (w64 ((2 : Int) + r76)) sc26_0 sc26_1 sc26_2 sc26_3 sc26_4 sc26_5 _ _ (hH.slcF hc26_0) (hH.slcF hc26_1) ((hc26_2).mono hH.le (fun _ _ => rep127_mo hH.le)) ((hc26_3).mono hH.le (fun _ _ => rep127_mo hH.le)) (hH.slcF hc26_4) (hH.slcF hc26_5) hr80) ?_
    rintro _ M82 ⟨s80_0, rfl, hN80⟩
    have hH82 : Has Fr M82 [.vec 3 1 r80.1.length s80_0 (r80.1.flatMap enc3), .obj b26 (.row 38 .whole [sc26_0, sc26_1, sc26_2, sc26_3, sc26_4, sc26_5]), .obj b29 (.row 46 .whole [(.int .i64 c29.Time), (.int .i64 c29.Detector), (.int .i64 c29.Length)]), tb0, tb1, tb2, tb3] := hN80.1 _ _ hH
    refine Run.opG wantS_none (ex_move rfl) rfl ?_
    refine Run.opG wantS_none (ex_extract rfl rfl) rfl ?_
    refine Run.opG wantS_none (ex_extract rfl rfl) rfl ?_
    refine Run.opG wantS_none (ex_assign rfl) rfl ?_
    refine Run.opG wantS_none (ex_assign rfl) rfl ?_
    refine Run.opsEnd (Run.seq (Run.region ?_))
    refine Run.opG wantS_none (ex_loadA rfl (hH82.cells (i := 1) rfl 0 rfl) rdLe_rfl agg38 rfl rfl rfl) rfl ?_
    refine Run.opG wantS_none (ex_move rfl) rfl ?_
    refine Run.opG wantS_none (ex_move rfl) rfl ?_
    refine Run.opG wantS_none (ex_sub rfl rfl) rfl ?_
    obtain ⟨r85, hr85, h⟩ := bnd_some h
    refine Run.callX wantS_none (ex_call rfl mkk16 cal16) rfl (run_Ready_ok F (S_api_Plan.mk c26_0 c26_1 (S__2_api_Veto.mk c26_2 c26_3) (S__2_int.mk c26_4 c26_5)) v5 (w64 ((w64 ((2 : Int) + r76)) - (1 : Int))) sc26_0 sc26_1 sc26_2 sc26_3 sc26_4 sc26_5 _ _ (hH82.slcF hc26_0) (hH82.slcF hc26_1) ((hc26_2).mono hH82.le (fun _ _ => rep127_mo hH82.le)) ((hc26_3).mono hH82.le (fun _ _ => rep127_mo hH82.le)) (hH82.slcF hc26_4) (hH82.slcF hc26_5) hr85) ?_
    rintro _ M87 ⟨s85_0, rfl, hN85⟩
    have hH87 : Has Fr M87 [.vec 3 1 r85.1.length s85_0 (r85.1.flatMap enc3), .vec 3 1 r80.1.length s80_0 (r80.1.flatMap enc3), .obj b26 (.row 38 .whole [sc26_0, sc26_1, sc26_2, sc26_3, sc26_4, sc26_5]), .obj b29 (.row 46 .whole [(.int .i64 c29.Time), (.int .i64 c29.Detector), (.int .i64 c29.Length)]), tb0, tb1, tb2, tb3] := hN85.1 _ _ hH82
    refine Run.opG wantS_none (ex_move rfl) rfl ?_
    refine Run.opG wantS_none (ex_extract rfl rfl) rfl ?_
    refine Run.opG wantS_none (ex_extract rfl rfl) rfl ?_
    refine Run.opG wantS_none (ex_assign rfl) rfl ?_
    refine Run.opG wantS_none (ex_assign rfl) rfl ?_
    refine Run.opsEnd (Run.seq (Run.seq (Run.region ?_)))
    refine Run.opG wantS_none (ex_move rfl) rfl ?_
    refine Run.opG wantS_none (ex_neq rfl rfl) rfl ?_
    refine Run.opG wantS_none (ex_move rfl) rfl ?_
    rcases btf ((!(r80.2 == (0 : Int)))) with hc88 | hc88
    · have h := bif_t hc88 h
      refine Run.no (wantS_not' rfl rfl hc88) rfl ?_
      refine Run.no (wantS_not' rfl rfl hc88) rfl ?_
      refine Run.opG wantS_none (ex_pickT' rfl hc88 rfl rfl) rfl ?_
      refine Run.opsEnd ?_
      exact Run.pick [14, 15, 122] (law11_RunQuiet_7_ok F true r80.1 r85.1 s80_0 s85_0 _ _ _ (hH87.pick [1, 0, 4, 5, 6, 7] rfl rfl) h)
    · have h := bif_f hc88 h
      refine Run.opG (wantS_yes' rfl rfl hc88) (ex_move rfl) rfl ?_
      refine Run.opG (wantS_yes' rfl rfl hc88) (ex_neq rfl rfl) rfl ?_
      refine Run.opG wantS_none (ex_pickF' rfl hc88 rfl rfl) rfl ?_
      refine Run.opsEnd ?_
      exact Run.pick [14, 15, 122] (law11_RunQuiet_7_ok F (!(r85.2 == (0 : Int))) r80.1 r85.1 s80_0 s85_0 _ _ _ (hH87.pick [1, 0, 4, 5, 6, 7] rfl rfl) h)

def law11_RunQuiet_4 (F : Nat) : Nat → Int → Int → (List S_api_Duty) → (List S_api_Segment) → (List S_api_Veto) → (List S_api_Veto) → (List Int) → (List Int) → S_ringdownlaw11_Look → (List Bool) → (List Int) → (List S_api_Tally) → (List Int) → Option (Bool)
  | 0, _, _, _, _, _, _, _, _, _, _, _, _, _ => none
  | N + 1, v5, v12, c26_0, c26_1, c26_2, c26_3, c26_4, c26_5, c29, l37, l47, l52, l57 =>
    bif (decide (v12 < (l37.length : Int))) then
      bnd (idx l37 v12) fun x61 =>
      bif x61 then
        bnd (apd 8 l57 ([v12] : List Int)) fun l68 =>
        law11_RunQuiet_5 F (law11_RunQuiet_4 F N) v5 v12 c26_0 c26_1 c26_2 c26_3 c26_4 c26_5 c29 l37 l47 l52 l68
      else
        law11_RunQuiet_5 F (law11_RunQuiet_4 F N) v5 v12 c26_0 c26_1 c26_2 c26_3 c26_4 c26_5 c29 l37 l47 l52 l57
    else
      bnd (ref00_SameInts F l47 l57) fun r71 =>
      bif (!r71) then
        law11_RunQuiet_6 F v5 true c26_0 c26_1 c26_2 c26_3 c26_4 c26_5 c29
      else
        bnd (idx l52 v5) fun x100 =>
        bif (!((x100.N == (l57.length : Int)) && ((x100.Of == (l37.length : Int)) && true))) then
          law11_RunQuiet_6 F v5 true c26_0 c26_1 c26_2 c26_3 c26_4 c26_5 c29
        else
          bnd (idx l52 (2 : Int)) fun x102 =>
          bnd (idx l52 v5) fun x103 =>
          law11_RunQuiet_6 F v5 (decide (x103.N < x102.N)) c26_0 c26_1 c26_2 c26_3 c26_4 c26_5 c29

theorem law11_RunQuiet_4_ok (F : Nat) : ∀ (N : Nat), ∀ (v5 v12 : Int) (c26_0 : (List S_api_Duty)) (c26_1 : (List S_api_Segment)) (c26_2 c26_3 : (List S_api_Veto)) (c26_4 c26_5 : (List Int)) (c29 : S_ringdownlaw11_Look) (l37 : (List Bool)) (l47 : (List Int)) (l52 : (List S_api_Tally)) (l57 : (List Int)) (sc26_0 sc26_1 sc26_2 sc26_3 sc26_4 sc26_5 : SV) (b26 b29 : Pos) (s37 s47 s52 s57 : SV) (Fr : Rd) (M : Mem) (r : Bool) (hc26_0 : Slc Fr 3 (FlatR enc43) sc26_0 c26_0) (hc26_1 : Slc Fr 2 (FlatR enc106) sc26_1 c26_1) (hc26_2 : Slc Fr 2 (rep127 Fr) sc26_2 c26_2) (hc26_3 : Slc Fr 2 (rep127 Fr) sc26_3 c26_3) (hc26_4 : Slc Fr 1 (FlatR enc3) sc26_4 c26_4) (hc26_5 : Slc Fr 1 (FlatR enc3) sc26_5 c26_5) (hH : Has Fr M [.obj b26 (.row 38 .whole [sc26_0, sc26_1, sc26_2, sc26_3, sc26_4, sc26_5]), .obj b29 (.row 46 .whole [(.int .i64 c29.Time), (.int .i64 c29.Detector), (.int .i64 c29.Length)]), .vec 4 1 l37.length s37 (l37.flatMap enc4), .vec 3 1 l47.length s47 (l47.flatMap enc3), .vec 56 2 l52.length s52 (l52.flatMap enc56), .vec 3 1 l57.length s57 (l57.flatMap enc3), tb0, tb1, tb2, tb3]), law11_RunQuiet_4 F N v5 v12 c26_0 c26_1 c26_2 c26_3 c26_4 c26_5 c29 l37 l47 l52 l57 = some r → Run Tryz.prog ⟨⟨5, [], none⟩, []⟩ 137 (law11_RunQuiet_post r) [(2, (.ptr b26 0)), (3, (.ptr b29 0)), (5, (.int .i64 v5)), (6, s37), (8, s47), (10, s52), (11, s57), (12, (.int .i64 v12))] [codeC Tryz.prog 5 [1, 1, 1, 1, 1, 1, 1, 1, 0, 1, 0, 0], loopC Tryz.prog 5 [1, 1, 1, 1, 1, 1, 1, 1, 0, 1, 0, 0], .inBlock 0, codeC Tryz.prog 5 [1, 1, 1, 1, 1, 1, 1, 1, 1]] M := by
  intro N
  induction N with
  | zero =>
    intro v5 v12 c26_0 c26_1 c26_2 c26_3 c26_4 c26_5 c29 l37 l47 l52 l57 sc26_0 sc26_1 sc26_2 sc26_3 sc26_4 sc26_5 b26 b29 s37 s47 s52 s57 Fr M r hc26_0 hc26_1 hc26_2 hc26_3 hc26_4 hc26_5 hH h
    simp [law11_RunQuiet_4] at h
  | succ N ih =>
    intro v5 v12 c26_0 c26_1 c26_2 c26_3 c26_4 c26_5 c29 l37 l47 l52 l57 sc26_0 sc26_1 sc26_2 sc26_3 sc26_4 sc26_5 b26 b29 s37 s47 s52 s57 Fr M r hc26_0 hc26_1 hc26_2 hc26_3 hc26_4 hc26_5 hH h
    rw [law11_RunQuiet_4] at h
    refine Run.seq (Run.seq (Run.region ?_))
    refine Run.opG wantS_none (ex_move rfl) rfl ?_
    refine Run.opG wantS_none (ex_move rfl) rfl ?_
    refine Run.opG wantS_none (ex_len' rfl (hH.slc (i := 2) rfl enc4_len) lenk48) rfl ?_
    refine Run.opG wantS_none (ex_lss rfl rfl) rfl ?_
    refine Run.opsEnd ?_
    rcases btf ((decide (v12 < (l37.length : Int)))) with hc59 | hc59
    · have h := bif_t hc59 h
      refine Run.condT' rfl hc59 ?_
      refine Run.skip (Run.seq (Run.block (Run.seq (Run.region ?_))))
      refine Run.opG wantS_none (ex_move rfl) rfl ?_
      refine Run.opG wantS_none (ex_move rfl) rfl ?_
      obtain ⟨x61, hx61, h⟩ := bnd_some h
      obtain ⟨p61, o61, hb61, hx61, he61⟩ := vec_elem (P := Tryz.prog) (t := 48) (kk := .i64) hH (i := 2) rfl hx61 els48
      refine Run.opG wantS_none (ex_elX rfl rfl hx61) rfl ?_
      refine Run.opG wantS_none (ex_load1 rfl (hH.at (enc := enc4) (a := x61) (i := 2) rfl hb61 he61 enc4_len) rdLe_rfl agg4) rfl ?_
      refine Run.opsEnd ?_
      rcases btf (x61) with hc62 | hc62
      · have h := bif_t hc62 h
        refine Run.condT' rfl hc62 ?_
        refine Run.region ?_
        refine Run.opG wantS_none (ex_move rfl) rfl ?_
        refine Run.opG wantS_none (ex_move rfl) rfl ?_
        refine Run.opX wantS_none rfl (ExG.built (enc := enc3) (l := ([v12] : List Int)) (z := 1) rfl elt24 rfl rfl rfl enc3_len hH) ?_
        rintro s64 M65 (hH65 : Has Fr M65 [.vec 3 1 ([v12] : List Int).length s64 (([v12] : List Int).flatMap enc3), .obj b26 (.row 38 .whole [sc26_0, sc26_1, sc26_2, sc26_3, sc26_4, sc26_5]), .obj b29 (.row 46 .whole [(.int .i64 c29.Time), (.int .i64 c29.Detector), (.int .i64 c29.Length)]), .vec 4 1 l37.length s37 (l37.flatMap enc4), .vec 3 1 l47.length s47 (l47.flatMap enc3), .vec 56 2 l52.length s52 (l52.flatMap enc56), .vec 3 1 l57.length s57 (l57.flatMap enc3), tb0, tb1, tb2, tb3])
        obtain ⟨l68, hl68, h⟩ := bnd_some h
        refine Run.opX wantS_none rfl (ExG.append rfl rfl hH65 (i := 6) rfl enc3_len rfl enc3_ones appt24_24 rfl (len_slc (hH65.slc (i := 0) rfl enc3_len)) (first_slc (hH65.slc (i := 0) rfl enc3_len) (rdLe_rdRow _) enc3_len) hl68) ?_
        rintro s68 M70 (hH70 : Has Fr M70 [.vec 3 1 ([v12] : List Int).length s64 (([v12] : List Int).flatMap enc3), .obj b26 (.row 38 .whole [sc26_0, sc26_1, sc26_2, sc26_3, sc26_4, sc26_5]), .obj b29 (.row 46 .whole [(.int .i64 c29.Time), (.int .i64 c29.Detector), (.int .i64 c29.Length)]), .vec 4 1 l37.length s37 (l37.flatMap enc4), .vec 3 1 l47.length s47 (l47.flatMap enc3), .vec 56 2 l52.length s52 (l52.flatMap enc56), .vec 3 1 l68.length s68 (l68.flatMap enc3), tb0, tb1, tb2, tb3])
        refine Run.opG wantS_none (ex_assign rfl) rfl ?_
        refine Run.opsEnd (Run.inBlock (Run.region ?_))
        exact Run.pick [2, 3, 5, 6, 8, 10, 11, 12] (law11_RunQuiet_5_ok F (law11_RunQuiet_4 F N) ih v5 v12 c26_0 c26_1 c26_2 c26_3 c26_4 c26_5 c29 l37 l47 l52 l68 sc26_0 sc26_1 sc26_2 sc26_3 sc26_4 sc26_5 b26 b29 s37 s47 s52 s68 _ _ _ hc26_0 hc26_1 hc26_2 hc26_3 hc26_4 hc26_5 (hH70.pick [1, 2, 3, 4, 5, 6, 7, 8, 9, 10] rfl rfl) h)
      · have h := bif_f hc62 h
        refine Run.condF' rfl hc62 ?_
        refine Run.skip (Run.inBlock (Run.region ?_))
        exact Run.pick [2, 3, 5, 6, 8, 10, 11, 12] (law11_RunQuiet_5_ok F (law11_RunQuiet_4 F N) ih v5 v12 c26_0 c26_1 c26_2 c26_3 c26_4 c26_5 c29 l37 l47 l52 l57 sc26_0 sc26_1 sc26_2 sc26_3 sc26_4 sc26_5 b26 b29 s37 s47 s52 s57 _ _ _ hc26_0 hc26_1 hc26_2 hc26_3 hc26_4 hc26_5 hH h)
    · have h := bif_f hc59 h
      refine Run.condF' rfl hc59 ?_
      refine Run.exit rfl (Run.seq (Run.seq ?_))
      refine Run.drawG plan5_1_1_1_1_1_1_1_1_1_0_0 ?_
      refine DrawG.fl rfl (ev_ex wantS_none (ex_move rfl)) rfl ?_
      refine DrawG.fl rfl (ev_ex wantS_none (ex_move rfl)) rfl ?_
      obtain ⟨r71, hr71, h⟩ := bnd_some h
      refine DrawG.callP rfl wantS_none (ex_call rfl mkk10 cal10) rfl (ref00_SameInts_ok F l47 l57 s47 s57 _ _ (hH.slc (i := 3) rfl enc3_len) (hH.slc (i := 5) rfl enc3_len) hr71) st_nil ?_
      refine DrawG.fl rfl (ev_ex wantS_none (ex_not rfl)) rfl ?_
      refine DrawG.fl rfl (ev_ex wantS_none (ex_move rfl)) rfl ?_
      rcases btf ((!r71)) with hc73 | hc73
      · have h := bif_t hc73 h
        refine DrawG.fl rfl (ev_no (wantS_not' rfl rfl hc73)) rfl ?_
        refine DrawG.fl rfl (ev_no (wantS_not' rfl rfl hc73)) rfl ?_
        refine DrawG.fl rfl (ev_no (wantS_not' rfl rfl hc73)) rfl ?_
        refine DrawG.fl rfl (ev_no (wantS_not' rfl rfl hc73)) rfl ?_
        refine DrawG.fl rfl (ev_no (wantS_not' rfl rfl hc73)) rfl ?_
        refine DrawG.fl rfl (ev_no (wantS_not' rfl rfl hc73)) rfl ?_
        refine DrawG.fl rfl (ev_no (wantS_not' rfl rfl hc73)) rfl ?_
        refine DrawG.fl rfl (ev_no (wantS_not' rfl rfl hc73)) rfl ?_
        refine DrawG.fl rfl (ev_no (wantS_not' rfl rfl hc73)) rfl ?_
        refine DrawG.fl rfl (ev_no (wantS_not' rfl rfl hc73)) rfl ?_
        refine DrawG.fl rfl (ev_ex wantS_none (ex_pickT' rfl hc73 rfl rfl)) rfl ?_
        refine DrawG.fl rfl (ev_ex wantS_none (ex_move rfl)) rfl ?_
        refine DrawG.fl rfl (ev_no (wantS_not' rfl rfl rfl)) rfl ?_
        refine DrawG.fl rfl (ev_no (wantS_not' rfl rfl rfl)) rfl ?_
        refine DrawG.fl rfl (ev_no (wantS_not' rfl rfl rfl)) rfl ?_
        refine DrawG.fl rfl (ev_no (wantS_not' rfl rfl rfl)) rfl ?_
        refine DrawG.fl rfl (ev_no (wantS_not' rfl rfl rfl)) rfl ?_
        refine DrawG.fl rfl (ev_no (wantS_not' rfl rfl rfl)) rfl ?_
        refine DrawG.fl rfl (ev_no (wantS_not' rfl rfl rfl)) rfl ?_
        refine DrawG.fl rfl (ev_no (wantS_not' rfl rfl rfl)) rfl ?_
        refine DrawG.fl rfl (ev_no (wantS_not' rfl rfl rfl)) rfl ?_
        refine DrawG.fl rfl (ev_no (wantS_not' rfl rfl rfl)) rfl ?_
        refine DrawG.fl rfl (ev_ex wantS_none (ex_pickT' rfl rfl rfl rfl)) rfl ?_
        refine DrawG.sync ?_
        refine DrawG.nil ?_
        exact Run.pick [2, 3, 5, 97] (law11_RunQuiet_6_ok F v5 true c26_0 c26_1 c26_2 c26_3 c26_4 c26_5 c29 sc26_0 sc26_1 sc26_2 sc26_3 sc26_4 sc26_5 b26 b29 _ _ _ hc26_0 hc26_1 hc26_2 hc26_3 hc26_4 hc26_5 (hH.pick [0, 1, 6, 7, 8, 9] rfl rfl) h)
      · have h := bif_f hc73 h
        refine DrawG.fl rfl (ev_ex (wantS_yes' rfl rfl hc73) (ex_move rfl)) rfl ?_
        refine DrawG.fl rfl (ev_ex (wantS_yes' rfl rfl hc73) (ex_move rfl)) rfl ?_
        obtain ⟨x100, hx100, h⟩ := bnd_some h
        obtain ⟨p100, o100, hb100, hx100, he100⟩ := vec_elem (P := Tryz.prog) (t := 52) (kk := .i64) hH (i := 4) rfl hx100 els52
        refine DrawG.fl rfl (ev_ex (wantS_yes' rfl rfl hc73) (ex_elX rfl rfl hx100)) rfl ?_
        refine DrawG.fl rfl (ev_ex (wantS_yes' rfl rfl hc73) (ex_loadA rfl (hH.at (enc := enc56) (a := x100) (i := 4) rfl hb100 he100 enc56_len) rdLe_rfl agg56 rfl rfl rfl)) rfl ?_
        refine DrawG.fl rfl (ev_ex (wantS_yes' rfl rfl hc73) (ex_move rfl)) rfl ?_
        refine DrawG.fl rfl (ev_ex (wantS_yes' rfl rfl hc73) (ex_len' rfl (hH.slc (i := 5) rfl enc3_len) lenk24)) rfl ?_
        refine DrawG.fl rfl (ev_ex (wantS_yes' rfl rfl hc73) (ex_move rfl)) rfl ?_
        refine DrawG.fl rfl (ev_ex (wantS_yes' rfl rfl hc73) (ex_len' rfl (hH.slc (i := 2) rfl enc4_len) lenk48)) rfl ?_
        refine DrawG.fl rfl (ev_ex (wantS_yes' rfl rfl hc73) (ex_build (r := [(.int .i64 (l57.length : Int)), (.int .i64 (l37.length : Int))]) rfl zer56 pls56 rfl)) rfl ?_
        refine DrawG.fl rfl (ev_ex (wantS_yes' rfl rfl hc73) (ex_neqA rfl rfl aeq56 (eqA_st agk56 (eqFs_cons (by decide) (part_one agg3 rfl) (part_one agg3 rfl) (eqA_int agk3) (eqFs_cons (by decide) (part_one agg3 rfl) (part_one agg3 rfl) (eqA_int agk3) eqFs_nil))))) rfl ?_
        refine DrawG.fl rfl (ev_ex wantS_none (ex_pickF' rfl hc73 rfl rfl)) rfl ?_
        refine DrawG.fl rfl (ev_ex wantS_none (ex_move rfl)) rfl ?_
        rcases btf ((!((x100.N == (l57.length : Int)) && ((x100.Of == (l37.length : Int)) && true)))) with hc101 | hc101
        · have h := bif_t hc101 h
          refine DrawG.fl rfl (ev_no (wantS_not' rfl rfl hc101)) rfl ?_
          refine DrawG.fl rfl (ev_no (wantS_not' rfl rfl hc101)) rfl ?_
          refine DrawG.fl rfl (ev_no (wantS_not' rfl rfl hc101)) rfl ?_
          refine DrawG.fl rfl (ev_no (wantS_not' rfl rfl hc101)) rfl ?_
          refine DrawG.fl rfl (ev_no (wantS_not' rfl rfl hc101)) rfl ?_
          refine DrawG.fl rfl (ev_no (wantS_not' rfl rfl hc101)) rfl ?_
          refine DrawG.fl rfl (ev_no (wantS_not' rfl rfl hc101)) rfl ?_
          refine DrawG.fl rfl (ev_no (wantS_not' rfl rfl hc101)) rfl ?_
          refine DrawG.fl rfl (ev_no (wantS_not' rfl rfl hc101)) rfl ?_
          refine DrawG.fl rfl (ev_no (wantS_not' rfl rfl hc101)) rfl ?_
          refine DrawG.fl rfl (ev_ex wantS_none (ex_pickT' rfl hc101 rfl rfl)) rfl ?_
          refine DrawG.sync ?_
          refine DrawG.nil ?_
          exact Run.pick [2, 3, 5, 97] (law11_RunQuiet_6_ok F v5 true c26_0 c26_1 c26_2 c26_3 c26_4 c26_5 c29 sc26_0 sc26_1 sc26_2 sc26_3 sc26_4 sc26_5 b26 b29 _ _ _ hc26_0 hc26_1 hc26_2 hc26_3 hc26_4 hc26_5 (hH.pick [0, 1, 6, 7, 8, 9] rfl rfl) h)
        · have h := bif_f hc101 h
          refine DrawG.fl rfl (ev_ex (wantS_yes' rfl rfl hc101) (ex_move rfl)) rfl ?_
          obtain ⟨x102, hx102, h⟩ := bnd_some h
          obtain ⟨p102, o102, hb102, hx102, he102⟩ := vec_elem (P := Tryz.prog) (t := 52) (kk := .i64) hH (i := 4) rfl hx102 els52
          refine DrawG.fl rfl (ev_ex (wantS_yes' rfl rfl hc101) (ex_elX rfl rfl hx102)) rfl ?_
          refine DrawG.fl rfl (ev_ex (wantS_yes' rfl rfl hc101) (ex_fieldAddr rfl off56_0)) rfl ?_
          refine DrawG.fl rfl (ev_ex (wantS_yes' rfl rfl hc101) (ex_load1 rfl ((hH.at (enc := enc56) (a := x102) (i := 4) rfl hb102 he102 enc56_len).fld (o := 0) rfl) rdLe_rfl agg3)) rfl ?_
          refine DrawG.fl rfl (ev_ex (wantS_yes' rfl rfl hc101) (ex_move rfl)) rfl ?_
          refine DrawG.fl rfl (ev_ex (wantS_yes' rfl rfl hc101) (ex_move rfl)) rfl ?_
          obtain ⟨x103, hx103, h⟩ := bnd_some h
          obtain ⟨p103, o103, hb103, hx103, he103⟩ := vec_elem (P := Tryz.prog) (t := 52) (kk := .i64) hH (i := 4) rfl hx103 els52
          refine DrawG.fl rfl (ev_ex (wantS_yes' rfl rfl hc101) (ex_elX rfl rfl hx103)) rfl ?_
          refine DrawG.fl rfl (ev_ex (wantS_yes' rfl rfl hc101) (ex_fieldAddr rfl off56_0)) rfl ?_
          refine DrawG.fl rfl (ev_ex (wantS_yes' rfl rfl hc101) (ex_load1 rfl ((hH.at (enc := enc56) (a := x103) (i := 4) rfl hb103 he103 enc56_len).fld (o := 0) rfl) rdLe_rfl agg3)) rfl ?_
          refine DrawG.fl rfl (ev_ex (wantS_yes' rfl rfl hc101) (ex_gtr rfl rfl)) rfl ?_
          refine DrawG.fl rfl (ev_ex wantS_none (ex_pickF' rfl hc101 rfl rfl)) rfl ?_
          refine DrawG.sync ?_
          refine DrawG.nil ?_
          exact Run.pick [2, 3, 5, 97] (law11_RunQuiet_6_ok F v5 (decide (x103.N < x102.N)) c26_0 c26_1 c26_2 c26_3 c26_4 c26_5 c29 sc26_0 sc26_1 sc26_2 sc26_3 sc26_4 sc26_5 b26 b29 _ _ _ hc26_0 hc26_1 hc26_2 hc26_3 hc26_4 hc26_5 (hH.pick [0, 1, 6, 7, 8, 9] rfl rfl) h)

def law11_RunQuiet_3 (F : Nat) (v5 : Int) (v55 : Bool) (c26_0 : (List S_api_Duty)) (c26_1 : (List S_api_Segment)) (c26_2 c26_3 : (List S_api_Veto)) (c26_4 c26_5 : (List Int)) (c29 : S_ringdownlaw11_Look) (l37 : (List Bool)) (l47 : (List Int)) (l52 : (List S_api_Tally)) : Option (Bool) :=
  bif v55 then
    some false
  else
    law11_RunQuiet_4 F F v5 (0 : Int) c26_0 c26_1 c26_2 c26_3 c26_4 c26_5 c29 l37 l47 l52 ([] : List Int)

theorem law11_RunQuiet_3_ok (F : Nat) : ∀ (v5 : Int) (v55 : Bool) (c26_0 : (List S_api_Duty)) (c26_1 : (List S_api_Segment)) (c26_2 c26_3 : (List S_api_Veto)) (c26_4 c26_5 : (List Int)) (c29 : S_ringdownlaw11_Look) (l37 : (List Bool)) (l47 : (List Int)) (l52 : (List S_api_Tally)) (sc26_0 sc26_1 sc26_2 sc26_3 sc26_4 sc26_5 : SV) (b26 b29 : Pos) (s37 s47 s52 : SV) (Fr : Rd) (M : Mem) (r : Bool) (hc26_0 : Slc Fr 3 (FlatR enc43) sc26_0 c26_0) (hc26_1 : Slc Fr 2 (FlatR enc106) sc26_1 c26_1) (hc26_2 : Slc Fr 2 (rep127 Fr) sc26_2 c26_2) (hc26_3 : Slc Fr 2 (rep127 Fr) sc26_3 c26_3) (hc26_4 : Slc Fr 1 (FlatR enc3) sc26_4 c26_4) (hc26_5 : Slc Fr 1 (FlatR enc3) sc26_5 c26_5) (hH : Has Fr M [.obj b26 (.row 38 .whole [sc26_0, sc26_1, sc26_2, sc26_3, sc26_4, sc26_5]), .obj b29 (.row 46 .whole [(.int .i64 c29.Time), (.int .i64 c29.Detector), (.int .i64 c29.Length)]), .vec 4 1 l37.length s37 (l37.flatMap enc4), .vec 3 1 l47.length s47 (l47.flatMap enc3), .vec 56 2 l52.length s52 (l52.flatMap enc56), tb0, tb1, tb2, tb3]), law11_RunQuiet_3 F v5 v55 c26_0 c26_1 c26_2 c26_3 c26_4 c26_5 c29 l37 l47 l52 = some r → Run Tryz.prog ⟨⟨5, [], none⟩, []⟩ 137 (law11_RunQuiet_post r) [(2, (.ptr b26 0)), (3, (.ptr b29 0)), (5, (.int .i64 v5)), (6, s37), (8, s47), (10, s52), (55, (.bool v55))] [codeC Tryz.prog 5 [1, 1, 1, 1, 1, 1, 0, 1], codeC Tryz.prog 5 [1, 1, 1, 1, 1, 1, 1]] M := by
  intro v5 v55 c26_0 c26_1 c26_2 c26_3 c26_4 c26_5 c29 l37 l47 l52 sc26_0 sc26_1 sc26_2 sc26_3 sc26_4 sc26_5 b26 b29 s37 s47 s52 Fr M r hc26_0 hc26_1 hc26_2 hc26_3 hc26_4 hc26_5 hH h
  rw [law11_RunQuiet_3] at h
  rcases btf (v55) with hc56 | hc56
  · have h := bif_t hc56 h
    refine Run.condT' rfl hc56 ?_
    refine Run.seq (Run.region ?_)
    refine Run.opG wantS_none (ex_assign rfl) rfl ?_
    refine Run.opsEnd ?_
    cases h
    exact Run.ret Tryz.func5 rfl (res_tmp rfl res_nil) rfl
  · have h := bif_f hc56 h
    refine Run.condF' rfl hc56 ?_
    refine Run.skip (Run.seq (Run.region ?_))
    refine Run.opG wantS_none (ex_assign rfl) rfl ?_
    refine Run.opsEnd (Run.seq (Run.seq (Run.region ?_)))
    refine Run.opG wantS_none (ex_assign rfl) rfl ?_
    refine Run.opsEnd (Run.block (Run.loop ?_))
    have hH58 : Has Fr M [.vec 3 1 ([] : List Int).length .nils (([] : List Int).flatMap enc3), .obj b26 (.row 38 .whole [sc26_0, sc26_1, sc26_2, sc26_3, sc26_4, sc26_5]), .obj b29 (.row 46 .whole [(.int .i64 c29.Time), (.int .i64 c29.Detector), (.int .i64 c29.Length)]), .vec 4 1 l37.length s37 (l37.flatMap enc4), .vec 3 1 l47.length s47 (l47.flatMap enc3), .vec 56 2 l52.length s52 (l52.flatMap enc56), tb0, tb1, tb2, tb3] := hH.nils 3 1
    exact Run.pick [2, 3, 5, 6, 8, 10, 11, 12] (law11_RunQuiet_4_ok F F v5 (0 : Int) c26_0 c26_1 c26_2 c26_3 c26_4 c26_5 c29 l37 l47 l52 ([] : List Int) sc26_0 sc26_1 sc26_2 sc26_3 sc26_4 sc26_5 b26 b29 s37 s47 s52 .nils _ _ _ hc26_0 hc26_1 hc26_2 hc26_3 hc26_4 hc26_5 (hH58.pick [1, 2, 3, 4, 5, 0, 6, 7, 8, 9] rfl rfl) h)

def law11_RunQuiet_2 (F : Nat) (v5 : Int) (v50 : Bool) (c26_0 : (List S_api_Duty)) (c26_1 : (List S_api_Segment)) (c26_2 c26_3 : (List S_api_Veto)) (c26_4 c26_5 : (List Int)) (c29 : S_ringdownlaw11_Look) (l37 : (List Bool)) (l47 : (List Int)) (l52 : (List S_api_Tally)) : Option (Bool) :=
  bif v50 then
    law11_RunQuiet_3 F v5 true c26_0 c26_1 c26_2 c26_3 c26_4 c26_5 c29 l37 l47 l52
  else
    law11_RunQuiet_3 F v5 (!((l52.length : Int) == (3 : Int))) c26_0 c26_1 c26_2 c26_3 c26_4 c26_5 c29 l37 l47 l52

theorem law11_RunQuiet_2_ok (F : Nat) : ∀ (v5 : Int) (v50 : Bool) (c26_0 : (List S_api_Duty)) (c26_1 : (List S_api_Segment)) (c26_2 c26_3 : (List S_api_Veto)) (c26_4 c26_5 : (List Int)) (c29 : S_ringdownlaw11_Look) (l37 : (List Bool)) (l47 : (List Int)) (l52 : (List S_api_Tally)) (sc26_0 sc26_1 sc26_2 sc26_3 sc26_4 sc26_5 : SV) (b26 b29 : Pos) (s37 s47 s52 : SV) (Fr : Rd) (M : Mem) (r : Bool) (hc26_0 : Slc Fr 3 (FlatR enc43) sc26_0 c26_0) (hc26_1 : Slc Fr 2 (FlatR enc106) sc26_1 c26_1) (hc26_2 : Slc Fr 2 (rep127 Fr) sc26_2 c26_2) (hc26_3 : Slc Fr 2 (rep127 Fr) sc26_3 c26_3) (hc26_4 : Slc Fr 1 (FlatR enc3) sc26_4 c26_4) (hc26_5 : Slc Fr 1 (FlatR enc3) sc26_5 c26_5) (hH : Has Fr M [.obj b26 (.row 38 .whole [sc26_0, sc26_1, sc26_2, sc26_3, sc26_4, sc26_5]), .obj b29 (.row 46 .whole [(.int .i64 c29.Time), (.int .i64 c29.Detector), (.int .i64 c29.Length)]), .vec 4 1 l37.length s37 (l37.flatMap enc4), .vec 3 1 l47.length s47 (l47.flatMap enc3), .vec 56 2 l52.length s52 (l52.flatMap enc56), tb0, tb1, tb2, tb3]), law11_RunQuiet_2 F v5 v50 c26_0 c26_1 c26_2 c26_3 c26_4 c26_5 c29 l37 l47 l52 = some r → Run Tryz.prog ⟨⟨5, [], none⟩, []⟩ 137 (law11_RunQuiet_post r) [(2, (.ptr b26 0)), (3, (.ptr b29 0)), (5, (.int .i64 v5)), (6, s37), (8, s47), (10, s52), (50, (.bool v50))] [itemC Tryz.prog 5 [1, 1, 1, 1, 1, 1, 0, 0] 6, codeC Tryz.prog 5 [1, 1, 1, 1, 1, 1, 0, 1], codeC Tryz.prog 5 [1, 1, 1, 1, 1, 1, 1]] M := by
  intro v5 v50 c26_0 c26_1 c26_2 c26_3 c26_4 c26_5 c29 l37 l47 l52 sc26_0 sc26_1 sc26_2 sc26_3 sc26_4 sc26_5 b26 b29 s37 s47 s52 Fr M r hc26_0 hc26_1 hc26_2 hc26_3 hc26_4 hc26_5 hH h
  rw [law11_RunQuiet_2] at h
  refine Run.opG wantS_none (ex_move rfl) rfl ?_
  rcases btf (v50) with hc55 | hc55
  · have h := bif_t hc55 h
    refine Run.no (wantS_not' rfl rfl hc55) rfl ?_
    refine Run.no (wantS_not' rfl rfl hc55) rfl ?_
    refine Run.no (wantS_not' rfl rfl hc55) rfl ?_
    refine Run.opG wantS_none (ex_pickT' rfl hc55 rfl rfl) rfl ?_
    refine Run.opsEnd ?_
    exact Run.pick [2, 3, 5, 6, 8, 10, 55] (law11_RunQuiet_3_ok F v5 true c26_0 c26_1 c26_2 c26_3 c26_4 c26_5 c29 l37 l47 l52 sc26_0 sc26_1 sc26_2 sc26_3 sc26_4 sc26_5 b26 b29 s37 s47 s52 _ _ _ hc26_0 hc26_1 hc26_2 hc26_3 hc26_4 hc26_5 hH h)
  · have h := bif_f hc55 h
    refine Run.opG (wantS_yes' rfl rfl hc55) (ex_move rfl) rfl ?_
    refine Run.opG (wantS_yes' rfl rfl hc55) (ex_len' rfl (hH.slc (i := 4) rfl enc56_len) lenk52) rfl ?_
    refine Run.opG (wantS_yes' rfl rfl hc55) (ex_neq rfl rfl) rfl ?_
    refine Run.opG wantS_none (ex_pickF' rfl hc55 rfl rfl) rfl ?_
    refine Run.opsEnd ?_
    exact Run.pick [2, 3, 5, 6, 8, 10, 55] (law11_RunQuiet_3_ok F v5 (!((l52.length : Int) == (3 : Int))) c26_0 c26_1 c26_2 c26_3 c26_4 c26_5 c29 l37 l47 l52 sc26_0 sc26_1 sc26_2 sc26_3 sc26_4 sc26_5 b26 b29 s37 s47 s52 _ _ _ hc26_0 hc26_1 hc26_2 hc26_3 hc26_4 hc26_5 hH h)

def law11_RunQuiet (F : Nat) (a0 : S_api_Plan) (a1 : S_ringdownlaw11_Look) : Option (Bool) :=
  bnd (ref00_Mod F a1.Detector (2 : Int)) fun r32 =>
  bnd (run_Quiet F a0 r32) fun r36 =>
  bif (!(r36.2 == (0 : Int))) then
    bif ((r36.1.length : Int) == (0 : Int)) then
      bnd (works F) fun r42 =>
      law11_RunQuiet_1 F r42
    else
      law11_RunQuiet_1 F false
  else
    bnd (run_Ready F a0 r32 (1 : Int)) fun r46 =>
    bnd (run_Duty F a0) fun r51 =>
    bif (!(r46.2 == (0 : Int))) then
      law11_RunQuiet_2 F r32 true a0.Duties a0.Work a0.Vetoes.e0 a0.Vetoes.e1 a0.Data.e0 a0.Data.e1 a1 r36.1 r46.1 r51.1
    else
      law11_RunQuiet_2 F r32 (!(r51.2 == (0 : Int))) a0.Duties a0.Work a0.Vetoes.e0 a0.Vetoes.e1 a0.Data.e0 a0.Data.e1 a1 r36.1 r46.1 r51.1

theorem law11_RunQuiet_run (F : Nat) (a0 : S_api_Plan) (a1 : S_ringdownlaw11_Look) (s0 s1 s2 s3 s4 s5 : SV) (r : Bool) (M : Mem) (hs0 : Slc (rd M) 3 (FlatR enc43) s0 a0.Duties) (hs1 : Slc (rd M) 2 (FlatR enc106) s1 a0.Work) (hs2 : Slc (rd M) 2 (rep127 (rd M)) s2 a0.Vetoes.e0) (hs3 : Slc (rd M) 2 (rep127 (rd M)) s3 a0.Vetoes.e1) (hs4 : Slc (rd M) 1 (FlatR enc3) s4 a0.Data.e0) (hs5 : Slc (rd M) 1 (FlatR enc3) s5 a0.Data.e1) (hfx : FixIn M fixes) (h : law11_RunQuiet F a0 a1 = some r) : Run Tryz.prog (fx0 5) 137 (law11_RunQuiet_post r) [(0, (.agg [s0, s1, s2, s3, s4, s5])), (1, (.agg [(.int .i64 a1.Time), (.int .i64 a1.Detector), (.int .i64 a1.Length)]))] [codeC Tryz.prog 5 []] (frozen M) := by
  rw [law11_RunQuiet] at h
  replace hs0 := hs0.mono (rdLe_frozen M) (fun _ _ h => h)
  replace hs1 := hs1.mono (rdLe_frozen M) (fun _ _ h => h)
  replace hs2 := hs2.mono (rdLe_frozen M) (fun _ _ => rep127_mo (rdLe_frozen M))
  replace hs3 := hs3.mono (rdLe_frozen M) (fun _ _ => rep127_mo (rdLe_frozen M))
  replace hs4 := hs4.mono (rdLe_frozen M) (fun _ _ h => h)
  replace hs5 := hs5.mono (rdLe_frozen M) (fun _ _ h => h)
  have hH : Has (ro (frozen M)) (frozen M) [tb0, tb1, tb2, tb3] := Has.ofFix hfx.frozen
  refine Run.seq (Run.region ?_)
  refine Run.opX wantS_none rfl (ExG.box rfl rfl hH) ?_
  rintro _ M27 ⟨b26, rfl, hH27⟩
  refine Run.opX wantS_none rfl (ExG.box rfl rfl hH27) ?_
  rintro _ M30 ⟨b29, rfl, hH30⟩
  refine Run.opG wantS_none (ex_assign rfl) rfl ?_
  refine Run.opsEnd (Run.seq (Run.region ?_))
  refine Run.opG wantS_none (ex_fieldAddr rfl off46_1) rfl ?_
  refine Run.opG wantS_none (ex_load1 rfl (hH30.cells (i := 0) rfl 1 rfl) rdLe_rfl agg3) rfl ?_
  obtain ⟨r32, hr32, h⟩ := bnd_some h
  refine Run.callP wantS_none (ex_call rfl mkk14 cal14) rfl (ref00_Mod_ok F a1.Detector (2 : Int) _ _ hr32) ?_
  refine Run.opG wantS_none (ex_assign rfl) rfl ?_
  refine Run.opsEnd (Run.seq (Run.region ?_))
  refine Run.opG wantS_none (ex_loadA rfl (hH30.cells (i := 1) rfl 0 rfl) rdLe_rfl agg38 rfl rfl rfl) rfl ?_
  refine Run.opG wantS_none (ex_move rfl) rfl ?_
  obtain ⟨r36, hr36, h⟩ := bnd_some h
  refine Run.callX wantS_none (ex_call rfl mkk15 cal15) rfl (run_Quiet_ok F a0 r32 s0 s1 s2 s3 s4 s5 _ _ (hH30.slcF hs0) (hH30.slcF hs1) ((hs2).mono hH30.le (fun _ _ => rep127_mo hH30.le)) ((hs3).mono hH30.le (fun _ _ => rep127_mo hH30.le)) (hH30.slcF hs4) (hH30.slcF hs5) hr36) ?_
  rintro _ M38 ⟨s36_0, rfl, hN36⟩
  have hH38 : Has (ro (frozen M)) M38 [.vec 4 1 r36.1.length s36_0 (r36.1.flatMap enc4), .obj b29 (.row 46 .whole [(.int .i64 a1.Time), (.int .i64 a1.Detector), (.int .i64 a1.Length)]), .obj b26 (.row 38 .whole [s0, s1, s2, s3, s4, s5]), tb0, tb1, tb2, tb3] := hN36.1 _ _ hH30
  refine Run.opG wantS_none (ex_move rfl) rfl ?_
  refine Run.opG wantS_none (ex_extract rfl rfl) rfl ?_
  refine Run.opG wantS_none (ex_extract rfl rfl) rfl ?_
  refine Run.opG wantS_none (ex_assign rfl) rfl ?_
  refine Run.opG wantS_none (ex_assign rfl) rfl ?_
  refine Run.opsEnd (Run.seq (Run.seq (Run.region ?_)))
  refine Run.opG wantS_none (ex_move rfl) rfl ?_
  refine Run.opG wantS_none (ex_neq rfl rfl) rfl ?_
  refine Run.opsEnd ?_
  rcases btf ((!(r36.2 == (0 : Int)))) with hc39 | hc39
  · have h := bif_t hc39 h
    refine Run.condT' rfl hc39 ?_
    refine Run.seq (Run.region ?_)
    refine Run.opG wantS_none (ex_move rfl) rfl ?_
    refine Run.opG wantS_none (ex_len' rfl (hH38.slc (i := 0) rfl enc4_len) lenk48) rfl ?_
    refine Run.opG wantS_none (ex_eql rfl rfl) rfl ?_
    refine Run.opG wantS_none (ex_move rfl) rfl ?_
    rcases btf (((r36.1.length : Int) == (0 : Int))) with hc40 | hc40
    · have h := bif_t hc40 h
      obtain ⟨r42, hr42, h⟩ := bnd_some h
      refine Run.callP (wantS_yes' rfl rfl hc40) (ex_call rfl mkk9 cal9) rfl (works_ok F r42 _ hH38 (List.mem_of_getElem? (i := 3) rfl) (List.mem_of_getElem? (i := 4) rfl) (List.mem_of_getElem? (i := 5) rfl) (List.mem_of_getElem? (i := 6) rfl) hr42) ?_
      refine Run.opG wantS_none (ex_pickT' rfl hc40 rfl rfl) rfl ?_
      exact Run.pick [33] (law11_RunQuiet_1_ok F r42 _ _ _ (hH38.pick [3, 4, 5, 6] rfl rfl) h)
    · have h := bif_f hc40 h
      refine Run.no (wantS_not' rfl rfl hc40) rfl ?_
      refine Run.opG wantS_none (ex_pickF' rfl hc40 rfl rfl) rfl ?_
      exact Run.pick [33] (law11_RunQuiet_1_ok F false _ _ _ (hH38.pick [3, 4, 5, 6] rfl rfl) h)
  · have h := bif_f hc39 h
    refine Run.condF' rfl hc39 ?_
    refine Run.skip (Run.seq (Run.region ?_))
    refine Run.opG wantS_none (ex_loadA rfl (hH38.cells (i := 2) rfl 0 rfl) rdLe_rfl agg38 rfl rfl rfl) rfl ?_
    refine Run.opG wantS_none (ex_move rfl) rfl ?_
    obtain ⟨r46, hr46, h⟩ := bnd_some h
    refine Run.callX wantS_none (ex_call rfl mkk16 cal16) rfl (run_Ready_ok F a0 r32 (1 : Int) s0 s1 s2 s3 s4 s5 _ _ (hH38.slcF hs0) (hH38.slcF hs1) ((hs2).mono hH38.le (fun _ _ => rep127_mo hH38.le)) ((hs3).mono hH38.le (fun _ _ => rep127_mo hH38.le)) (hH38.slcF hs4) (hH38.slcF hs5) hr46) ?_
    rintro _ M48 ⟨s46_0, rfl, hN46⟩
    have hH48 : Has (ro (frozen M)) M48 [.vec 3 1 r46.1.length s46_0 (r46.1.flatMap enc3), .vec 4 1 r36.1.length s36_0 (r36.1.flatMap enc4), .obj b29 (.row 46 .whole [(.int .i64 a1.Time), (.int .i64 a1.Detector), (.int .i64 a1.Length)]), .obj b26 (.row 38 .whole [s0, s1, s2, s3, s4, s5]), tb0, tb1, tb2, tb3] := hN46.1 _ _ hH38
    refine Run.opG wantS_none (ex_move rfl) rfl ?_
    refine Run.opG wantS_none (ex_extract rfl rfl) rfl ?_
    refine Run.opG wantS_none (ex_extract rfl rfl) rfl ?_
    refine Run.opG wantS_none (ex_assign rfl) rfl ?_
    refine Run.opG wantS_none (ex_assign rfl) rfl ?_
    refine Run.opsEnd (Run.seq (Run.region ?_))
    refine Run.opG wantS_none (ex_loadA rfl (hH48.cells (i := 3) rfl 0 rfl) rdLe_rfl agg38 rfl rfl rfl) rfl ?_
    obtain ⟨r51, hr51, h⟩ := bnd_some h
    refine Run.callX wantS_none (ex_call rfl mkk17 cal17) rfl (run_Duty_ok F a0 s0 s1 s2 s3 s4 s5 _ _ (hH48.slcF hs0) (hH48.slcF hs1) ((hs2).mono hH48.le (fun _ _ => rep127_mo hH48.le)) ((hs3).mono hH48.le (fun _ _ => rep127_mo hH48.le)) (hH48.slcF hs4) (hH48.slcF hs5) hr51) ?_
    rintro _ M53 ⟨s51_0, rfl, hN51⟩
    have hH53 : Has (ro (frozen M)) M53 [.vec 56 2 r51.1.length s51_0 (r51.1.flatMap enc56), .vec 3 1 r46.1.length s46_0 (r46.1.flatMap enc3), .vec 4 1 r36.1.length s36_0 (r36.1.flatMap enc4), .obj b29 (.row 46 .whole [(.int .i64 a1.Time), (.int .i64 a1.Detector), (.int .i64 a1.Length)]), .obj b26 (.row 38 .whole [s0, s1, s2, s3, s4, s5]), tb0, tb1, tb2, tb3] := hN51.1 _ _ hH48
    refine Run.opG wantS_none (ex_move rfl) rfl ?_
    refine Run.opG wantS_none (ex_extract rfl rfl) rfl ?_
    refine Run.opG wantS_none (ex_extract rfl rfl) rfl ?_
    refine Run.opG wantS_none (ex_assign rfl) rfl ?_
    refine Run.opG wantS_none (ex_assign rfl) rfl ?_
    refine Run.opsEnd (Run.seq (Run.seq (Run.region ?_)))
    refine Run.opG wantS_none (ex_move rfl) rfl ?_
    refine Run.opG wantS_none (ex_neq rfl rfl) rfl ?_
    refine Run.opG wantS_none (ex_move rfl) rfl ?_
    rcases btf ((!(r46.2 == (0 : Int)))) with hc54 | hc54
    · have h := bif_t hc54 h
      refine Run.no (wantS_not' rfl rfl hc54) rfl ?_
      refine Run.no (wantS_not' rfl rfl hc54) rfl ?_
      refine Run.opG wantS_none (ex_pickT' rfl hc54 rfl rfl) rfl ?_
      exact Run.pick [2, 3, 5, 6, 8, 10, 50] (law11_RunQuiet_2_ok F r32 true a0.Duties a0.Work a0.Vetoes.e0 a0.Vetoes.e1 a0.Data.e0 a0.Data.e1 a1 r36.1 r46.1 r51.1 s0 s1 s2 s3 s4 s5 b26 b29 s36_0 s46_0 s51_0 _ _ _ hs0 hs1 hs2 hs3 hs4 hs5 (hH53.pick [4, 3, 2, 1, 0, 5, 6, 7, 8] rfl rfl) h)
    · have h := bif_f hc54 h
      refine Run.opG (wantS_yes' rfl rfl hc54) (ex_move rfl) rfl ?_
      refine Run.opG (wantS_yes' rfl rfl hc54) (ex_neq rfl rfl) rfl ?_
      refine Run.opG wantS_none (ex_pickF' rfl hc54 rfl rfl) rfl ?_
      exact Run.pick [2, 3, 5, 6, 8, 10, 50] (law11_RunQuiet_2_ok F r32 (!(r51.2 == (0 : Int))) a0.Duties a0.Work a0.Vetoes.e0 a0.Vetoes.e1 a0.Data.e0 a0.Data.e1 a1 r36.1 r46.1 r51.1 s0 s1 s2 s3 s4 s5 b26 b29 s36_0 s46_0 s51_0 _ _ _ hs0 hs1 hs2 hs3 hs4 hs5 (hH53.pick [4, 3, 2, 1, 0, 5, 6, 7, 8] rfl rfl) h)

end Go.Ev.RunQuiet
