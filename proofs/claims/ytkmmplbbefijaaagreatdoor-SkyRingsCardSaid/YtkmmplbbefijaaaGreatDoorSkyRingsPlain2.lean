/- Plain functions that say what functions of the program come to, and proofs of it, written by a program of the verifier's own. -/
import Derived.Test.YtkmmplbbefijaaaGreatDoorSkyRingsPlain
namespace Go.Ev.SkyRings
open Go Go.Ev Go.Proofs
set_option maxRecDepth 100000
set_option linter.unusedVariables false

abbrev ref09_CheckNet_post (r : Int) : SV → Mem → Prop := fun s _ => s = (.int .i64 r)

def ref09_CheckNet_9 (F : Nat) (hd8 : (List S_api_Site) → Bool → Int → Int → S_api_Site → Option (Int)) (v0 : (List S_api_Site)) (v3 : Bool) (v4 v6 : Int) (c28 : S_api_Site) : Option (Int) :=
  hd8 v0 v3 v4 (w64 (v6 + (1 : Int))) c28

theorem ref09_CheckNet_9_ok (F : Nat) (hd8 : (List S_api_Site) → Bool → Int → Int → S_api_Site → Option (Int)) (hhd8 : ∀ (v0 : (List S_api_Site)) (v3 : Bool) (v4 v6 : Int) (c28 : S_api_Site) (sv0 : SV) (b28 : Pos) (Fr : Rd) (M : Mem) (r : Int) (hv0 : Slc Fr 10 (FlatR enc105) sv0 v0) (hH : Has Fr M [.obj b28 (.row 105 .whole [(.str c28.Name), (.int .i64 c28.Place.e0), (.int .i64 c28.Place.e1), (.int .i64 c28.Place.e2), (.int .i64 c28.ArmU.e0), (.int .i64 c28.ArmU.e1), (.int .i64 c28.ArmU.e2), (.int .i64 c28.ArmV.e0), (.int .i64 c28.ArmV.e1), (.int .i64 c28.ArmV.e2)])]), hd8 v0 v3 v4 v6 c28 = some r → Run Tryz.prog ⟨⟨115, [], none⟩, []⟩ 71 (ref09_CheckNet_post r) [(0, sv0), (3, (.bool v3)), (4, (.int .i64 v4)), (5, (.ptr b28 0)), (6, (.int .i64 v6))] [codeC Tryz.prog 115 [1, 1, 0, 1, 0, 0, 1, 0, 0, 1, 1, 1, 0, 0], loopC Tryz.prog 115 [1, 1, 0, 1, 0, 0, 1, 0, 0, 1, 1, 1, 0, 0], .inBlock 2, .inBlock 1, codeC Tryz.prog 115 [1, 1, 0, 1, 0, 0, 1, 1], loopC Tryz.prog 115 [1, 1, 0, 1, 0, 0], .inBlock 0, codeC Tryz.prog 115 [1, 1, 1]] M) : ∀ (v0 : (List S_api_Site)) (v3 : Bool) (v4 v6 : Int) (c28 : S_api_Site) (sv0 : SV) (b28 : Pos) (Fr : Rd) (M : Mem) (r : Int) (hv0 : Slc Fr 10 (FlatR enc105) sv0 v0) (hH : Has Fr M [.obj b28 (.row 105 .whole [(.str c28.Name), (.int .i64 c28.Place.e0), (.int .i64 c28.Place.e1), (.int .i64 c28.Place.e2), (.int .i64 c28.ArmU.e0), (.int .i64 c28.ArmU.e1), (.int .i64 c28.ArmU.e2), (.int .i64 c28.ArmV.e0), (.int .i64 c28.ArmV.e1), (.int .i64 c28.ArmV.e2)])]), ref09_CheckNet_9 F hd8 v0 v3 v4 v6 c28 = some r → Run Tryz.prog ⟨⟨115, [], none⟩, []⟩ 71 (ref09_CheckNet_post r) [(0, sv0), (3, (.bool v3)), (4, (.int .i64 v4)), (5, (.ptr b28 0)), (6, (.int .i64 v6))] [itemC Tryz.prog 115 [1, 1, 0, 1, 0, 0, 1, 0, 0, 1, 1, 1, 0, 0, 1, 1] 0, loopC Tryz.prog 115 [1, 1, 0, 1, 0, 0, 1, 0, 0, 1, 1, 1, 0, 0], .inBlock 2, .inBlock 1, codeC Tryz.prog 115 [1, 1, 0, 1, 0, 0, 1, 1], loopC Tryz.prog 115 [1, 1, 0, 1, 0, 0], .inBlock 0, codeC Tryz.prog 115 [1, 1, 1]] M := by
  intro v0 v3 v4 v6 c28 sv0 b28 Fr M r hv0 hH h
  rw [ref09_CheckNet_9] at h
  refine Run.opG wantS_none (ex_move rfl) rfl ?_
  refine Run.opG wantS_none (ex_add rfl rfl) rfl ?_
  refine Run.opG wantS_none (ex_assign rfl) rfl ?_
  refine Run.opsEnd (Run.inLoop ?_)
  exact Run.pick [0, 3, 4, 5, 6] (hhd8 v0 v3 v4 (w64 (v6 + (1 : Int))) c28 sv0 b28 _ _ _ hv0 hH h)

def ref09_CheckNet_8 (F : Nat) (hd1 : (List S_api_Site) → Bool → Int → Option (Int)) : Nat → (List S_api_Site) → Bool → Int → Int → S_api_Site → Option (Int)
  | 0, _, _, _, _, _ => none
  | N + 1, v0, v3, v4, v6, c28 =>
    bif (decide (v6 < v4)) then
      bif v3 then
        bnd (idx v0 v6) fun x51 =>
        ref09_CheckNet_9 F (ref09_CheckNet_8 F hd1 N) v0 (!(x51.Name == c28.Name)) v4 v6 c28
      else
        ref09_CheckNet_9 F (ref09_CheckNet_8 F hd1 N) v0 false v4 v6 c28
    else
      hd1 v0 v3 (w64 (v4 + (1 : Int)))

theorem ref09_CheckNet_8_ok (F : Nat) (hd1 : (List S_api_Site) → Bool → Int → Option (Int)) (hhd1 : ∀ (v0 : (List S_api_Site)) (v3 : Bool) (v4 : Int) (sv0 : SV) (Fr : Rd) (M : Mem) (r : Int) (hv0 : Slc Fr 10 (FlatR enc105) sv0 v0) (hH : Has Fr M []), hd1 v0 v3 v4 = some r → Run Tryz.prog ⟨⟨115, [], none⟩, []⟩ 71 (ref09_CheckNet_post r) [(0, sv0), (3, (.bool v3)), (4, (.int .i64 v4))] [codeC Tryz.prog 115 [1, 1, 0, 1, 0, 0], loopC Tryz.prog 115 [1, 1, 0, 1, 0, 0], .inBlock 0, codeC Tryz.prog 115 [1, 1, 1]] M) : ∀ (N : Nat), ∀ (v0 : (List S_api_Site)) (v3 : Bool) (v4 v6 : Int) (c28 : S_api_Site) (sv0 : SV) (b28 : Pos) (Fr : Rd) (M : Mem) (r : Int) (hv0 : Slc Fr 10 (FlatR enc105) sv0 v0) (hH : Has Fr M [.obj b28 (.row 105 .whole [(.str c28.Name), (.int .i64 c28.Place.e0), (.int .i64 c28.Place.e1), (.int .i64 c28.Place.e2), (.int .i64 c28.ArmU.e0), (.int .i64 c28.ArmU.e1), (.int .i64 c28.ArmU.e2), (.int .i64 c28.ArmV.e0), (.int .i64 c28.ArmV.e1), (.int .i64 c28.ArmV.e2)])]), ref09_CheckNet_8 F hd1 N v0 v3 v4 v6 c28 = some r → Run Tryz.prog ⟨⟨115, [], none⟩, []⟩ 71 (ref09_CheckNet_post r) [(0, sv0), (3, (.bool v3)), (4, (.int .i64 v4)), (5, (.ptr b28 0)), (6, (.int .i64 v6))] [codeC Tryz.prog 115 [1, 1, 0, 1, 0, 0, 1, 0, 0, 1, 1, 1, 0, 0], loopC Tryz.prog 115 [1, 1, 0, 1, 0, 0, 1, 0, 0, 1, 1, 1, 0, 0], .inBlock 2, .inBlock 1, codeC Tryz.prog 115 [1, 1, 0, 1, 0, 0, 1, 1], loopC Tryz.prog 115 [1, 1, 0, 1, 0, 0], .inBlock 0, codeC Tryz.prog 115 [1, 1, 1]] M := by
  intro N
  induction N with
  | zero =>
    intro v0 v3 v4 v6 c28 sv0 b28 Fr M r hv0 hH h
    simp [ref09_CheckNet_8] at h
  | succ N ih =>
    intro v0 v3 v4 v6 c28 sv0 b28 Fr M r hv0 hH h
    rw [ref09_CheckNet_8] at h
    refine Run.seq (Run.seq (Run.region ?_))
    refine Run.opG wantS_none (ex_move rfl) rfl ?_
    refine Run.opG wantS_none (ex_move rfl) rfl ?_
    refine Run.opG wantS_none (ex_lss rfl rfl) rfl ?_
    refine Run.opsEnd ?_
    rcases btf ((decide (v6 < v4))) with hc49 | hc49
    · have h := bif_t hc49 h
      refine Run.condT' rfl hc49 ?_
      refine Run.skip (Run.seq (Run.block ?_))
      refine Run.drawG plan115_1_1_0_1_0_0_1_0_0_1_1_1_0_0_1_0_0 ?_
      refine DrawG.fl rfl (ev_ex wantS_none (ex_move rfl)) rfl ?_
      refine DrawG.fl rfl (ev_ex wantS_none (ex_move rfl)) rfl ?_
      rcases btf (v3) with hc50 | hc50
      · have h := bif_t hc50 h
        refine DrawG.fl rfl (ev_ex (wantS_yes' rfl rfl hc50) (ex_move rfl)) rfl ?_
        refine DrawG.fl rfl (ev_ex (wantS_yes' rfl rfl hc50) (ex_move rfl)) rfl ?_
        obtain ⟨x51, hx51, h⟩ := bnd_some h
        obtain ⟨p51, o51, _, hx51, hp51, rfl⟩ := sl_elem (P := Tryz.prog) (t := 31) (kk := .i64) hv0 hx51 els31
        refine DrawG.fl rfl (ev_ex (wantS_yes' rfl rfl hc50) (ex_elX rfl rfl hx51)) rfl ?_
        have hp52 := (hp51.fld (o := 0) rfl)
        refine DrawG.fl rfl (ev_ex (wantS_yes' rfl rfl hc50) (ex_fieldAddr rfl off105_0)) rfl ?_
        refine DrawG.fl rfl (ev_ex (wantS_yes' rfl rfl hc50) (ex_load1 rfl (hH.ptrF hp52) rdLe_rfl agg9)) rfl ?_
        refine DrawG.fl rfl (ev_ex (wantS_yes' rfl rfl hc50) (ex_fieldAddr rfl off105_0)) rfl ?_
        refine DrawG.fl rfl (ev_ex (wantS_yes' rfl rfl hc50) (ex_load1 rfl (hH.cells (i := 0) rfl 0 rfl) rdLe_rfl agg9)) rfl ?_
        refine DrawG.fl rfl (ev_ex (wantS_yes' rfl rfl hc50) (ex_neqS rfl rfl)) rfl ?_
        refine DrawG.fl rfl (ev_ex wantS_none (ex_pickT' rfl hc50 rfl rfl)) rfl ?_
        refine DrawG.val rfl wantS_none (ex_assign rfl) rfl st_nil ?_
        refine DrawG.sync ?_
        refine DrawG.nil ?_
        refine Run.inBlock (Run.region ?_)
        exact Run.pick [0, 3, 4, 5, 6] (ref09_CheckNet_9_ok F (ref09_CheckNet_8 F hd1 N) ih v0 (!(x51.Name == c28.Name)) v4 v6 c28 sv0 b28 _ _ _ hv0 hH h)
      · have h := bif_f hc50 h
        refine DrawG.fl rfl (ev_no (wantS_not' rfl rfl hc50)) rfl ?_
        refine DrawG.fl rfl (ev_no (wantS_not' rfl rfl hc50)) rfl ?_
        refine DrawG.fl rfl (ev_no (wantS_not' rfl rfl hc50)) rfl ?_
        refine DrawG.fl rfl (ev_no (wantS_not' rfl rfl hc50)) rfl ?_
        refine DrawG.fl rfl (ev_no (wantS_not' rfl rfl hc50)) rfl ?_
        refine DrawG.fl rfl (ev_no (wantS_not' rfl rfl hc50)) rfl ?_
        refine DrawG.fl rfl (ev_no (wantS_not' rfl rfl hc50)) rfl ?_
        refine DrawG.fl rfl (ev_no (wantS_not' rfl rfl hc50)) rfl ?_
        refine DrawG.fl rfl (ev_ex wantS_none (ex_pickF' rfl hc50 rfl rfl)) rfl ?_
        refine DrawG.val rfl wantS_none (ex_assign rfl) rfl st_nil ?_
        refine DrawG.sync ?_
        refine DrawG.nil ?_
        refine Run.inBlock (Run.region ?_)
        exact Run.pick [0, 3, 4, 5, 6] (ref09_CheckNet_9_ok F (ref09_CheckNet_8 F hd1 N) ih v0 false v4 v6 c28 sv0 b28 _ _ _ hv0 hH h)
    · have h := bif_f hc49 h
      refine Run.condF' rfl hc49 ?_
      refine Run.exit rfl (Run.inBlock (Run.region ?_))
      refine Run.opG wantS_none (ex_move rfl) rfl ?_
      refine Run.opG wantS_none (ex_add rfl rfl) rfl ?_
      refine Run.opG wantS_none (ex_assign rfl) rfl ?_
      refine Run.opsEnd (Run.inLoop ?_)
      exact Run.pick [0, 3, 4] (hhd1 v0 v3 (w64 (v4 + (1 : Int))) sv0 _ _ _ hv0 (hH.pick [] rfl rfl) h)

def ref09_CheckNet_7 (F : Nat) (hd1 : (List S_api_Site) → Bool → Int → Option (Int)) (v0 : (List S_api_Site)) (v4 : Int) (v52 : Bool) (c28 : S_api_Site) : Option (Int) :=
  ref09_CheckNet_8 F hd1 F v0 v52 v4 (0 : Int) c28

theorem ref09_CheckNet_7_ok (F : Nat) (hd1 : (List S_api_Site) → Bool → Int → Option (Int)) (hhd1 : ∀ (v0 : (List S_api_Site)) (v3 : Bool) (v4 : Int) (sv0 : SV) (Fr : Rd) (M : Mem) (r : Int) (hv0 : Slc Fr 10 (FlatR enc105) sv0 v0) (hH : Has Fr M []), hd1 v0 v3 v4 = some r → Run Tryz.prog ⟨⟨115, [], none⟩, []⟩ 71 (ref09_CheckNet_post r) [(0, sv0), (3, (.bool v3)), (4, (.int .i64 v4))] [codeC Tryz.prog 115 [1, 1, 0, 1, 0, 0], loopC Tryz.prog 115 [1, 1, 0, 1, 0, 0], .inBlock 0, codeC Tryz.prog 115 [1, 1, 1]] M) : ∀ (v0 : (List S_api_Site)) (v4 : Int) (v52 : Bool) (c28 : S_api_Site) (sv0 : SV) (b28 : Pos) (Fr : Rd) (M : Mem) (r : Int) (hv0 : Slc Fr 10 (FlatR enc105) sv0 v0) (hH : Has Fr M [.obj b28 (.row 105 .whole [(.str c28.Name), (.int .i64 c28.Place.e0), (.int .i64 c28.Place.e1), (.int .i64 c28.Place.e2), (.int .i64 c28.ArmU.e0), (.int .i64 c28.ArmU.e1), (.int .i64 c28.ArmU.e2), (.int .i64 c28.ArmV.e0), (.int .i64 c28.ArmV.e1), (.int .i64 c28.ArmV.e2)])]), ref09_CheckNet_7 F hd1 v0 v4 v52 c28 = some r → Run Tryz.prog ⟨⟨115, [], none⟩, []⟩ 71 (ref09_CheckNet_post r) [(0, sv0), (4, (.int .i64 v4)), (5, (.ptr b28 0)), (52, (.bool v52))] [itemC Tryz.prog 115 [1, 1, 0, 1, 0, 0, 1, 0, 0, 1, 0] 33, codeC Tryz.prog 115 [1, 1, 0, 1, 0, 0, 1, 0, 0, 1, 1], .inBlock 1, codeC Tryz.prog 115 [1, 1, 0, 1, 0, 0, 1, 1], loopC Tryz.prog 115 [1, 1, 0, 1, 0, 0], .inBlock 0, codeC Tryz.prog 115 [1, 1, 1]] M := by
  intro v0 v4 v52 c28 sv0 b28 Fr M r hv0 hH h
  rw [ref09_CheckNet_7] at h
  refine Run.opG wantS_none (ex_assign rfl) rfl ?_
  refine Run.opsEnd (Run.seq (Run.region ?_))
  refine Run.opG wantS_none (ex_assign rfl) rfl ?_
  refine Run.opsEnd (Run.block (Run.loop ?_))
  exact Run.pick [0, 3, 4, 5, 6] (ref09_CheckNet_8_ok F hd1 hhd1 F v0 v52 v4 (0 : Int) c28 sv0 b28 _ _ _ hv0 hH h)

def ref09_CheckNet_6 (F : Nat) (hd1 : (List S_api_Site) → Bool → Int → Option (Int)) (v0 : (List S_api_Site)) (v4 : Int) (v46 : Bool) (c28 : S_api_Site) : Option (Int) :=
  bif v46 then
    ref09_CheckNet_7 F hd1 v0 v4 (!((c28.ArmV.e0 == (0 : Int)) && ((c28.ArmV.e1 == (0 : Int)) && ((c28.ArmV.e2 == (0 : Int)) && true)))) c28
  else
    ref09_CheckNet_7 F hd1 v0 v4 false c28

theorem ref09_CheckNet_6_ok (F : Nat) (hd1 : (List S_api_Site) → Bool → Int → Option (Int)) (hhd1 : ∀ (v0 : (List S_api_Site)) (v3 : Bool) (v4 : Int) (sv0 : SV) (Fr : Rd) (M : Mem) (r : Int) (hv0 : Slc Fr 10 (FlatR enc105) sv0 v0) (hH : Has Fr M []), hd1 v0 v3 v4 = some r → Run Tryz.prog ⟨⟨115, [], none⟩, []⟩ 71 (ref09_CheckNet_post r) [(0, sv0), (3, (.bool v3)), (4, (.int .i64 v4))] [codeC Tryz.prog 115 [1, 1, 0, 1, 0, 0], loopC Tryz.prog 115 [1, 1, 0, 1, 0, 0], .inBlock 0, codeC Tryz.prog 115 [1, 1, 1]] M) : ∀ (v0 : (List S_api_Site)) (v4 : Int) (v46 : Bool) (c28 : S_api_Site) (sv0 : SV) (b28 : Pos) (Fr : Rd) (M : Mem) (r : Int) (hv0 : Slc Fr 10 (FlatR enc105) sv0 v0) (hH : Has Fr M [.obj b28 (.row 105 .whole [(.str c28.Name), (.int .i64 c28.Place.e0), (.int .i64 c28.Place.e1), (.int .i64 c28.Place.e2), (.int .i64 c28.ArmU.e0), (.int .i64 c28.ArmU.e1), (.int .i64 c28.ArmU.e2), (.int .i64 c28.ArmV.e0), (.int .i64 c28.ArmV.e1), (.int .i64 c28.ArmV.e2)])]), ref09_CheckNet_6 F hd1 v0 v4 v46 c28 = some r → Run Tryz.prog ⟨⟨115, [], none⟩, []⟩ 71 (ref09_CheckNet_post r) [(0, sv0), (4, (.int .i64 v4)), (5, (.ptr b28 0)), (46, (.bool v46))] [itemC Tryz.prog 115 [1, 1, 0, 1, 0, 0, 1, 0, 0, 1, 0] 27, codeC Tryz.prog 115 [1, 1, 0, 1, 0, 0, 1, 0, 0, 1, 1], .inBlock 1, codeC Tryz.prog 115 [1, 1, 0, 1, 0, 0, 1, 1], loopC Tryz.prog 115 [1, 1, 0, 1, 0, 0], .inBlock 0, codeC Tryz.prog 115 [1, 1, 1]] M := by
  intro v0 v4 v46 c28 sv0 b28 Fr M r hv0 hH h
  rw [ref09_CheckNet_6] at h
  refine Run.opG wantS_none (ex_move rfl) rfl ?_
  rcases btf (v46) with hc48 | hc48
  · have h := bif_t hc48 h
    refine Run.opG (wantS_yes' rfl rfl hc48) (ex_fieldAddr rfl off105_3) rfl ?_
    refine Run.opG (wantS_yes' rfl rfl hc48) (ex_loadA rfl (hH.cells (i := 0) rfl 7 rfl) rdLe_rfl agg22 rfl rfl rfl) rfl ?_
    refine Run.opG (wantS_yes' rfl rfl hc48) (ex_buildA (r := [(.int .i64 0), (.int .i64 0), (.int .i64 0)]) rfl zer22 pls22 rfl) rfl ?_
    refine Run.opG (wantS_yes' rfl rfl hc48) (ex_neqA rfl rfl aeq22 (eqA_ar agk22 (eqEs_cons (part_one agg3 rfl) (part_one agg3 rfl) (eqA_int agk3) (eqEs_cons (part_one agg3 rfl) (part_one agg3 rfl) (eqA_int agk3) (eqEs_cons (part_one agg3 rfl) (part_one agg3 rfl) (eqA_int agk3) eqEs_nil))))) rfl ?_
    refine Run.opG wantS_none (ex_pickT' rfl hc48 rfl rfl) rfl ?_
    exact Run.pick [0, 4, 5, 52] (ref09_CheckNet_7_ok F hd1 hhd1 v0 v4 (!((c28.ArmV.e0 == (0 : Int)) && ((c28.ArmV.e1 == (0 : Int)) && ((c28.ArmV.e2 == (0 : Int)) && true)))) c28 sv0 b28 _ _ _ hv0 hH h)
  · have h := bif_f hc48 h
    refine Run.no (wantS_not' rfl rfl hc48) rfl ?_
    refine Run.no (wantS_not' rfl rfl hc48) rfl ?_
    refine Run.no (wantS_not' rfl rfl hc48) rfl ?_
    refine Run.no (wantS_not' rfl rfl hc48) rfl ?_
    refine Run.opG wantS_none (ex_pickF' rfl hc48 rfl rfl) rfl ?_
    exact Run.pick [0, 4, 5, 52] (ref09_CheckNet_7_ok F hd1 hhd1 v0 v4 false c28 sv0 b28 _ _ _ hv0 hH h)

def ref09_CheckNet_5 (F : Nat) (hd1 : (List S_api_Site) → Bool → Int → Option (Int)) (v0 : (List S_api_Site)) (v4 : Int) (v40 : Bool) (c28 : S_api_Site) : Option (Int) :=
  bif v40 then
    ref09_CheckNet_6 F hd1 v0 v4 (!((c28.ArmU.e0 == (0 : Int)) && ((c28.ArmU.e1 == (0 : Int)) && ((c28.ArmU.e2 == (0 : Int)) && true)))) c28
  else
    ref09_CheckNet_6 F hd1 v0 v4 false c28

theorem ref09_CheckNet_5_ok (F : Nat) (hd1 : (List S_api_Site) → Bool → Int → Option (Int)) (hhd1 : ∀ (v0 : (List S_api_Site)) (v3 : Bool) (v4 : Int) (sv0 : SV) (Fr : Rd) (M : Mem) (r : Int) (hv0 : Slc Fr 10 (FlatR enc105) sv0 v0) (hH : Has Fr M []), hd1 v0 v3 v4 = some r → Run Tryz.prog ⟨⟨115, [], none⟩, []⟩ 71 (ref09_CheckNet_post r) [(0, sv0), (3, (.bool v3)), (4, (.int .i64 v4))] [codeC Tryz.prog 115 [1, 1, 0, 1, 0, 0], loopC Tryz.prog 115 [1, 1, 0, 1, 0, 0], .inBlock 0, codeC Tryz.prog 115 [1, 1, 1]] M) : ∀ (v0 : (List S_api_Site)) (v4 : Int) (v40 : Bool) (c28 : S_api_Site) (sv0 : SV) (b28 : Pos) (Fr : Rd) (M : Mem) (r : Int) (hv0 : Slc Fr 10 (FlatR enc105) sv0 v0) (hH : Has Fr M [.obj b28 (.row 105 .whole [(.str c28.Name), (.int .i64 c28.Place.e0), (.int .i64 c28.Place.e1), (.int .i64 c28.Place.e2), (.int .i64 c28.ArmU.e0), (.int .i64 c28.ArmU.e1), (.int .i64 c28.ArmU.e2), (.int .i64 c28.ArmV.e0), (.int .i64 c28.ArmV.e1), (.int .i64 c28.ArmV.e2)])]), ref09_CheckNet_5 F hd1 v0 v4 v40 c28 = some r → Run Tryz.prog ⟨⟨115, [], none⟩, []⟩ 71 (ref09_CheckNet_post r) [(0, sv0), (4, (.int .i64 v4)), (5, (.ptr b28 0)), (40, (.bool v40))] [itemC Tryz.prog 115 [1, 1, 0, 1, 0, 0, 1, 0, 0, 1, 0] 21, codeC Tryz.prog 115 [1, 1, 0, 1, 0, 0, 1, 0, 0, 1, 1], .inBlock 1, codeC Tryz.prog 115 [1, 1, 0, 1, 0, 0, 1, 1], loopC Tryz.prog 115 [1, 1, 0, 1, 0, 0], .inBlock 0, codeC Tryz.prog 115 [1, 1, 1]] M := by
  intro v0 v4 v40 c28 sv0 b28 Fr M r hv0 hH h
  rw [ref09_CheckNet_5] at h
  refine Run.opG wantS_none (ex_move rfl) rfl ?_
  rcases btf (v40) with hc47 | hc47
  · have h := bif_t hc47 h
    refine Run.opG (wantS_yes' rfl rfl hc47) (ex_fieldAddr rfl off105_2) rfl ?_
    refine Run.opG (wantS_yes' rfl rfl hc47) (ex_loadA rfl (hH.cells (i := 0) rfl 4 rfl) rdLe_rfl agg22 rfl rfl rfl) rfl ?_
    refine Run.opG (wantS_yes' rfl rfl hc47) (ex_buildA (r := [(.int .i64 0), (.int .i64 0), (.int .i64 0)]) rfl zer22 pls22 rfl) rfl ?_
    refine Run.opG (wantS_yes' rfl rfl hc47) (ex_neqA rfl rfl aeq22 (eqA_ar agk22 (eqEs_cons (part_one agg3 rfl) (part_one agg3 rfl) (eqA_int agk3) (eqEs_cons (part_one agg3 rfl) (part_one agg3 rfl) (eqA_int agk3) (eqEs_cons (part_one agg3 rfl) (part_one agg3 rfl) (eqA_int agk3) eqEs_nil))))) rfl ?_
    refine Run.opG wantS_none (ex_pickT' rfl hc47 rfl rfl) rfl ?_
    exact Run.pick [0, 4, 5, 46] (ref09_CheckNet_6_ok F hd1 hhd1 v0 v4 (!((c28.ArmU.e0 == (0 : Int)) && ((c28.ArmU.e1 == (0 : Int)) && ((c28.ArmU.e2 == (0 : Int)) && true)))) c28 sv0 b28 _ _ _ hv0 hH h)
  · have h := bif_f hc47 h
    refine Run.no (wantS_not' rfl rfl hc47) rfl ?_
    refine Run.no (wantS_not' rfl rfl hc47) rfl ?_
    refine Run.no (wantS_not' rfl rfl hc47) rfl ?_
    refine Run.no (wantS_not' rfl rfl hc47) rfl ?_
    refine Run.opG wantS_none (ex_pickF' rfl hc47 rfl rfl) rfl ?_
    exact Run.pick [0, 4, 5, 46] (ref09_CheckNet_6_ok F hd1 hhd1 v0 v4 false c28 sv0 b28 _ _ _ hv0 hH h)

def ref09_CheckNet_4 (F : Nat) (hd1 : (List S_api_Site) → Bool → Int → Option (Int)) (v0 : (List S_api_Site)) (v4 : Int) (v35 : Bool) (c28 : S_api_Site) : Option (Int) :=
  bif v35 then
    bnd (ref09_vector F c28.ArmV (100 : Int)) fun r45 =>
    ref09_CheckNet_5 F hd1 v0 v4 r45 c28
  else
    ref09_CheckNet_5 F hd1 v0 v4 false c28

theorem ref09_CheckNet_4_ok (F : Nat) (hd1 : (List S_api_Site) → Bool → Int → Option (Int)) (hhd1 : ∀ (v0 : (List S_api_Site)) (v3 : Bool) (v4 : Int) (sv0 : SV) (Fr : Rd) (M : Mem) (r : Int) (hv0 : Slc Fr 10 (FlatR enc105) sv0 v0) (hH : Has Fr M []), hd1 v0 v3 v4 = some r → Run Tryz.prog ⟨⟨115, [], none⟩, []⟩ 71 (ref09_CheckNet_post r) [(0, sv0), (3, (.bool v3)), (4, (.int .i64 v4))] [codeC Tryz.prog 115 [1, 1, 0, 1, 0, 0], loopC Tryz.prog 115 [1, 1, 0, 1, 0, 0], .inBlock 0, codeC Tryz.prog 115 [1, 1, 1]] M) : ∀ (v0 : (List S_api_Site)) (v4 : Int) (v35 : Bool) (c28 : S_api_Site) (sv0 : SV) (b28 : Pos) (Fr : Rd) (M : Mem) (r : Int) (hv0 : Slc Fr 10 (FlatR enc105) sv0 v0) (hH : Has Fr M [.obj b28 (.row 105 .whole [(.str c28.Name), (.int .i64 c28.Place.e0), (.int .i64 c28.Place.e1), (.int .i64 c28.Place.e2), (.int .i64 c28.ArmU.e0), (.int .i64 c28.ArmU.e1), (.int .i64 c28.ArmU.e2), (.int .i64 c28.ArmV.e0), (.int .i64 c28.ArmV.e1), (.int .i64 c28.ArmV.e2)])]), ref09_CheckNet_4 F hd1 v0 v4 v35 c28 = some r → Run Tryz.prog ⟨⟨115, [], none⟩, []⟩ 71 (ref09_CheckNet_post r) [(0, sv0), (4, (.int .i64 v4)), (5, (.ptr b28 0)), (35, (.bool v35))] [itemC Tryz.prog 115 [1, 1, 0, 1, 0, 0, 1, 0, 0, 1, 0] 16, codeC Tryz.prog 115 [1, 1, 0, 1, 0, 0, 1, 0, 0, 1, 1], .inBlock 1, codeC Tryz.prog 115 [1, 1, 0, 1, 0, 0, 1, 1], loopC Tryz.prog 115 [1, 1, 0, 1, 0, 0], .inBlock 0, codeC Tryz.prog 115 [1, 1, 1]] M := by
  intro v0 v4 v35 c28 sv0 b28 Fr M r hv0 hH h
  rw [ref09_CheckNet_4] at h
  refine Run.opG wantS_none (ex_move rfl) rfl ?_
  rcases btf (v35) with hc43 | hc43
  · have h := bif_t hc43 h
    refine Run.opG (wantS_yes' rfl rfl hc43) (ex_fieldAddr rfl off105_3) rfl ?_
    refine Run.opG (wantS_yes' rfl rfl hc43) (ex_loadA rfl (hH.cells (i := 0) rfl 7 rfl) rdLe_rfl agg22 rfl rfl rfl) rfl ?_
    obtain ⟨r45, hr45, h⟩ := bnd_some h
    refine Run.callP (wantS_yes' rfl rfl hc43) (ex_call rfl mkk77 cal77) rfl (ref09_vector_ok F c28.ArmV (100 : Int) _ _ hr45) ?_
    refine Run.opG wantS_none (ex_pickT' rfl hc43 rfl rfl) rfl ?_
    exact Run.pick [0, 4, 5, 40] (ref09_CheckNet_5_ok F hd1 hhd1 v0 v4 r45 c28 sv0 b28 _ _ _ hv0 hH h)
  · have h := bif_f hc43 h
    refine Run.no (wantS_not' rfl rfl hc43) rfl ?_
    refine Run.no (wantS_not' rfl rfl hc43) rfl ?_
    refine Run.no (wantS_not' rfl rfl hc43) rfl ?_
    refine Run.opG wantS_none (ex_pickF' rfl hc43 rfl rfl) rfl ?_
    exact Run.pick [0, 4, 5, 40] (ref09_CheckNet_5_ok F hd1 hhd1 v0 v4 false c28 sv0 b28 _ _ _ hv0 hH h)

def ref09_CheckNet_3 (F : Nat) (hd1 : (List S_api_Site) → Bool → Int → Option (Int)) (v0 : (List S_api_Site)) (v4 : Int) (v30 : Bool) (c28 : S_api_Site) : Option (Int) :=
  bif v30 then
    bnd (ref09_vector F c28.ArmU (100 : Int)) fun r41 =>
    ref09_CheckNet_4 F hd1 v0 v4 r41 c28
  else
    ref09_CheckNet_4 F hd1 v0 v4 false c28

theorem ref09_CheckNet_3_ok (F : Nat) (hd1 : (List S_api_Site) → Bool → Int → Option (Int)) (hhd1 : ∀ (v0 : (List S_api_Site)) (v3 : Bool) (v4 : Int) (sv0 : SV) (Fr : Rd) (M : Mem) (r : Int) (hv0 : Slc Fr 10 (FlatR enc105) sv0 v0) (hH : Has Fr M []), hd1 v0 v3 v4 = some r → Run Tryz.prog ⟨⟨115, [], none⟩, []⟩ 71 (ref09_CheckNet_post r) [(0, sv0), (3, (.bool v3)), (4, (.int .i64 v4))] [codeC Tryz.prog 115 [1, 1, 0, 1, 0, 0], loopC Tryz.prog 115 [1, 1, 0, 1, 0, 0], .inBlock 0, codeC Tryz.prog 115 [1, 1, 1]] M) : ∀ (v0 : (List S_api_Site)) (v4 : Int) (v30 : Bool) (c28 : S_api_Site) (sv0 : SV) (b28 : Pos) (Fr : Rd) (M : Mem) (r : Int) (hv0 : Slc Fr 10 (FlatR enc105) sv0 v0) (hH : Has Fr M [.obj b28 (.row 105 .whole [(.str c28.Name), (.int .i64 c28.Place.e0), (.int .i64 c28.Place.e1), (.int .i64 c28.Place.e2), (.int .i64 c28.ArmU.e0), (.int .i64 c28.ArmU.e1), (.int .i64 c28.ArmU.e2), (.int .i64 c28.ArmV.e0), (.int .i64 c28.ArmV.e1), (.int .i64 c28.ArmV.e2)])]), ref09_CheckNet_3 F hd1 v0 v4 v30 c28 = some r → Run Tryz.prog ⟨⟨115, [], none⟩, []⟩ 71 (ref09_CheckNet_post r) [(0, sv0), (4, (.int .i64 v4)), (5, (.ptr b28 0)), (30, (.bool v30))] [itemC Tryz.prog 115 [1, 1, 0, 1, 0, 0, 1, 0, 0, 1, 0] 11, codeC Tryz.prog 115 [1, 1, 0, 1, 0, 0, 1, 0, 0, 1, 1], .inBlock 1, codeC Tryz.prog 115 [1, 1, 0, 1, 0, 0, 1, 1], loopC Tryz.prog 115 [1, 1, 0, 1, 0, 0], .inBlock 0, codeC Tryz.prog 115 [1, 1, 1]] M := by
  intro v0 v4 v30 c28 sv0 b28 Fr M r hv0 hH h
  rw [ref09_CheckNet_3] at h
  refine Run.opG wantS_none (ex_move rfl) rfl ?_
  rcases btf (v30) with hc39 | hc39
  · have h := bif_t hc39 h
    refine Run.opG (wantS_yes' rfl rfl hc39) (ex_fieldAddr rfl off105_2) rfl ?_
    refine Run.opG (wantS_yes' rfl rfl hc39) (ex_loadA rfl (hH.cells (i := 0) rfl 4 rfl) rdLe_rfl agg22 rfl rfl rfl) rfl ?_
    obtain ⟨r41, hr41, h⟩ := bnd_some h
    refine Run.callP (wantS_yes' rfl rfl hc39) (ex_call rfl mkk77 cal77) rfl (ref09_vector_ok F c28.ArmU (100 : Int) _ _ hr41) ?_
    refine Run.opG wantS_none (ex_pickT' rfl hc39 rfl rfl) rfl ?_
    exact Run.pick [0, 4, 5, 35] (ref09_CheckNet_4_ok F hd1 hhd1 v0 v4 r41 c28 sv0 b28 _ _ _ hv0 hH h)
  · have h := bif_f hc39 h
    refine Run.no (wantS_not' rfl rfl hc39) rfl ?_
    refine Run.no (wantS_not' rfl rfl hc39) rfl ?_
    refine Run.no (wantS_not' rfl rfl hc39) rfl ?_
    refine Run.opG wantS_none (ex_pickF' rfl hc39 rfl rfl) rfl ?_
    exact Run.pick [0, 4, 5, 35] (ref09_CheckNet_4_ok F hd1 hhd1 v0 v4 false c28 sv0 b28 _ _ _ hv0 hH h)

def ref09_CheckNet_2 (F : Nat) (hd1 : (List S_api_Site) → Bool → Int → Option (Int)) (v0 : (List S_api_Site)) (v4 : Int) (v25 : Bool) (c28 : S_api_Site) : Option (Int) :=
  bif v25 then
    bnd (ref09_vector F c28.Place (65536 : Int)) fun r37 =>
    ref09_CheckNet_3 F hd1 v0 v4 r37 c28
  else
    ref09_CheckNet_3 F hd1 v0 v4 false c28

theorem ref09_CheckNet_2_ok (F : Nat) (hd1 : (List S_api_Site) → Bool → Int → Option (Int)) (hhd1 : ∀ (v0 : (List S_api_Site)) (v3 : Bool) (v4 : Int) (sv0 : SV) (Fr : Rd) (M : Mem) (r : Int) (hv0 : Slc Fr 10 (FlatR enc105) sv0 v0) (hH : Has Fr M []), hd1 v0 v3 v4 = some r → Run Tryz.prog ⟨⟨115, [], none⟩, []⟩ 71 (ref09_CheckNet_post r) [(0, sv0), (3, (.bool v3)), (4, (.int .i64 v4))] [codeC Tryz.prog 115 [1, 1, 0, 1, 0, 0], loopC Tryz.prog 115 [1, 1, 0, 1, 0, 0], .inBlock 0, codeC Tryz.prog 115 [1, 1, 1]] M) : ∀ (v0 : (List S_api_Site)) (v4 : Int) (v25 : Bool) (c28 : S_api_Site) (sv0 : SV) (b28 : Pos) (Fr : Rd) (M : Mem) (r : Int) (hv0 : Slc Fr 10 (FlatR enc105) sv0 v0) (hH : Has Fr M [.obj b28 (.row 105 .whole [(.str c28.Name), (.int .i64 c28.Place.e0), (.int .i64 c28.Place.e1), (.int .i64 c28.Place.e2), (.int .i64 c28.ArmU.e0), (.int .i64 c28.ArmU.e1), (.int .i64 c28.ArmU.e2), (.int .i64 c28.ArmV.e0), (.int .i64 c28.ArmV.e1), (.int .i64 c28.ArmV.e2)])]), ref09_CheckNet_2 F hd1 v0 v4 v25 c28 = some r → Run Tryz.prog ⟨⟨115, [], none⟩, []⟩ 71 (ref09_CheckNet_post r) [(0, sv0), (4, (.int .i64 v4)), (5, (.ptr b28 0)), (25, (.bool v25))] [itemC Tryz.prog 115 [1, 1, 0, 1, 0, 0, 1, 0, 0, 1, 0] 6, codeC Tryz.prog 115 [1, 1, 0, 1, 0, 0, 1, 0, 0, 1, 1], .inBlock 1, codeC Tryz.prog 115 [1, 1, 0, 1, 0, 0, 1, 1], loopC Tryz.prog 115 [1, 1, 0, 1, 0, 0], .inBlock 0, codeC Tryz.prog 115 [1, 1, 1]] M := by
  intro v0 v4 v25 c28 sv0 b28 Fr M r hv0 hH h
  rw [ref09_CheckNet_2] at h
  refine Run.opG wantS_none (ex_move rfl) rfl ?_
  rcases btf (v25) with hc35 | hc35
  · have h := bif_t hc35 h
    refine Run.opG (wantS_yes' rfl rfl hc35) (ex_fieldAddr rfl off105_1) rfl ?_
    refine Run.opG (wantS_yes' rfl rfl hc35) (ex_loadA rfl (hH.cells (i := 0) rfl 1 rfl) rdLe_rfl agg22 rfl rfl rfl) rfl ?_
    obtain ⟨r37, hr37, h⟩ := bnd_some h
    refine Run.callP (wantS_yes' rfl rfl hc35) (ex_call rfl mkk77 cal77) rfl (ref09_vector_ok F c28.Place (65536 : Int) _ _ hr37) ?_
    refine Run.opG wantS_none (ex_pickT' rfl hc35 rfl rfl) rfl ?_
    exact Run.pick [0, 4, 5, 30] (ref09_CheckNet_3_ok F hd1 hhd1 v0 v4 r37 c28 sv0 b28 _ _ _ hv0 hH h)
  · have h := bif_f hc35 h
    refine Run.no (wantS_not' rfl rfl hc35) rfl ?_
    refine Run.no (wantS_not' rfl rfl hc35) rfl ?_
    refine Run.no (wantS_not' rfl rfl hc35) rfl ?_
    refine Run.opG wantS_none (ex_pickF' rfl hc35 rfl rfl) rfl ?_
    exact Run.pick [0, 4, 5, 30] (ref09_CheckNet_3_ok F hd1 hhd1 v0 v4 false c28 sv0 b28 _ _ _ hv0 hH h)

def ref09_CheckNet_1 (F : Nat) : Nat → (List S_api_Site) → Bool → Int → Option (Int)
  | 0, _, _, _ => none
  | N + 1, v0, v3, v4 =>
    bif (decide (v4 < (v0.length : Int))) then
      bnd (idx v0 v4) fun x26 =>
      bif v3 then
        bnd (ref01_IsName F x26.Name) fun r33 =>
        ref09_CheckNet_2 F (ref09_CheckNet_1 F N) v0 v4 r33 x26
      else
        ref09_CheckNet_2 F (ref09_CheckNet_1 F N) v0 v4 false x26
    else
      bif (!v3) then
        some (90 : Int)
      else
        some (0 : Int)

theorem ref09_CheckNet_1_ok (F : Nat) : ∀ (N : Nat), ∀ (v0 : (List S_api_Site)) (v3 : Bool) (v4 : Int) (sv0 : SV) (Fr : Rd) (M : Mem) (r : Int) (hv0 : Slc Fr 10 (FlatR enc105) sv0 v0) (hH : Has Fr M []), ref09_CheckNet_1 F N v0 v3 v4 = some r → Run Tryz.prog ⟨⟨115, [], none⟩, []⟩ 71 (ref09_CheckNet_post r) [(0, sv0), (3, (.bool v3)), (4, (.int .i64 v4))] [codeC Tryz.prog 115 [1, 1, 0, 1, 0, 0], loopC Tryz.prog 115 [1, 1, 0, 1, 0, 0], .inBlock 0, codeC Tryz.prog 115 [1, 1, 1]] M := by
  intro N
  induction N with
  | zero =>
    intro v0 v3 v4 sv0 Fr M r hv0 hH h
    simp [ref09_CheckNet_1] at h
  | succ N ih =>
    intro v0 v3 v4 sv0 Fr M r hv0 hH h
    rw [ref09_CheckNet_1] at h
    refine Run.seq (Run.seq (Run.region ?_))
    refine Run.opG wantS_none (ex_move rfl) rfl ?_
    refine Run.opG wantS_none (ex_move rfl) rfl ?_
    refine Run.opG wantS_none (ex_len' rfl hv0 lenk31) rfl ?_
    refine Run.opG wantS_none (ex_lss rfl rfl) rfl ?_
    refine Run.opsEnd ?_
    rcases btf ((decide (v4 < (v0.length : Int)))) with hc24 | hc24
    · have h := bif_t hc24 h
      refine Run.condT' rfl hc24 ?_
      refine Run.skip (Run.seq (Run.block (Run.seq (Run.region ?_))))
      refine Run.opG wantS_none (ex_move rfl) rfl ?_
      refine Run.opG wantS_none (ex_move rfl) rfl ?_
      obtain ⟨x26, hx26, h⟩ := bnd_some h
      obtain ⟨p26, o26, _, hx26, hp26, rfl⟩ := sl_elem (P := Tryz.prog) (t := 31) (kk := .i64) hv0 hx26 els31
      refine Run.opG wantS_none (ex_elX rfl rfl hx26) rfl ?_
      refine Run.opG wantS_none (ex_loadA rfl (hH.ptrF hp26) rdLe_rfl agg105 rfl rfl rfl) rfl ?_
      refine Run.opX wantS_none rfl (ExG.new (v := fun b => .ptr b 0) (ex_alloc zer105) hH) ?_
      rintro _ M29 ⟨b28, rfl, hH29⟩
      refine Run.opX wantS_none rfl (ExG.storeC (c' := [(.str x26.Name), (.int .i64 x26.Place.e0), (.int .i64 x26.Place.e1), (.int .i64 x26.Place.e2), (.int .i64 x26.ArmU.e0), (.int .i64 x26.ArmU.e1), (.int .i64 x26.ArmU.e2), (.int .i64 x26.ArmV.e0), (.int .i64 x26.ArmV.e1), (.int .i64 x26.ArmV.e2)]) rfl rfl rfl hH29 (i := 0) rfl sz105 rfl rfl rfl rfl rfl) ?_
      rintro _ M30 ⟨rfl, (hH30 : Has Fr M30 [.obj b28 (.row 105 .whole [(.str x26.Name), (.int .i64 x26.Place.e0), (.int .i64 x26.Place.e1), (.int .i64 x26.Place.e2), (.int .i64 x26.ArmU.e0), (.int .i64 x26.ArmU.e1), (.int .i64 x26.ArmU.e2), (.int .i64 x26.ArmV.e0), (.int .i64 x26.ArmV.e1), (.int .i64 x26.ArmV.e2)])])⟩
      refine Run.opsEnd (Run.seq (Run.region ?_))
      refine Run.opG wantS_none (ex_move rfl) rfl ?_
      refine Run.opG wantS_none (ex_move rfl) rfl ?_
      rcases btf (v3) with hc31 | hc31
      · have h := bif_t hc31 h
        refine Run.opG (wantS_yes' rfl rfl hc31) (ex_fieldAddr rfl off105_0) rfl ?_
        refine Run.opG (wantS_yes' rfl rfl hc31) (ex_load1 rfl (hH30.cells (i := 0) rfl 0 rfl) rdLe_rfl agg9) rfl ?_
        obtain ⟨r33, hr33, h⟩ := bnd_some h
        refine Run.callP (wantS_yes' rfl rfl hc31) (ex_call rfl mkk75 cal75) rfl (ref01_IsName_ok F x26.Name _ _ hr33) ?_
        refine Run.opG wantS_none (ex_pickT' rfl hc31 rfl rfl) rfl ?_
        exact Run.pick [0, 4, 5, 25] (ref09_CheckNet_2_ok F (ref09_CheckNet_1 F N) ih v0 v4 r33 x26 sv0 b28 _ _ _ hv0 hH30 h)
      · have h := bif_f hc31 h
        refine Run.no (wantS_not' rfl rfl hc31) rfl ?_
        refine Run.no (wantS_not' rfl rfl hc31) rfl ?_
        refine Run.no (wantS_not' rfl rfl hc31) rfl ?_
        refine Run.opG wantS_none (ex_pickF' rfl hc31 rfl rfl) rfl ?_
        exact Run.pick [0, 4, 5, 25] (ref09_CheckNet_2_ok F (ref09_CheckNet_1 F N) ih v0 v4 false x26 sv0 b28 _ _ _ hv0 hH30 h)
    · have h := bif_f hc24 h
      refine Run.condF' rfl hc24 ?_
      refine Run.exit rfl (Run.seq (Run.seq (Run.region ?_)))
      refine Run.opG wantS_none (ex_move rfl) rfl ?_
      refine Run.opG wantS_none (ex_not rfl) rfl ?_
      refine Run.opsEnd ?_
      rcases btf ((!v3)) with hc53 | hc53
      · have h := bif_t hc53 h
        refine Run.condT' rfl hc53 ?_
        refine Run.seq (Run.region ?_)
        refine Run.opG wantS_none (ex_assign rfl) rfl ?_
        refine Run.opsEnd ?_
        cases h
        exact Run.ret Tryz.func115 rfl (res_tmp rfl res_nil) rfl
      · have h := bif_f hc53 h
        refine Run.condF' rfl hc53 ?_
        refine Run.skip (Run.seq (Run.region ?_))
        refine Run.opG wantS_none (ex_assign rfl) rfl ?_
        refine Run.opsEnd ?_
        cases h
        exact Run.ret Tryz.func115 rfl (res_tmp rfl res_nil) rfl

def ref09_CheckNet (F : Nat) (a0 : (List S_api_Site)) : Option (Int) :=
  bnd (ref00_In F (a0.length : Int) (2 : Int) (6 : Int)) fun r22 =>
  ref09_CheckNet_1 F F a0 r22 (0 : Int)

theorem ref09_CheckNet_ok (F : Nat) (a0 : (List S_api_Site)) (s0 : SV) (r : Int) (M : Mem) (hs0 : Slc (rd M) 10 (FlatR enc105) s0 a0) (h : ref09_CheckNet F a0 = some r) : CallsM Tryz.prog 115 [s0] M (fun s M' => s = (.int .i64 r) ∧ M' = M) := by
  refine CallsM.plain Tryz.func115 rfl rfl rfl (show Run _ _ _ (ref09_CheckNet_post r) _ _ _ from ?_)
  rw [ref09_CheckNet] at h
  replace hs0 := hs0.mono (rdLe_frozen M) (fun _ _ h => h)
  have hH := Has.nil (frozen M)
  refine Run.seq (Run.region ?_)
  refine Run.opG wantS_none (ex_assign rfl) rfl ?_
  refine Run.opsEnd (Run.seq (Run.region ?_))
  refine Run.opG wantS_none (ex_move rfl) rfl ?_
  refine Run.opG wantS_none (ex_len' rfl hs0 lenk31) rfl ?_
  obtain ⟨r22, hr22, h⟩ := bnd_some h
  refine Run.callP wantS_none (ex_call rfl mkk36 cal36) rfl (ref00_In_ok F (a0.length : Int) (2 : Int) (6 : Int) _ _ hr22) ?_
  refine Run.opG wantS_none (ex_assign rfl) rfl ?_
  refine Run.opsEnd (Run.seq (Run.seq (Run.region ?_)))
  refine Run.opG wantS_none (ex_assign rfl) rfl ?_
  refine Run.opsEnd (Run.block (Run.loop ?_))
  exact Run.pick [0, 3, 4] (ref09_CheckNet_1_ok F F a0 r22 (0 : Int) s0 _ _ _ hs0 hH h)

theorem mkk115 : makeK Tryz.prog 115 = none := by kernel_rfl
theorem cal115 : callable Tryz.prog 115 = true := by kernel_rfl
abbrev ref09_cells_post (r : Int) : SV → Mem → Prop := fun s _ => s = (.int .i64 r)

def ref09_cells (F : Nat) (a0 : Int) : Option (Int) :=
  some (w64 ((w64 ((6 : Int) * a0)) * a0))

theorem ref09_cells_ok (F : Nat) (a0 r : Int) (M : Mem) (h : ref09_cells F a0 = some r) : CallsM Tryz.prog 50 [(.int .i64 a0)] M (fun s M' => s = (.int .i64 r) ∧ M' = M) := by
  refine CallsM.plain Tryz.func50 rfl rfl rfl (show Run _ _ _ (ref09_cells_post r) _ _ _ from ?_)
  rw [ref09_cells] at h
  have hH := Has.nil (frozen M)
  refine Run.seq (Run.region ?_)
  refine Run.opG wantS_none (ex_assign rfl) rfl ?_
  refine Run.opsEnd (Run.seq (Run.region ?_))
  refine Run.opG wantS_none (ex_move rfl) rfl ?_
  refine Run.opG wantS_none (ex_mul rfl rfl) rfl ?_
  refine Run.opG wantS_none (ex_move rfl) rfl ?_
  refine Run.opG wantS_none (ex_mul rfl rfl) rfl ?_
  refine Run.opG wantS_none (ex_assign rfl) rfl ?_
  refine Run.opsEnd ?_
  cases h
  exact Run.ret Tryz.func50 rfl (res_tmp rfl res_nil) rfl

theorem mkk50 : makeK Tryz.prog 50 = none := by kernel_rfl
theorem cal50 : callable Tryz.prog 50 = true := by kernel_rfl
abbrev ref09_there_post (r : Bool) : SV → Mem → Prop := fun s _ => s = (.bool r)

def ref09_there_1 (F : Nat) (v13 : Bool) : Option (Bool) :=
  some v13

theorem ref09_there_1_ok (F : Nat) : ∀ (v13 : Bool) (Fr : Rd) (M : Mem) (r : Bool) (hH : Has Fr M []), ref09_there_1 F v13 = some r → Run Tryz.prog ⟨⟨53, [], none⟩, []⟩ 14 (ref09_there_post r) [(13, (.bool v13))] [itemC Tryz.prog 53 [1, 0] 9, codeC Tryz.prog 53 [1, 1]] M := by
  intro v13 Fr M r hH h
  rw [ref09_there_1] at h
  refine Run.opG wantS_none (ex_assign rfl) rfl ?_
  refine Run.opsEnd ?_
  cases h
  exact Run.ret Tryz.func53 rfl (res_tmp rfl res_nil) rfl

def ref09_there (F : Nat) (a0 a1 : Int) : Option (Bool) :=
  bnd (ref00_In F a0 (1 : Int) (8 : Int)) fun r22 =>
  bif r22 then
    bnd (ref09_cells F a0) fun r26 =>
    bnd (ref00_In F a1 (0 : Int) (w64 (r26 - (1 : Int)))) fun r29 =>
    ref09_there_1 F r29
  else
    ref09_there_1 F false

theorem ref09_there_ok (F : Nat) (a0 a1 : Int) (r : Bool) (M : Mem) (h : ref09_there F a0 a1 = some r) : CallsM Tryz.prog 53 [(.int .i64 a0), (.int .i64 a1)] M (fun s M' => s = (.bool r) ∧ M' = M) := by
  refine CallsM.plain Tryz.func53 rfl rfl rfl (show Run _ _ _ (ref09_there_post r) _ _ _ from ?_)
  rw [ref09_there] at h
  have hH := Has.nil (frozen M)
  refine Run.seq (Run.region ?_)
  refine Run.opG wantS_none (ex_assign rfl) rfl ?_
  refine Run.opsEnd (Run.seq (Run.region ?_))
  refine Run.opG wantS_none (ex_move rfl) rfl ?_
  obtain ⟨r22, hr22, h⟩ := bnd_some h
  refine Run.callP wantS_none (ex_call rfl mkk36 cal36) rfl (ref00_In_ok F a0 (1 : Int) (8 : Int) _ _ hr22) ?_
  refine Run.opG wantS_none (ex_move rfl) rfl ?_
  rcases btf (r22) with hc24 | hc24
  · have h := bif_t hc24 h
    refine Run.opG (wantS_yes' rfl rfl hc24) (ex_move rfl) rfl ?_
    refine Run.opG (wantS_yes' rfl rfl hc24) (ex_move rfl) rfl ?_
    obtain ⟨r26, hr26, h⟩ := bnd_some h
    refine Run.callP (wantS_yes' rfl rfl hc24) (ex_call rfl mkk50 cal50) rfl (ref09_cells_ok F a0 _ _ hr26) ?_
    refine Run.opG (wantS_yes' rfl rfl hc24) (ex_sub rfl rfl) rfl ?_
    obtain ⟨r29, hr29, h⟩ := bnd_some h
    refine Run.callP (wantS_yes' rfl rfl hc24) (ex_call rfl mkk36 cal36) rfl (ref00_In_ok F a1 (0 : Int) (w64 (r26 - (1 : Int))) _ _ hr29) ?_
    refine Run.opG wantS_none (ex_pickT' rfl hc24 rfl rfl) rfl ?_
    exact Run.pick [13] (ref09_there_1_ok F r29 _ _ _ hH h)
  · have h := bif_f hc24 h
    refine Run.no (wantS_not' rfl rfl hc24) rfl ?_
    refine Run.no (wantS_not' rfl rfl hc24) rfl ?_
    refine Run.no (wantS_not' rfl rfl hc24) rfl ?_
    refine Run.no (wantS_not' rfl rfl hc24) rfl ?_
    refine Run.no (wantS_not' rfl rfl hc24) rfl ?_
    refine Run.opG wantS_none (ex_pickF' rfl hc24 rfl rfl) rfl ?_
    exact Run.pick [13] (ref09_there_1_ok F false _ _ _ hH h)

theorem mkk53 : makeK Tryz.prog 53 = none := by kernel_rfl
theorem cal53 : callable Tryz.prog 53 = true := by kernel_rfl
abbrev ref09_placed_post (r : Int) : SV → Mem → Prop := fun s _ => s = (.int .i64 r)

def ref09_placed (F : Nat) (a0 : (List S_api_Site)) (a1 a2 : Int) : Option (Int) :=
  bnd (ref09_CheckNet F a0) fun r22 =>
  bif (!(r22 == (0 : Int))) then
    some r22
  else
    bnd (ref09_there F a1 a2) fun r26 =>
    bif (!r26) then
      some (91 : Int)
    else
      some (0 : Int)

theorem ref09_placed_ok (F : Nat) (a0 : (List S_api_Site)) (a1 a2 : Int) (s0 : SV) (r : Int) (M : Mem) (hs0 : Slc (rd M) 10 (FlatR enc105) s0 a0) (h : ref09_placed F a0 a1 a2 = some r) : CallsM Tryz.prog 68 [s0, (.int .i64 a1), (.int .i64 a2)] M (fun s M' => s = (.int .i64 r) ∧ M' = M) := by
  refine CallsM.plain Tryz.func68 rfl rfl rfl (show Run _ _ _ (ref09_placed_post r) _ _ _ from ?_)
  rw [ref09_placed] at h
  replace hs0 := hs0.mono (rdLe_frozen M) (fun _ _ h => h)
  have hH := Has.nil (frozen M)
  refine Run.seq (Run.region ?_)
  refine Run.opG wantS_none (ex_assign rfl) rfl ?_
  refine Run.opsEnd (Run.seq (Run.seq (Run.region ?_)))
  refine Run.opG wantS_none (ex_move rfl) rfl ?_
  obtain ⟨r22, hr22, h⟩ := bnd_some h
  refine Run.callP wantS_none (ex_call rfl mkk115 cal115) rfl (ref09_CheckNet_ok F a0 s0 _ _ (hH.slcF hs0) hr22) ?_
  refine Run.opG wantS_none (ex_assign rfl) rfl ?_
  refine Run.opsEnd (Run.seq (Run.region ?_))
  refine Run.opG wantS_none (ex_move rfl) rfl ?_
  refine Run.opG wantS_none (ex_neq rfl rfl) rfl ?_
  refine Run.opsEnd ?_
  rcases btf ((!(r22 == (0 : Int)))) with hc24 | hc24
  · have h := bif_t hc24 h
    refine Run.condT' rfl hc24 ?_
    refine Run.seq (Run.region ?_)
    refine Run.opG wantS_none (ex_move rfl) rfl ?_
    refine Run.opG wantS_none (ex_assign rfl) rfl ?_
    refine Run.opsEnd ?_
    cases h
    exact Run.ret Tryz.func68 rfl (res_tmp rfl res_nil) rfl
  · have h := bif_f hc24 h
    refine Run.condF' rfl hc24 ?_
    refine Run.skip (Run.seq (Run.seq (Run.region ?_)))
    refine Run.opG wantS_none (ex_move rfl) rfl ?_
    refine Run.opG wantS_none (ex_move rfl) rfl ?_
    obtain ⟨r26, hr26, h⟩ := bnd_some h
    refine Run.callP wantS_none (ex_call rfl mkk53 cal53) rfl (ref09_there_ok F a1 a2 _ _ hr26) ?_
    refine Run.opG wantS_none (ex_not rfl) rfl ?_
    refine Run.opsEnd ?_
    rcases btf ((!r26)) with hc28 | hc28
    · have h := bif_t hc28 h
      refine Run.condT' rfl hc28 ?_
      refine Run.seq (Run.region ?_)
      refine Run.opG wantS_none (ex_assign rfl) rfl ?_
      refine Run.opsEnd ?_
      cases h
      exact Run.ret Tryz.func68 rfl (res_tmp rfl res_nil) rfl
    · have h := bif_f hc28 h
      refine Run.condF' rfl hc28 ?_
      refine Run.skip (Run.seq (Run.region ?_))
      refine Run.opG wantS_none (ex_assign rfl) rfl ?_
      refine Run.opsEnd ?_
      cases h
      exact Run.ret Tryz.func68 rfl (res_tmp rfl res_nil) rfl

theorem mkk68 : makeK Tryz.prog 68 = none := by kernel_rfl
theorem cal68 : callable Tryz.prog 68 = true := by kernel_rfl
theorem sz22 : szOf Tryz.prog 22 = some 3 := by kernel_rfl
theorem plan54_1_0 : planOf Tryz.prog (opsC (atC Tryz.prog 54 [1, 0])) = some [.fl 0, .fl 1, .fl 2, .fl 3, .fl 4, .fl 5, .fl 6, .fl 7, .fl 8, .fl 9, .fl 10, .fl 11, .fl 12, .fl 13, .fl 14, .fl 15, .sync] := by kernel_rfl
abbrev ref09_direction_post (r : S__3_int) : SV → Mem → Prop := fun s _ => s = (.agg [(.int .i64 r.e0), (.int .i64 r.e1), (.int .i64 r.e2)])

def ref09_direction (F : Nat) (a0 a1 : Int) : Option (S__3_int) :=
  bnd (nz (w64 (a0 * a0))) fun z24 =>
  bnd (nz a0) fun z25 =>
  bnd (nz a0) fun z26 =>
  bnd (nz a0) fun z27 =>
  bif ((w64 (Int.tdiv a1 (w64 (a0 * a0)))) == (0 : Int)) then
    some (S__3_int.mk a0 (w64 ((w64 ((w64 ((2 : Int) * (Int.tmod (w64 (Int.tdiv a1 a0)) a0))) + (1 : Int))) - a0)) (w64 ((w64 ((w64 ((2 : Int) * (Int.tmod a1 a0))) + (1 : Int))) - a0)))
  else
    bif ((w64 (Int.tdiv a1 (w64 (a0 * a0)))) == (1 : Int)) then
      some (S__3_int.mk (w64 (-a0)) (w64 ((w64 ((w64 ((2 : Int) * (Int.tmod (w64 (Int.tdiv a1 a0)) a0))) + (1 : Int))) - a0)) (w64 ((w64 ((w64 ((2 : Int) * (Int.tmod a1 a0))) + (1 : Int))) - a0)))
    else
      bif ((w64 (Int.tdiv a1 (w64 (a0 * a0)))) == (2 : Int)) then
        some (S__3_int.mk (w64 ((w64 ((w64 ((2 : Int) * (Int.tmod (w64 (Int.tdiv a1 a0)) a0))) + (1 : Int))) - a0)) a0 (w64 ((w64 ((w64 ((2 : Int) * (Int.tmod a1 a0))) + (1 : Int))) - a0)))
      else
        bif ((w64 (Int.tdiv a1 (w64 (a0 * a0)))) == (3 : Int)) then
          some (S__3_int.mk (w64 ((w64 ((w64 ((2 : Int) * (Int.tmod (w64 (Int.tdiv a1 a0)) a0))) + (1 : Int))) - a0)) (w64 (-a0)) (w64 ((w64 ((w64 ((2 : Int) * (Int.tmod a1 a0))) + (1 : Int))) - a0)))
        else
          bif ((w64 (Int.tdiv a1 (w64 (a0 * a0)))) == (4 : Int)) then
            some (S__3_int.mk (w64 ((w64 ((w64 ((2 : Int) * (Int.tmod (w64 (Int.tdiv a1 a0)) a0))) + (1 : Int))) - a0)) (w64 ((w64 ((w64 ((2 : Int) * (Int.tmod a1 a0))) + (1 : Int))) - a0)) a0)
          else
            some (S__3_int.mk (w64 ((w64 ((w64 ((2 : Int) * (Int.tmod (w64 (Int.tdiv a1 a0)) a0))) + (1 : Int))) - a0)) (w64 ((w64 ((w64 ((2 : Int) * (Int.tmod a1 a0))) + (1 : Int))) - a0)) (w64 (-a0)))

theorem ref09_direction_ok (F : Nat) (a0 a1 : Int) (r : S__3_int) (M : Mem) (h : ref09_direction F a0 a1 = some r) : CallsM Tryz.prog 54 [(.int .i64 a0), (.int .i64 a1)] M (fun s M' => s = (.agg [(.int .i64 r.e0), (.int .i64 r.e1), (.int .i64 r.e2)]) ∧ M' = M) := by
  refine CallsM.plain Tryz.func54 rfl rfl rfl (show Run _ _ _ (ref09_direction_post r) _ _ _ from ?_)
  rw [ref09_direction] at h
  have hH := Has.nil (frozen M)
  refine Run.seq (Run.region ?_)
  refine Run.opX wantS_none rfl (ExG.new (v := fun b => .ptr b 0) (ex_alloc zer22) hH) ?_
  rintro _ M23 ⟨b22, rfl, hH23⟩
  refine Run.opsEnd (Run.seq ?_)
  refine Run.drawG plan54_1_0 ?_
  refine DrawG.fl rfl (ev_ex wantS_none (ex_move rfl)) rfl ?_
  refine DrawG.fl rfl (ev_ex wantS_none (ex_move rfl)) rfl ?_
  refine DrawG.fl rfl (ev_ex wantS_none (ex_move rfl)) rfl ?_
  refine DrawG.fl rfl (ev_ex wantS_none (ex_mul rfl rfl)) rfl ?_
  obtain ⟨z24, hz24, h⟩ := bnd_some h
  refine DrawG.fl rfl (ev_ex wantS_none (ex_quo' rfl rfl hz24)) rfl ?_
  refine DrawG.fl rfl (ev_ex wantS_none (ex_move rfl)) rfl ?_
  refine DrawG.fl rfl (ev_ex wantS_none (ex_move rfl)) rfl ?_
  obtain ⟨z25, hz25, h⟩ := bnd_some h
  refine DrawG.fl rfl (ev_ex wantS_none (ex_quo' rfl rfl hz25)) rfl ?_
  refine DrawG.fl rfl (ev_ex wantS_none (ex_move rfl)) rfl ?_
  obtain ⟨z26, hz26, h⟩ := bnd_some h
  refine DrawG.fl rfl (ev_ex wantS_none (ex_rem' rfl rfl hz26)) rfl ?_
  refine DrawG.fl rfl (ev_ex wantS_none (ex_move rfl)) rfl ?_
  refine DrawG.fl rfl (ev_ex wantS_none (ex_move rfl)) rfl ?_
  obtain ⟨z27, hz27, h⟩ := bnd_some h
  refine DrawG.fl rfl (ev_ex wantS_none (ex_rem' rfl rfl hz27)) rfl ?_
  refine DrawG.fl rfl (ev_ex wantS_none (ex_assign rfl)) rfl ?_
  refine DrawG.fl rfl (ev_ex wantS_none (ex_assign rfl)) rfl ?_
  refine DrawG.fl rfl (ev_ex wantS_none (ex_assign rfl)) rfl ?_
  refine DrawG.sync ?_
  refine DrawG.nil ?_
  refine Run.seq (Run.region ?_)
  refine Run.opG wantS_none (ex_move rfl) rfl ?_
  refine Run.opG wantS_none (ex_mul rfl rfl) rfl ?_
  refine Run.opG wantS_none (ex_add rfl rfl) rfl ?_
  refine Run.opG wantS_none (ex_move rfl) rfl ?_
  refine Run.opG wantS_none (ex_sub rfl rfl) rfl ?_
  refine Run.opG wantS_none (ex_move rfl) rfl ?_
  refine Run.opG wantS_none (ex_mul rfl rfl) rfl ?_
  refine Run.opG wantS_none (ex_add rfl rfl) rfl ?_
  refine Run.opG wantS_none (ex_move rfl) rfl ?_
  refine Run.opG wantS_none (ex_sub rfl rfl) rfl ?_
  refine Run.opG wantS_none (ex_assign rfl) rfl ?_
  refine Run.opG wantS_none (ex_assign rfl) rfl ?_
  refine Run.opsEnd (Run.seq (Run.seq (Run.region ?_)))
  refine Run.opG wantS_none (ex_move rfl) rfl ?_
  refine Run.opsEnd (Run.block (Run.seq (Run.region ?_)))
  refine Run.opG wantS_none (ex_eql rfl rfl) rfl ?_
  refine Run.opG wantS_none (ex_assign rfl) rfl ?_
  refine Run.opsEnd ?_
  rcases btf (((w64 (Int.tdiv a1 (w64 (a0 * a0)))) == (0 : Int))) with hc28 | hc28
  · have h := bif_t hc28 h
    refine Run.condT' rfl hc28 ?_
    refine Run.seq (Run.region ?_)
    refine Run.opG wantS_none (ex_move rfl) rfl ?_
    refine Run.opG wantS_none (ex_move rfl) rfl ?_
    refine Run.opG wantS_none (ex_move rfl) rfl ?_
    refine Run.opG wantS_none (ex_buildA (r := [(.int .i64 a0), (.int .i64 (w64 ((w64 ((w64 ((2 : Int) * (Int.tmod (w64 (Int.tdiv a1 a0)) a0))) + (1 : Int))) - a0))), (.int .i64 (w64 ((w64 ((w64 ((2 : Int) * (Int.tmod a1 a0))) + (1 : Int))) - a0)))]) rfl zer22 pls22 rfl) rfl ?_
    refine Run.opX wantS_none rfl (ExG.storeC (c' := [(.int .i64 a0), (.int .i64 (w64 ((w64 ((w64 ((2 : Int) * (Int.tmod (w64 (Int.tdiv a1 a0)) a0))) + (1 : Int))) - a0))), (.int .i64 (w64 ((w64 ((w64 ((2 : Int) * (Int.tmod a1 a0))) + (1 : Int))) - a0)))]) rfl rfl rfl hH23 (i := 0) rfl sz22 rfl rfl rfl rfl rfl) ?_
    rintro _ M29 ⟨rfl, (hH29 : Has (ro (frozen M)) M29 [.obj b22 (.row 22 .whole [(.int .i64 a0), (.int .i64 (w64 ((w64 ((w64 ((2 : Int) * (Int.tmod (w64 (Int.tdiv a1 a0)) a0))) + (1 : Int))) - a0))), (.int .i64 (w64 ((w64 ((w64 ((2 : Int) * (Int.tmod a1 a0))) + (1 : Int))) - a0)))])])⟩
    refine Run.opsEnd ?_
    cases h
    exact Run.ret Tryz.func54 rfl (res_cell rfl (x_load (ex_loadA rfl (hH29.cells (i := 0) rfl 0 rfl) rdLe_rfl agg22 rfl rfl rfl)) res_nil) rfl
  · have h := bif_f hc28 h
    refine Run.condF' rfl hc28 ?_
    refine Run.seq (Run.region ?_)
    refine Run.opG wantS_none (ex_eql rfl rfl) rfl ?_
    refine Run.opG wantS_none (ex_assign rfl) rfl ?_
    refine Run.opsEnd ?_
    rcases btf (((w64 (Int.tdiv a1 (w64 (a0 * a0)))) == (1 : Int))) with hc30 | hc30
    · have h := bif_t hc30 h
      refine Run.condT' rfl hc30 ?_
      refine Run.seq (Run.region ?_)
      refine Run.opG wantS_none (ex_move rfl) rfl ?_
      refine Run.opG wantS_none (ex_neg rfl) rfl ?_
      refine Run.opG wantS_none (ex_move rfl) rfl ?_
      refine Run.opG wantS_none (ex_move rfl) rfl ?_
      refine Run.opG wantS_none (ex_buildA (r := [(.int .i64 (w64 (-a0))), (.int .i64 (w64 ((w64 ((w64 ((2 : Int) * (Int.tmod (w64 (Int.tdiv a1 a0)) a0))) + (1 : Int))) - a0))), (.int .i64 (w64 ((w64 ((w64 ((2 : Int) * (Int.tmod a1 a0))) + (1 : Int))) - a0)))]) rfl zer22 pls22 rfl) rfl ?_
      refine Run.opX wantS_none rfl (ExG.storeC (c' := [(.int .i64 (w64 (-a0))), (.int .i64 (w64 ((w64 ((w64 ((2 : Int) * (Int.tmod (w64 (Int.tdiv a1 a0)) a0))) + (1 : Int))) - a0))), (.int .i64 (w64 ((w64 ((w64 ((2 : Int) * (Int.tmod a1 a0))) + (1 : Int))) - a0)))]) rfl rfl rfl hH23 (i := 0) rfl sz22 rfl rfl rfl rfl rfl) ?_
      rintro _ M31 ⟨rfl, (hH31 : Has (ro (frozen M)) M31 [.obj b22 (.row 22 .whole [(.int .i64 (w64 (-a0))), (.int .i64 (w64 ((w64 ((w64 ((2 : Int) * (Int.tmod (w64 (Int.tdiv a1 a0)) a0))) + (1 : Int))) - a0))), (.int .i64 (w64 ((w64 ((w64 ((2 : Int) * (Int.tmod a1 a0))) + (1 : Int))) - a0)))])])⟩
      refine Run.opsEnd ?_
      cases h
      exact Run.ret Tryz.func54 rfl (res_cell rfl (x_load (ex_loadA rfl (hH31.cells (i := 0) rfl 0 rfl) rdLe_rfl agg22 rfl rfl rfl)) res_nil) rfl
    · have h := bif_f hc30 h
      refine Run.condF' rfl hc30 ?_
      refine Run.seq (Run.region ?_)
      refine Run.opG wantS_none (ex_eql rfl rfl) rfl ?_
      refine Run.opG wantS_none (ex_assign rfl) rfl ?_
      refine Run.opsEnd ?_
      rcases btf (((w64 (Int.tdiv a1 (w64 (a0 * a0)))) == (2 : Int))) with hc32 | hc32
      · have h := bif_t hc32 h
        refine Run.condT' rfl hc32 ?_
        refine Run.seq (Run.region ?_)
        refine Run.opG wantS_none (ex_move rfl) rfl ?_
        refine Run.opG wantS_none (ex_move rfl) rfl ?_
        refine Run.opG wantS_none (ex_move rfl) rfl ?_
        refine Run.opG wantS_none (ex_buildA (r := [(.int .i64 (w64 ((w64 ((w64 ((2 : Int) * (Int.tmod (w64 (Int.tdiv a1 a0)) a0))) + (1 : Int))) - a0))), (.int .i64 a0), (.int .i64 (w64 ((w64 ((w64 ((2 : Int) * (Int.tmod a1 a0))) + (1 : Int))) - a0)))]) rfl zer22 pls22 rfl) rfl ?_
        refine Run.opX wantS_none rfl (ExG.storeC (c' := [(.int .i64 (w64 ((w64 ((w64 ((2 : Int) * (Int.tmod (w64 (Int.tdiv a1 a0)) a0))) + (1 : Int))) - a0))), (.int .i64 a0), (.int .i64 (w64 ((w64 ((w64 ((2 : Int) * (Int.tmod a1 a0))) + (1 : Int))) - a0)))]) rfl rfl rfl hH23 (i := 0) rfl sz22 rfl rfl rfl rfl rfl) ?_
        rintro _ M33 ⟨rfl, (hH33 : Has (ro (frozen M)) M33 [.obj b22 (.row 22 .whole [(.int .i64 (w64 ((w64 ((w64 ((2 : Int) * (Int.tmod (w64 (Int.tdiv a1 a0)) a0))) + (1 : Int))) - a0))), (.int .i64 a0), (.int .i64 (w64 ((w64 ((w64 ((2 : Int) * (Int.tmod a1 a0))) + (1 : Int))) - a0)))])])⟩
        refine Run.opsEnd ?_
        cases h
        exact Run.ret Tryz.func54 rfl (res_cell rfl (x_load (ex_loadA rfl (hH33.cells (i := 0) rfl 0 rfl) rdLe_rfl agg22 rfl rfl rfl)) res_nil) rfl
      · have h := bif_f hc32 h
        refine Run.condF' rfl hc32 ?_
        refine Run.seq (Run.region ?_)
        refine Run.opG wantS_none (ex_eql rfl rfl) rfl ?_
        refine Run.opG wantS_none (ex_assign rfl) rfl ?_
        refine Run.opsEnd ?_
        rcases btf (((w64 (Int.tdiv a1 (w64 (a0 * a0)))) == (3 : Int))) with hc34 | hc34
        · have h := bif_t hc34 h
          refine Run.condT' rfl hc34 ?_
          refine Run.seq (Run.region ?_)
          refine Run.opG wantS_none (ex_move rfl) rfl ?_
          refine Run.opG wantS_none (ex_move rfl) rfl ?_
          refine Run.opG wantS_none (ex_neg rfl) rfl ?_
          refine Run.opG wantS_none (ex_move rfl) rfl ?_
          refine Run.opG wantS_none (ex_buildA (r := [(.int .i64 (w64 ((w64 ((w64 ((2 : Int) * (Int.tmod (w64 (Int.tdiv a1 a0)) a0))) + (1 : Int))) - a0))), (.int .i64 (w64 (-a0))), (.int .i64 (w64 ((w64 ((w64 ((2 : Int) * (Int.tmod a1 a0))) + (1 : Int))) - a0)))]) rfl zer22 pls22 rfl) rfl ?_
          refine Run.opX wantS_none rfl (ExG.storeC (c' := [(.int .i64 (w64 ((w64 ((w64 ((2 : Int) * (Int.tmod (w64 (Int.tdiv a1 a0)) a0))) + (1 : Int))) - a0))), (.int .i64 (w64 (-a0))), (.int .i64 (w64 ((w64 ((w64 ((2 : Int) * (Int.tmod a1 a0))) + (1 : Int))) - a0)))]) rfl rfl rfl hH23 (i := 0) rfl sz22 rfl rfl rfl rfl rfl) ?_
          rintro _ M35 ⟨rfl, (hH35 : Has (ro (frozen M)) M35 [.obj b22 (.row 22 .whole [(.int .i64 (w64 ((w64 ((w64 ((2 : Int) * (Int.tmod (w64 (Int.tdiv a1 a0)) a0))) + (1 : Int))) - a0))), (.int .i64 (w64 (-a0))), (.int .i64 (w64 ((w64 ((w64 ((2 : Int) * (Int.tmod a1 a0))) + (1 : Int))) - a0)))])])⟩
          refine Run.opsEnd ?_
          cases h
          exact Run.ret Tryz.func54 rfl (res_cell rfl (x_load (ex_loadA rfl (hH35.cells (i := 0) rfl 0 rfl) rdLe_rfl agg22 rfl rfl rfl)) res_nil) rfl
        · have h := bif_f hc34 h
          refine Run.condF' rfl hc34 ?_
          refine Run.seq (Run.region ?_)
          refine Run.opG wantS_none (ex_eql rfl rfl) rfl ?_
          refine Run.opG wantS_none (ex_assign rfl) rfl ?_
          refine Run.opsEnd ?_
          rcases btf (((w64 (Int.tdiv a1 (w64 (a0 * a0)))) == (4 : Int))) with hc36 | hc36
          · have h := bif_t hc36 h
            refine Run.condT' rfl hc36 ?_
            refine Run.seq (Run.region ?_)
            refine Run.opG wantS_none (ex_move rfl) rfl ?_
            refine Run.opG wantS_none (ex_move rfl) rfl ?_
            refine Run.opG wantS_none (ex_move rfl) rfl ?_
            refine Run.opG wantS_none (ex_buildA (r := [(.int .i64 (w64 ((w64 ((w64 ((2 : Int) * (Int.tmod (w64 (Int.tdiv a1 a0)) a0))) + (1 : Int))) - a0))), (.int .i64 (w64 ((w64 ((w64 ((2 : Int) * (Int.tmod a1 a0))) + (1 : Int))) - a0))), (.int .i64 a0)]) rfl zer22 pls22 rfl) rfl ?_
            refine Run.opX wantS_none rfl (ExG.storeC (c' := [(.int .i64 (w64 ((w64 ((w64 ((2 : Int) * (Int.tmod (w64 (Int.tdiv a1 a0)) a0))) + (1 : Int))) - a0))), (.int .i64 (w64 ((w64 ((w64 ((2 : Int) * (Int.tmod a1 a0))) + (1 : Int))) - a0))), (.int .i64 a0)]) rfl rfl rfl hH23 (i := 0) rfl sz22 rfl rfl rfl rfl rfl) ?_
            rintro _ M37 ⟨rfl, (hH37 : Has (ro (frozen M)) M37 [.obj b22 (.row 22 .whole [(.int .i64 (w64 ((w64 ((w64 ((2 : Int) * (Int.tmod (w64 (Int.tdiv a1 a0)) a0))) + (1 : Int))) - a0))), (.int .i64 (w64 ((w64 ((w64 ((2 : Int) * (Int.tmod a1 a0))) + (1 : Int))) - a0))), (.int .i64 a0)])])⟩
            refine Run.opsEnd ?_
            cases h
            exact Run.ret Tryz.func54 rfl (res_cell rfl (x_load (ex_loadA rfl (hH37.cells (i := 0) rfl 0 rfl) rdLe_rfl agg22 rfl rfl rfl)) res_nil) rfl
          · have h := bif_f hc36 h
            refine Run.condF' rfl hc36 ?_
            refine Run.skip (Run.inBlock (Run.seq (Run.region ?_)))
            refine Run.opG wantS_none (ex_move rfl) rfl ?_
            refine Run.opG wantS_none (ex_move rfl) rfl ?_
            refine Run.opG wantS_none (ex_move rfl) rfl ?_
            refine Run.opG wantS_none (ex_neg rfl) rfl ?_
            refine Run.opG wantS_none (ex_buildA (r := [(.int .i64 (w64 ((w64 ((w64 ((2 : Int) * (Int.tmod (w64 (Int.tdiv a1 a0)) a0))) + (1 : Int))) - a0))), (.int .i64 (w64 ((w64 ((w64 ((2 : Int) * (Int.tmod a1 a0))) + (1 : Int))) - a0))), (.int .i64 (w64 (-a0)))]) rfl zer22 pls22 rfl) rfl ?_
            refine Run.opX wantS_none rfl (ExG.storeC (c' := [(.int .i64 (w64 ((w64 ((w64 ((2 : Int) * (Int.tmod (w64 (Int.tdiv a1 a0)) a0))) + (1 : Int))) - a0))), (.int .i64 (w64 ((w64 ((w64 ((2 : Int) * (Int.tmod a1 a0))) + (1 : Int))) - a0))), (.int .i64 (w64 (-a0)))]) rfl rfl rfl hH23 (i := 0) rfl sz22 rfl rfl rfl rfl rfl) ?_
            rintro _ M38 ⟨rfl, (hH38 : Has (ro (frozen M)) M38 [.obj b22 (.row 22 .whole [(.int .i64 (w64 ((w64 ((w64 ((2 : Int) * (Int.tmod (w64 (Int.tdiv a1 a0)) a0))) + (1 : Int))) - a0))), (.int .i64 (w64 ((w64 ((w64 ((2 : Int) * (Int.tmod a1 a0))) + (1 : Int))) - a0))), (.int .i64 (w64 (-a0)))])])⟩
            refine Run.opsEnd ?_
            cases h
            exact Run.ret Tryz.func54 rfl (res_cell rfl (x_load (ex_loadA rfl (hH38.cells (i := 0) rfl 0 rfl) rdLe_rfl agg22 rfl rfl rfl)) res_nil) rfl

theorem mkk54 : makeK Tryz.prog 54 = none := by kernel_rfl
theorem cal54 : callable Tryz.prog 54 = true := by kernel_rfl
abbrev ref09_minus_post (r : S__3_int) : SV → Mem → Prop := fun s _ => s = (.agg [(.int .i64 r.e0), (.int .i64 r.e1), (.int .i64 r.e2)])

def ref09_minus (F : Nat) (a0 a1 : S__3_int) : Option (S__3_int) :=
  some (S__3_int.mk (w64 (a0.e0 - a1.e0)) (w64 (a0.e1 - a1.e1)) (w64 (a0.e2 - a1.e2)))

theorem ref09_minus_ok (F : Nat) (a0 a1 r : S__3_int) (M : Mem) (h : ref09_minus F a0 a1 = some r) : CallsM Tryz.prog 117 [(.agg [(.int .i64 a0.e0), (.int .i64 a0.e1), (.int .i64 a0.e2)]), (.agg [(.int .i64 a1.e0), (.int .i64 a1.e1), (.int .i64 a1.e2)])] M (fun s M' => s = (.agg [(.int .i64 r.e0), (.int .i64 r.e1), (.int .i64 r.e2)]) ∧ M' = M) := by
  refine CallsM.plain Tryz.func117 rfl rfl rfl (show Run _ _ _ (ref09_minus_post r) _ _ _ from ?_)
  rw [ref09_minus] at h
  have hH := Has.nil (frozen M)
  refine Run.seq (Run.region ?_)
  refine Run.opX wantS_none rfl (ExG.box rfl rfl hH) ?_
  rintro _ M23 ⟨b22, rfl, hH23⟩
  refine Run.opX wantS_none rfl (ExG.box rfl rfl hH23) ?_
  rintro _ M26 ⟨b25, rfl, hH26⟩
  refine Run.opX wantS_none rfl (ExG.new (v := fun b => .ptr b 0) (ex_alloc zer22) hH26) ?_
  rintro _ M29 ⟨b28, rfl, hH29⟩
  refine Run.opsEnd (Run.seq (Run.region ?_))
  refine Run.opG wantS_none (ex_elX rfl rfl (arr_place (j := 0) rfl els22)) rfl ?_
  refine Run.opG wantS_none (ex_load1 rfl (hH29.cells (i := 2) rfl 0 rfl) rdLe_rfl agg3) rfl ?_
  refine Run.opG wantS_none (ex_elX rfl rfl (arr_place (j := 0) rfl els22)) rfl ?_
  refine Run.opG wantS_none (ex_load1 rfl (hH29.cells (i := 1) rfl 0 rfl) rdLe_rfl agg3) rfl ?_
  refine Run.opG wantS_none (ex_sub rfl rfl) rfl ?_
  refine Run.opG wantS_none (ex_elX rfl rfl (arr_place (j := 1) rfl els22)) rfl ?_
  refine Run.opG wantS_none (ex_load1 rfl (hH29.cells (i := 2) rfl 1 rfl) rdLe_rfl agg3) rfl ?_
  refine Run.opG wantS_none (ex_elX rfl rfl (arr_place (j := 1) rfl els22)) rfl ?_
  refine Run.opG wantS_none (ex_load1 rfl (hH29.cells (i := 1) rfl 1 rfl) rdLe_rfl agg3) rfl ?_
  refine Run.opG wantS_none (ex_sub rfl rfl) rfl ?_
  refine Run.opG wantS_none (ex_elX rfl rfl (arr_place (j := 2) rfl els22)) rfl ?_
  refine Run.opG wantS_none (ex_load1 rfl (hH29.cells (i := 2) rfl 2 rfl) rdLe_rfl agg3) rfl ?_
  refine Run.opG wantS_none (ex_elX rfl rfl (arr_place (j := 2) rfl els22)) rfl ?_
  refine Run.opG wantS_none (ex_load1 rfl (hH29.cells (i := 1) rfl 2 rfl) rdLe_rfl agg3) rfl ?_
  refine Run.opG wantS_none (ex_sub rfl rfl) rfl ?_
  refine Run.opG wantS_none (ex_buildA (r := [(.int .i64 (w64 (a0.e0 - a1.e0))), (.int .i64 (w64 (a0.e1 - a1.e1))), (.int .i64 (w64 (a0.e2 - a1.e2)))]) rfl zer22 pls22 rfl) rfl ?_
  refine Run.opX wantS_none rfl (ExG.storeC (c' := [(.int .i64 (w64 (a0.e0 - a1.e0))), (.int .i64 (w64 (a0.e1 - a1.e1))), (.int .i64 (w64 (a0.e2 - a1.e2)))]) rfl rfl rfl hH29 (i := 0) rfl sz22 rfl rfl rfl rfl rfl) ?_
  rintro _ M42 ⟨rfl, (hH42 : Has (ro (frozen M)) M42 [.obj b28 (.row 22 .whole [(.int .i64 (w64 (a0.e0 - a1.e0))), (.int .i64 (w64 (a0.e1 - a1.e1))), (.int .i64 (w64 (a0.e2 - a1.e2)))]), .obj b25 (.row 22 .whole [(.int .i64 a1.e0), (.int .i64 a1.e1), (.int .i64 a1.e2)]), .obj b22 (.row 22 .whole [(.int .i64 a0.e0), (.int .i64 a0.e1), (.int .i64 a0.e2)])])⟩
  refine Run.opsEnd ?_
  cases h
  exact Run.ret Tryz.func117 rfl (res_cell rfl (x_load (ex_loadA rfl (hH42.cells (i := 0) rfl 0 rfl) rdLe_rfl agg22 rfl rfl rfl)) res_nil) rfl

theorem mkk117 : makeK Tryz.prog 117 = none := by kernel_rfl
theorem cal117 : callable Tryz.prog 117 = true := by kernel_rfl
abbrev ref09_dot_post (r : Int) : SV → Mem → Prop := fun s _ => s = (.int .i64 r)

def ref09_dot (F : Nat) (a0 a1 : S__3_int) : Option (Int) :=
  some (w64 ((w64 ((w64 (a0.e0 * a1.e0)) + (w64 (a0.e1 * a1.e1)))) + (w64 (a0.e2 * a1.e2))))

theorem ref09_dot_ok (F : Nat) (a0 a1 : S__3_int) (r : Int) (M : Mem) (h : ref09_dot F a0 a1 = some r) : CallsM Tryz.prog 116 [(.agg [(.int .i64 a0.e0), (.int .i64 a0.e1), (.int .i64 a0.e2)]), (.agg [(.int .i64 a1.e0), (.int .i64 a1.e1), (.int .i64 a1.e2)])] M (fun s M' => s = (.int .i64 r) ∧ M' = M) := by
  refine CallsM.plain Tryz.func116 rfl rfl rfl (show Run _ _ _ (ref09_dot_post r) _ _ _ from ?_)
  rw [ref09_dot] at h
  have hH := Has.nil (frozen M)
  refine Run.seq (Run.region ?_)
  refine Run.opX wantS_none rfl (ExG.box rfl rfl hH) ?_
  rintro _ M23 ⟨b22, rfl, hH23⟩
  refine Run.opX wantS_none rfl (ExG.box rfl rfl hH23) ?_
  rintro _ M26 ⟨b25, rfl, hH26⟩
  refine Run.opG wantS_none (ex_assign rfl) rfl ?_
  refine Run.opsEnd (Run.seq (Run.region ?_))
  refine Run.opG wantS_none (ex_elX rfl rfl (arr_place (j := 0) rfl els22)) rfl ?_
  refine Run.opG wantS_none (ex_load1 rfl (hH26.cells (i := 1) rfl 0 rfl) rdLe_rfl agg3) rfl ?_
  refine Run.opG wantS_none (ex_elX rfl rfl (arr_place (j := 0) rfl els22)) rfl ?_
  refine Run.opG wantS_none (ex_load1 rfl (hH26.cells (i := 0) rfl 0 rfl) rdLe_rfl agg3) rfl ?_
  refine Run.opG wantS_none (ex_mul rfl rfl) rfl ?_
  refine Run.opG wantS_none (ex_elX rfl rfl (arr_place (j := 1) rfl els22)) rfl ?_
  refine Run.opG wantS_none (ex_load1 rfl (hH26.cells (i := 1) rfl 1 rfl) rdLe_rfl agg3) rfl ?_
  refine Run.opG wantS_none (ex_elX rfl rfl (arr_place (j := 1) rfl els22)) rfl ?_
  refine Run.opG wantS_none (ex_load1 rfl (hH26.cells (i := 0) rfl 1 rfl) rdLe_rfl agg3) rfl ?_
  refine Run.opG wantS_none (ex_mul rfl rfl) rfl ?_
  refine Run.opG wantS_none (ex_add rfl rfl) rfl ?_
  refine Run.opG wantS_none (ex_elX rfl rfl (arr_place (j := 2) rfl els22)) rfl ?_
  refine Run.opG wantS_none (ex_load1 rfl (hH26.cells (i := 1) rfl 2 rfl) rdLe_rfl agg3) rfl ?_
  refine Run.opG wantS_none (ex_elX rfl rfl (arr_place (j := 2) rfl els22)) rfl ?_
  refine Run.opG wantS_none (ex_load1 rfl (hH26.cells (i := 0) rfl 2 rfl) rdLe_rfl agg3) rfl ?_
  refine Run.opG wantS_none (ex_mul rfl rfl) rfl ?_
  refine Run.opG wantS_none (ex_add rfl rfl) rfl ?_
  refine Run.opG wantS_none (ex_assign rfl) rfl ?_
  refine Run.opsEnd ?_
  cases h
  exact Run.ret Tryz.func116 rfl (res_tmp rfl res_nil) rfl

theorem mkk116 : makeK Tryz.prog 116 = none := by kernel_rfl
theorem cal116 : callable Tryz.prog 116 = true := by kernel_rfl
abbrev ref00_Clamp_post (r : Int) : SV → Mem → Prop := fun s _ => s = (.int .i64 r)

def ref00_Clamp (F : Nat) (a0 a1 a2 : Int) : Option (Int) :=
  some (max a1 (min a0 a2))

theorem ref00_Clamp_ok (F : Nat) (a0 a1 a2 r : Int) (M : Mem) (h : ref00_Clamp F a0 a1 a2 = some r) : CallsM Tryz.prog 157 [(.int .i64 a0), (.int .i64 a1), (.int .i64 a2)] M (fun s M' => s = (.int .i64 r) ∧ M' = M) := by
  refine CallsM.plain Tryz.func157 rfl rfl rfl (show Run _ _ _ (ref00_Clamp_post r) _ _ _ from ?_)
  rw [ref00_Clamp] at h
  have hH := Has.nil (frozen M)
  refine Run.seq (Run.region ?_)
  refine Run.opG wantS_none (ex_assign rfl) rfl ?_
  refine Run.opsEnd (Run.seq (Run.region ?_))
  refine Run.opG wantS_none (ex_move rfl) rfl ?_
  refine Run.opG wantS_none (ex_move rfl) rfl ?_
  refine Run.opG wantS_none (ex_move rfl) rfl ?_
  refine Run.opG wantS_none (ex_min rfl rfl) rfl ?_
  refine Run.opG wantS_none (ex_max rfl rfl) rfl ?_
  refine Run.opG wantS_none (ex_assign rfl) rfl ?_
  refine Run.opsEnd ?_
  cases h
  exact Run.ret Tryz.func157 rfl (res_tmp rfl res_nil) rfl

theorem mkk157 : makeK Tryz.prog 157 = none := by kernel_rfl
theorem cal157 : callable Tryz.prog 157 = true := by kernel_rfl
abbrev ref09_rooted_post (r : Int) : SV → Mem → Prop := fun s _ => s = (.int .i64 r)

def ref09_rooted_2 (F : Nat) (v7 v8 : Int) : Option (Int) :=
  bif (decide (v7 < v8)) then
    some ((-1) : Int)
  else
    bif (decide (v8 < v7)) then
      some (1 : Int)
    else
      some (0 : Int)

theorem ref09_rooted_2_ok (F : Nat) : ∀ (v7 v8 : Int) (Fr : Rd) (M : Mem) (r : Int) (hH : Has Fr M []), ref09_rooted_2 F v7 v8 = some r → Run Tryz.prog ⟨⟨118, [], none⟩, []⟩ 33 (ref09_rooted_post r) [(7, (.int .i64 v7)), (8, (.int .i64 v8))] [itemC Tryz.prog 118 [1, 1, 1, 1, 1, 0, 0] 0, codeC Tryz.prog 118 [1, 1, 1, 1, 1, 0, 1], codeC Tryz.prog 118 [1, 1, 1, 1, 1, 1]] M := by
  intro v7 v8 Fr M r hH h
  rw [ref09_rooted_2] at h
  refine Run.opG wantS_none (ex_move rfl) rfl ?_
  refine Run.opG wantS_none (ex_move rfl) rfl ?_
  refine Run.opG wantS_none (ex_lss rfl rfl) rfl ?_
  refine Run.opsEnd ?_
  rcases btf ((decide (v7 < v8))) with hc26 | hc26
  · have h := bif_t hc26 h
    refine Run.condT' rfl hc26 ?_
    refine Run.seq (Run.region ?_)
    refine Run.opG wantS_none (ex_assign rfl) rfl ?_
    refine Run.opsEnd ?_
    cases h
    exact Run.ret Tryz.func118 rfl (res_tmp rfl res_nil) rfl
  · have h := bif_f hc26 h
    refine Run.condF' rfl hc26 ?_
    refine Run.skip (Run.seq (Run.seq (Run.region ?_)))
    refine Run.opG wantS_none (ex_move rfl) rfl ?_
    refine Run.opG wantS_none (ex_move rfl) rfl ?_
    refine Run.opG wantS_none (ex_gtr rfl rfl) rfl ?_
    refine Run.opsEnd ?_
    rcases btf ((decide (v8 < v7))) with hc27 | hc27
    · have h := bif_t hc27 h
      refine Run.condT' rfl hc27 ?_
      refine Run.seq (Run.region ?_)
      refine Run.opG wantS_none (ex_assign rfl) rfl ?_
      refine Run.opsEnd ?_
      cases h
      exact Run.ret Tryz.func118 rfl (res_tmp rfl res_nil) rfl
    · have h := bif_f hc27 h
      refine Run.condF' rfl hc27 ?_
      refine Run.skip (Run.seq (Run.region ?_))
      refine Run.opG wantS_none (ex_assign rfl) rfl ?_
      refine Run.opsEnd ?_
      cases h
      exact Run.ret Tryz.func118 rfl (res_tmp rfl res_nil) rfl

def ref09_rooted_1 (F : Nat) (v2 v7 v8 : Int) : Option (Int) :=
  bif (decide (v2 < (0 : Int))) then
    ref09_rooted_2 F v7 (w64 (-v8))
  else
    ref09_rooted_2 F v7 v8

theorem ref09_rooted_1_ok (F : Nat) : ∀ (v2 v7 v8 : Int) (Fr : Rd) (M : Mem) (r : Int) (hH : Has Fr M []), ref09_rooted_1 F v2 v7 v8 = some r → Run Tryz.prog ⟨⟨118, [], none⟩, []⟩ 33 (ref09_rooted_post r) [(2, (.int .i64 v2)), (7, (.int .i64 v7)), (8, (.int .i64 v8))] [itemC Tryz.prog 118 [1, 1, 1, 1, 0, 0] 0, codeC Tryz.prog 118 [1, 1, 1, 1, 0, 1], codeC Tryz.prog 118 [1, 1, 1, 1, 1]] M := by
  intro v2 v7 v8 Fr M r hH h
  rw [ref09_rooted_1] at h
  refine Run.opG wantS_none (ex_move rfl) rfl ?_
  refine Run.opG wantS_none (ex_lss rfl rfl) rfl ?_
  refine Run.opsEnd ?_
  rcases btf ((decide (v2 < (0 : Int)))) with hc25 | hc25
  · have h := bif_t hc25 h
    refine Run.condT' rfl hc25 ?_
    refine Run.region ?_
    refine Run.opG wantS_none (ex_move rfl) rfl ?_
    refine Run.opG wantS_none (ex_neg rfl) rfl ?_
    refine Run.opG wantS_none (ex_assign rfl) rfl ?_
    refine Run.opsEnd (Run.seq (Run.seq (Run.region ?_)))
    exact Run.pick [7, 8] (ref09_rooted_2_ok F v7 (w64 (-v8)) _ _ _ hH h)
  · have h := bif_f hc25 h
    refine Run.condF' rfl hc25 ?_
    refine Run.skip (Run.seq (Run.seq (Run.region ?_)))
    exact Run.pick [7, 8] (ref09_rooted_2_ok F v7 v8 _ _ _ hH h)

def ref09_rooted (F : Nat) (a0 a1 a2 : Int) : Option (Int) :=
  bnd (ref00_Clamp F a0 ((-16777216) : Int) (16777216 : Int)) fun r22 =>
  bif (decide (r22 < (0 : Int))) then
    ref09_rooted_1 F a2 (w64 (-(w64 ((w64 (r22 * r22)) * a1)))) (w64 (a2 * a2))
  else
    ref09_rooted_1 F a2 (w64 ((w64 (r22 * r22)) * a1)) (w64 (a2 * a2))

theorem ref09_rooted_ok (F : Nat) (a0 a1 a2 r : Int) (M : Mem) (h : ref09_rooted F a0 a1 a2 = some r) : CallsM Tryz.prog 118 [(.int .i64 a0), (.int .i64 a1), (.int .i64 a2)] M (fun s M' => s = (.int .i64 r) ∧ M' = M) := by
  refine CallsM.plain Tryz.func118 rfl rfl rfl (show Run _ _ _ (ref09_rooted_post r) _ _ _ from ?_)
  rw [ref09_rooted] at h
  have hH := Has.nil (frozen M)
  refine Run.seq (Run.region ?_)
  refine Run.opG wantS_none (ex_assign rfl) rfl ?_
  refine Run.opsEnd (Run.seq (Run.region ?_))
  refine Run.opG wantS_none (ex_move rfl) rfl ?_
  obtain ⟨r22, hr22, h⟩ := bnd_some h
  refine Run.callP wantS_none (ex_call rfl mkk157 cal157) rfl (ref00_Clamp_ok F a0 ((-16777216) : Int) (16777216 : Int) _ _ hr22) ?_
  refine Run.opG wantS_none (ex_assign rfl) rfl ?_
  refine Run.opsEnd (Run.seq (Run.region ?_))
  refine Run.opG wantS_none (ex_move rfl) rfl ?_
  refine Run.opG wantS_none (ex_move rfl) rfl ?_
  refine Run.opG wantS_none (ex_mul rfl rfl) rfl ?_
  refine Run.opG wantS_none (ex_move rfl) rfl ?_
  refine Run.opG wantS_none (ex_mul rfl rfl) rfl ?_
  refine Run.opG wantS_none (ex_move rfl) rfl ?_
  refine Run.opG wantS_none (ex_move rfl) rfl ?_
  refine Run.opG wantS_none (ex_mul rfl rfl) rfl ?_
  refine Run.opG wantS_none (ex_assign rfl) rfl ?_
  refine Run.opG wantS_none (ex_assign rfl) rfl ?_
  refine Run.opsEnd (Run.seq (Run.seq (Run.region ?_)))
  refine Run.opG wantS_none (ex_move rfl) rfl ?_
  refine Run.opG wantS_none (ex_lss rfl rfl) rfl ?_
  refine Run.opsEnd ?_
  rcases btf ((decide (r22 < (0 : Int)))) with hc24 | hc24
  · have h := bif_t hc24 h
    refine Run.condT' rfl hc24 ?_
    refine Run.region ?_
    refine Run.opG wantS_none (ex_move rfl) rfl ?_
    refine Run.opG wantS_none (ex_neg rfl) rfl ?_
    refine Run.opG wantS_none (ex_assign rfl) rfl ?_
    refine Run.opsEnd (Run.seq (Run.seq (Run.region ?_)))
    exact Run.pick [2, 7, 8] (ref09_rooted_1_ok F a2 (w64 (-(w64 ((w64 (r22 * r22)) * a1)))) (w64 (a2 * a2)) _ _ _ hH h)
  · have h := bif_f hc24 h
    refine Run.condF' rfl hc24 ?_
    refine Run.skip (Run.seq (Run.seq (Run.region ?_)))
    exact Run.pick [2, 7, 8] (ref09_rooted_1_ok F a2 (w64 ((w64 (r22 * r22)) * a1)) (w64 (a2 * a2)) _ _ _ hH h)

theorem mkk118 : makeK Tryz.prog 118 = none := by kernel_rfl
theorem cal118 : callable Tryz.prog 118 = true := by kernel_rfl
theorem plan69_1_0 : planOf Tryz.prog (opsC (atC Tryz.prog 69 [1, 0])) = some [.fl 0, .fl 1, .fl 2, .fl 3, .fl 5, .an 4 [5], .an 6 [], .fl 7, .sync] := by kernel_rfl
abbrev ref09_on_post (r : Bool) : SV → Mem → Prop := fun s _ => s = (.bool r)

def ref09_on_1 (F : Nat) (v38 : Bool) : Option (Bool) :=
  some v38

theorem ref09_on_1_ok (F : Nat) : ∀ (v38 : Bool) (Fr : Rd) (M : Mem) (r : Bool) (hH : Has Fr M []), ref09_on_1 F v38 = some r → Run Tryz.prog ⟨⟨69, [], none⟩, []⟩ 39 (ref09_on_post r) [(38, (.bool v38))] [itemC Tryz.prog 69 [1, 1, 0] 20, codeC Tryz.prog 69 [1, 1, 1]] M := by
  intro v38 Fr M r hH h
  rw [ref09_on_1] at h
  refine Run.opG wantS_none (ex_assign rfl) rfl ?_
  refine Run.opsEnd ?_
  cases h
  exact Run.ret Tryz.func69 rfl (res_tmp rfl res_nil) rfl

def ref09_on (F : Nat) (a0 a1 : S_api_Site) (a2 : S__3_int) (a3 a4 : Int) : Option (Bool) :=
  bnd (ref09_minus F a0.Place a1.Place) fun r30 =>
  bnd (ref09_dot F r30 a2) fun r32 =>
  bnd (ref09_dot F a2 a2) fun r35 =>
  bnd (ref09_rooted F (w64 (a3 - a4)) r35 r32) fun r38 =>
  bif (decide (r38 ≤ (0 : Int))) then
    bnd (ref09_dot F a2 a2) fun r42 =>
    bnd (ref09_rooted F (w64 (a3 + a4)) r42 r32) fun r45 =>
    ref09_on_1 F (decide ((0 : Int) ≤ r45))
  else
    ref09_on_1 F false

theorem ref09_on_ok (F : Nat) (a0 a1 : S_api_Site) (a2 : S__3_int) (a3 a4 : Int) (r : Bool) (M : Mem) (h : ref09_on F a0 a1 a2 a3 a4 = some r) : CallsM Tryz.prog 69 [(.agg [(.str a0.Name), (.int .i64 a0.Place.e0), (.int .i64 a0.Place.e1), (.int .i64 a0.Place.e2), (.int .i64 a0.ArmU.e0), (.int .i64 a0.ArmU.e1), (.int .i64 a0.ArmU.e2), (.int .i64 a0.ArmV.e0), (.int .i64 a0.ArmV.e1), (.int .i64 a0.ArmV.e2)]), (.agg [(.str a1.Name), (.int .i64 a1.Place.e0), (.int .i64 a1.Place.e1), (.int .i64 a1.Place.e2), (.int .i64 a1.ArmU.e0), (.int .i64 a1.ArmU.e1), (.int .i64 a1.ArmU.e2), (.int .i64 a1.ArmV.e0), (.int .i64 a1.ArmV.e1), (.int .i64 a1.ArmV.e2)]), (.agg [(.int .i64 a2.e0), (.int .i64 a2.e1), (.int .i64 a2.e2)]), (.int .i64 a3), (.int .i64 a4)] M (fun s M' => s = (.bool r) ∧ M' = M) := by
  refine CallsM.plain Tryz.func69 rfl rfl rfl (show Run _ _ _ (ref09_on_post r) _ _ _ from ?_)
  rw [ref09_on] at h
  have hH := Has.nil (frozen M)
  refine Run.seq (Run.region ?_)
  refine Run.opX wantS_none rfl (ExG.box rfl rfl hH) ?_
  rintro _ M23 ⟨b22, rfl, hH23⟩
  refine Run.opX wantS_none rfl (ExG.box rfl rfl hH23) ?_
  rintro _ M26 ⟨b25, rfl, hH26⟩
  refine Run.opX wantS_none rfl (ExG.box rfl rfl hH26) ?_
  rintro _ M29 ⟨b28, rfl, hH29⟩
  refine Run.opG wantS_none (ex_assign rfl) rfl ?_
  refine Run.opsEnd (Run.seq ?_)
  refine Run.drawG plan69_1_0 ?_
  refine DrawG.fl rfl (ev_ex wantS_none (ex_fieldAddr rfl off105_1)) rfl ?_
  refine DrawG.fl rfl (ev_ex wantS_none (ex_loadA rfl (hH29.cells (i := 2) rfl 1 rfl) rdLe_rfl agg22 rfl rfl rfl)) rfl ?_
  refine DrawG.fl rfl (ev_ex wantS_none (ex_fieldAddr rfl off105_1)) rfl ?_
  refine DrawG.fl rfl (ev_ex wantS_none (ex_loadA rfl (hH29.cells (i := 1) rfl 1 rfl) rdLe_rfl agg22 rfl rfl rfl)) rfl ?_
  refine DrawG.fl rfl (ev_ex wantS_none (ex_loadA rfl (hH29.cells (i := 0) rfl 0 rfl) rdLe_rfl agg22 rfl rfl rfl)) rfl ?_
  obtain ⟨r30, hr30, h⟩ := bnd_some h
  refine DrawG.callP rfl wantS_none (ex_call rfl mkk117 cal117) rfl (ref09_minus_ok F a0.Place a1.Place _ _ hr30) (st_cons rfl (ev_ex wantS_none (ex_loadA rfl (hH29.cells (i := 0) rfl 0 rfl) rdLe_rfl agg22 rfl rfl rfl)) rfl rfl rfl st_nil) ?_
  obtain ⟨r32, hr32, h⟩ := bnd_some h
  refine DrawG.callP rfl wantS_none (ex_call rfl mkk116 cal116) rfl (ref09_dot_ok F r30 a2 _ _ hr32) st_nil ?_
  refine DrawG.fl rfl (ev_ex wantS_none (ex_assign rfl)) rfl ?_
  refine DrawG.sync ?_
  refine DrawG.nil ?_
  refine Run.seq (Run.region ?_)
  refine Run.opG wantS_none (ex_move rfl) rfl ?_
  refine Run.opG wantS_none (ex_move rfl) rfl ?_
  refine Run.opG wantS_none (ex_sub rfl rfl) rfl ?_
  refine Run.opG wantS_none (ex_loadA rfl (hH29.cells (i := 0) rfl 0 rfl) rdLe_rfl agg22 rfl rfl rfl) rfl ?_
  refine Run.opG wantS_none (ex_loadA rfl (hH29.cells (i := 0) rfl 0 rfl) rdLe_rfl agg22 rfl rfl rfl) rfl ?_
  obtain ⟨r35, hr35, h⟩ := bnd_some h
  refine Run.callP wantS_none (ex_call rfl mkk116 cal116) rfl (ref09_dot_ok F a2 a2 _ _ hr35) ?_
  refine Run.opG wantS_none (ex_move rfl) rfl ?_
  obtain ⟨r38, hr38, h⟩ := bnd_some h
  refine Run.callP wantS_none (ex_call rfl mkk118 cal118) rfl (ref09_rooted_ok F (w64 (a3 - a4)) r35 r32 _ _ hr38) ?_
  refine Run.opG wantS_none (ex_leq rfl rfl) rfl ?_
  refine Run.opG wantS_none (ex_move rfl) rfl ?_
  rcases btf ((decide (r38 ≤ (0 : Int)))) with hc40 | hc40
  · have h := bif_t hc40 h
    refine Run.opG (wantS_yes' rfl rfl hc40) (ex_move rfl) rfl ?_
    refine Run.opG (wantS_yes' rfl rfl hc40) (ex_move rfl) rfl ?_
    refine Run.opG (wantS_yes' rfl rfl hc40) (ex_add rfl rfl) rfl ?_
    refine Run.opG (wantS_yes' rfl rfl hc40) (ex_loadA rfl (hH29.cells (i := 0) rfl 0 rfl) rdLe_rfl agg22 rfl rfl rfl) rfl ?_
    refine Run.opG (wantS_yes' rfl rfl hc40) (ex_loadA rfl (hH29.cells (i := 0) rfl 0 rfl) rdLe_rfl agg22 rfl rfl rfl) rfl ?_
    obtain ⟨r42, hr42, h⟩ := bnd_some h
    refine Run.callP (wantS_yes' rfl rfl hc40) (ex_call rfl mkk116 cal116) rfl (ref09_dot_ok F a2 a2 _ _ hr42) ?_
    refine Run.opG (wantS_yes' rfl rfl hc40) (ex_move rfl) rfl ?_
    obtain ⟨r45, hr45, h⟩ := bnd_some h
    refine Run.callP (wantS_yes' rfl rfl hc40) (ex_call rfl mkk118 cal118) rfl (ref09_rooted_ok F (w64 (a3 + a4)) r42 r32 _ _ hr45) ?_
    refine Run.opG (wantS_yes' rfl rfl hc40) (ex_geq rfl rfl) rfl ?_
    refine Run.opG wantS_none (ex_pickT' rfl hc40 rfl rfl) rfl ?_
    exact Run.pick [38] (ref09_on_1_ok F (decide ((0 : Int) ≤ r45)) _ _ _ (hH29.pick [] rfl rfl) h)
  · have h := bif_f hc40 h
    refine Run.no (wantS_not' rfl rfl hc40) rfl ?_
    refine Run.no (wantS_not' rfl rfl hc40) rfl ?_
    refine Run.no (wantS_not' rfl rfl hc40) rfl ?_
    refine Run.no (wantS_not' rfl rfl hc40) rfl ?_
    refine Run.no (wantS_not' rfl rfl hc40) rfl ?_
    refine Run.no (wantS_not' rfl rfl hc40) rfl ?_
    refine Run.no (wantS_not' rfl rfl hc40) rfl ?_
    refine Run.no (wantS_not' rfl rfl hc40) rfl ?_
    refine Run.no (wantS_not' rfl rfl hc40) rfl ?_
    refine Run.opG wantS_none (ex_pickF' rfl hc40 rfl rfl) rfl ?_
    exact Run.pick [38] (ref09_on_1_ok F false _ _ _ (hH29.pick [] rfl rfl) h)

theorem mkk69 : makeK Tryz.prog 69 = none := by kernel_rfl
theorem cal69 : callable Tryz.prog 69 = true := by kernel_rfl
theorem plan20_1_1_1_1_0_1_0_0_1_0_0_0 : planOf Tryz.prog (opsC (atC Tryz.prog 20 [1, 1, 1, 1, 0, 1, 0, 0, 1, 0, 0, 0])) = some [.fl 0, .fl 1, .fl 2, .fl 3, .fl 4, .fl 5, .fl 6, .fl 7, .fl 8, .fl 9, .fl 11, .fl 12, .an 10 [12, 11, 7, 6, 5, 4, 3, 2, 1, 0], .an 13 [], .sync] := by kernel_rfl
abbrev ref09_Ring_post (r : (List Int) × Int) : SV → Mem → Prop := fun s Me => ∃ q1, s = (.tuple [q1, (.int .i64 r.2)]) ∧ Has (fun _ => none) Me [.vec 3 1 r.1.length q1 (r.1.flatMap enc3)]

def ref09_Ring_6 (F : Nat) (hd5 : (List S_api_Site) → Int → Int → Int → Int → Int → Int → (List Int) → Option ((List Int) × Int)) (v0 : (List S_api_Site)) (v1 v2 v3 v4 v5 v16 : Int) (l56 : (List Int)) : Option ((List Int) × Int) :=
  hd5 v0 v1 v2 v3 v4 v5 (w64 (v16 + (1 : Int))) l56

theorem ref09_Ring_6_ok (F : Nat) (hd5 : (List S_api_Site) → Int → Int → Int → Int → Int → Int → (List Int) → Option ((List Int) × Int)) (hhd5 : ∀ (v0 : (List S_api_Site)) (v1 v2 v3 v4 v5 v16 : Int) (l37 : (List Int)) (sv0 s37 : SV) (Fr : Rd) (M : Mem) (r : (List Int) × Int) (hv0 : Slc Fr 10 (FlatR enc105) sv0 v0) (hH : Has Fr M [.vec 3 1 l37.length s37 (l37.flatMap enc3)]), hd5 v0 v1 v2 v3 v4 v5 v16 l37 = some r → Run Tryz.prog ⟨⟨20, [], none⟩, []⟩ 77 (ref09_Ring_post r) [(0, sv0), (1, (.int .i64 v1)), (2, (.int .i64 v2)), (3, (.int .i64 v3)), (4, (.int .i64 v4)), (5, (.int .i64 v5)), (15, s37), (16, (.int .i64 v16))] [codeC Tryz.prog 20 [1, 1, 1, 1, 0, 1, 0, 0], loopC Tryz.prog 20 [1, 1, 1, 1, 0, 1, 0, 0], .inBlock 0, codeC Tryz.prog 20 [1, 1, 1, 1, 1]] M) : ∀ (v0 : (List S_api_Site)) (v1 v2 v3 v4 v5 v16 : Int) (l56 : (List Int)) (sv0 s56 : SV) (Fr : Rd) (M : Mem) (r : (List Int) × Int) (hv0 : Slc Fr 10 (FlatR enc105) sv0 v0) (hH : Has Fr M [.vec 3 1 l56.length s56 (l56.flatMap enc3)]), ref09_Ring_6 F hd5 v0 v1 v2 v3 v4 v5 v16 l56 = some r → Run Tryz.prog ⟨⟨20, [], none⟩, []⟩ 77 (ref09_Ring_post r) [(0, sv0), (1, (.int .i64 v1)), (2, (.int .i64 v2)), (3, (.int .i64 v3)), (4, (.int .i64 v4)), (5, (.int .i64 v5)), (15, s56), (16, (.int .i64 v16))] [itemC Tryz.prog 20 [1, 1, 1, 1, 0, 1, 0, 0, 1, 1] 0, loopC Tryz.prog 20 [1, 1, 1, 1, 0, 1, 0, 0], .inBlock 0, codeC Tryz.prog 20 [1, 1, 1, 1, 1]] M := by
  intro v0 v1 v2 v3 v4 v5 v16 l56 sv0 s56 Fr M r hv0 hH h
  rw [ref09_Ring_6] at h
  refine Run.opG wantS_none (ex_move rfl) rfl ?_
  refine Run.opG wantS_none (ex_add rfl rfl) rfl ?_
  refine Run.opG wantS_none (ex_assign rfl) rfl ?_
  refine Run.opsEnd (Run.inLoop ?_)
  exact Run.pick [0, 1, 2, 3, 4, 5, 15, 16] (hhd5 v0 v1 v2 v3 v4 v5 (w64 (v16 + (1 : Int))) l56 sv0 s56 _ _ _ hv0 hH h)

def ref09_Ring_5 (F : Nat) : Nat → (List S_api_Site) → Int → Int → Int → Int → Int → Int → (List Int) → Option ((List Int) × Int)
  | 0, _, _, _, _, _, _, _, _ => none
  | N + 1, v0, v1, v2, v3, v4, v5, v16, l37 =>
    bnd (ref09_cells F v1) fun r40 =>
    bif (decide (v16 < r40)) then
      bnd (idx v0 v2) fun x43 =>
      bnd (idx v0 v3) fun x44 =>
      bnd (ref09_direction F v1 v16) fun r45 =>
      bnd (ref09_on F x43 x44 r45 v4 v5) fun r47 =>
      bif r47 then
        bnd (apd 8 l37 ([v16] : List Int)) fun l55 =>
        ref09_Ring_6 F (ref09_Ring_5 F N) v0 v1 v2 v3 v4 v5 v16 l55
      else
        ref09_Ring_6 F (ref09_Ring_5 F N) v0 v1 v2 v3 v4 v5 v16 l37
    else
      some (l37, (0 : Int))

theorem ref09_Ring_5_ok (F : Nat) : ∀ (N : Nat), ∀ (v0 : (List S_api_Site)) (v1 v2 v3 v4 v5 v16 : Int) (l37 : (List Int)) (sv0 s37 : SV) (Fr : Rd) (M : Mem) (r : (List Int) × Int) (hv0 : Slc Fr 10 (FlatR enc105) sv0 v0) (hH : Has Fr M [.vec 3 1 l37.length s37 (l37.flatMap enc3)]), ref09_Ring_5 F N v0 v1 v2 v3 v4 v5 v16 l37 = some r → Run Tryz.prog ⟨⟨20, [], none⟩, []⟩ 77 (ref09_Ring_post r) [(0, sv0), (1, (.int .i64 v1)), (2, (.int .i64 v2)), (3, (.int .i64 v3)), (4, (.int .i64 v4)), (5, (.int .i64 v5)), (15, s37), (16, (.int .i64 v16))] [codeC Tryz.prog 20 [1, 1, 1, 1, 0, 1, 0, 0], loopC Tryz.prog 20 [1, 1, 1, 1, 0, 1, 0, 0], .inBlock 0, codeC Tryz.prog 20 [1, 1, 1, 1, 1]] M := by
  intro N
  induction N with
  | zero =>
    intro v0 v1 v2 v3 v4 v5 v16 l37 sv0 s37 Fr M r hv0 hH h
    simp [ref09_Ring_5] at h
  | succ N ih =>
    intro v0 v1 v2 v3 v4 v5 v16 l37 sv0 s37 Fr M r hv0 hH h
    rw [ref09_Ring_5] at h
    refine Run.seq (Run.seq (Run.region ?_))
    refine Run.opG wantS_none (ex_move rfl) rfl ?_
    refine Run.opG wantS_none (ex_move rfl) rfl ?_
    obtain ⟨r40, hr40, h⟩ := bnd_some h
    refine Run.callP wantS_none (ex_call rfl mkk50 cal50) rfl (ref09_cells_ok F v1 _ _ hr40) ?_
    refine Run.opG wantS_none (ex_lss rfl rfl) rfl ?_
    refine Run.opsEnd ?_
    rcases btf ((decide (v16 < r40))) with hc42 | hc42
    · have h := bif_t hc42 h
      refine Run.condT' rfl hc42 ?_
      refine Run.skip (Run.seq (Run.block (Run.seq ?_)))
      refine Run.drawG plan20_1_1_1_1_0_1_0_0_1_0_0_0 ?_
      refine DrawG.fl rfl (ev_ex wantS_none (ex_move rfl)) rfl ?_
      refine DrawG.fl rfl (ev_ex wantS_none (ex_move rfl)) rfl ?_
      obtain ⟨x43, hx43, h⟩ := bnd_some h
      obtain ⟨p43, o43, _, hx43, hp43, rfl⟩ := sl_elem (P := Tryz.prog) (t := 31) (kk := .i64) hv0 hx43 els31
      refine DrawG.fl rfl (ev_ex wantS_none (ex_elX rfl rfl hx43)) rfl ?_
      refine DrawG.fl rfl (ev_ex wantS_none (ex_loadA rfl (hH.ptrF hp43) rdLe_rfl agg105 rfl rfl rfl)) rfl ?_
      refine DrawG.fl rfl (ev_ex wantS_none (ex_move rfl)) rfl ?_
      refine DrawG.fl rfl (ev_ex wantS_none (ex_move rfl)) rfl ?_
      obtain ⟨x44, hx44, h⟩ := bnd_some h
      obtain ⟨p44, o44, _, hx44, hp44, rfl⟩ := sl_elem (P := Tryz.prog) (t := 31) (kk := .i64) hv0 hx44 els31
      refine DrawG.fl rfl (ev_ex wantS_none (ex_elX rfl rfl hx44)) rfl ?_
      refine DrawG.fl rfl (ev_ex wantS_none (ex_loadA rfl (hH.ptrF hp44) rdLe_rfl agg105 rfl rfl rfl)) rfl ?_
      refine DrawG.fl rfl (ev_ex wantS_none (ex_move rfl)) rfl ?_
      refine DrawG.fl rfl (ev_ex wantS_none (ex_move rfl)) rfl ?_
      refine DrawG.fl rfl (ev_ex wantS_none (ex_move rfl)) rfl ?_
      refine DrawG.fl rfl (ev_ex wantS_none (ex_move rfl)) rfl ?_
      obtain ⟨r45, hr45, h⟩ := bnd_some h
      refine DrawG.callP rfl wantS_none (ex_call rfl mkk54 cal54) rfl (ref09_direction_ok F v1 v16 _ _ hr45) (st_cons rfl (ev_ex wantS_none (ex_move rfl)) rfl rfl rfl (st_cons rfl (ev_ex wantS_none (ex_move rfl)) rfl rfl rfl (st_cons rfl (ev_ex wantS_none (ex_loadA rfl (hH.ptrF hp44) rdLe_rfl agg105 rfl rfl rfl)) rfl rfl rfl (st_cons rfl (ev_ex wantS_none (ex_elX rfl rfl hx44)) rfl rfl rfl (st_cons rfl (ev_ex wantS_none (ex_move rfl)) rfl rfl rfl (st_cons rfl (ev_ex wantS_none (ex_move rfl)) rfl rfl (slc_self hv0) (st_cons rfl (ev_ex wantS_none (ex_loadA rfl (hH.ptrF hp43) rdLe_rfl agg105 rfl rfl rfl)) rfl rfl rfl (st_cons rfl (ev_ex wantS_none (ex_elX rfl rfl hx43)) rfl rfl rfl (st_cons rfl (ev_ex wantS_none (ex_move rfl)) rfl rfl rfl (st_cons rfl (ev_ex wantS_none (ex_move rfl)) rfl rfl (slc_self hv0) st_nil)))))))))) ?_
      obtain ⟨r47, hr47, h⟩ := bnd_some h
      refine DrawG.callP rfl wantS_none (ex_call rfl mkk69 cal69) rfl (ref09_on_ok F x43 x44 r45 v4 v5 _ _ hr47) st_nil ?_
      refine DrawG.sync ?_
      refine DrawG.nil ?_
      rcases btf (r47) with hc49 | hc49
      · have h := bif_t hc49 h
        refine Run.condT' rfl hc49 ?_
        refine Run.region ?_
        refine Run.opG wantS_none (ex_move rfl) rfl ?_
        refine Run.opG wantS_none (ex_move rfl) rfl ?_
        refine Run.opX wantS_none rfl (ExG.built (enc := enc3) (l := ([v16] : List Int)) (z := 1) rfl elt36 rfl rfl rfl enc3_len hH) ?_
        rintro s51 M52 (hH52 : Has Fr M52 [.vec 3 1 ([v16] : List Int).length s51 (([v16] : List Int).flatMap enc3), .vec 3 1 l37.length s37 (l37.flatMap enc3)])
        obtain ⟨l55, hl55, h⟩ := bnd_some h
        refine Run.opX wantS_none rfl (ExG.append rfl rfl hH52 (i := 1) rfl enc3_len rfl enc3_ones appt36_36 rfl (len_slc (hH52.slc (i := 0) rfl enc3_len)) (first_slc (hH52.slc (i := 0) rfl enc3_len) (rdLe_rdRow _) enc3_len) hl55) ?_
        rintro s55 M57 (hH57 : Has Fr M57 [.vec 3 1 ([v16] : List Int).length s51 (([v16] : List Int).flatMap enc3), .vec 3 1 l55.length s55 (l55.flatMap enc3)])
        refine Run.opG wantS_none (ex_assign rfl) rfl ?_
        refine Run.opsEnd (Run.inBlock (Run.region ?_))
        exact Run.pick [0, 1, 2, 3, 4, 5, 15, 16] (ref09_Ring_6_ok F (ref09_Ring_5 F N) ih v0 v1 v2 v3 v4 v5 v16 l55 sv0 s55 _ _ _ hv0 (hH57.pick [1] rfl rfl) h)
      · have h := bif_f hc49 h
        refine Run.condF' rfl hc49 ?_
        refine Run.skip (Run.inBlock (Run.region ?_))
        exact Run.pick [0, 1, 2, 3, 4, 5, 15, 16] (ref09_Ring_6_ok F (ref09_Ring_5 F N) ih v0 v1 v2 v3 v4 v5 v16 l37 sv0 s37 _ _ _ hv0 hH h)
    · have h := bif_f hc42 h
      refine Run.condF' rfl hc42 ?_
      refine Run.exit rfl (Run.seq (Run.region ?_))
      refine Run.opG wantS_none (ex_move rfl) rfl ?_
      refine Run.opG wantS_none (ex_assign rfl) rfl ?_
      refine Run.opG wantS_none (ex_assign rfl) rfl ?_
      refine Run.opsEnd ?_
      cases h
      exact Run.ret Tryz.func20 rfl (res_tmp rfl (res_tmp rfl res_nil)) ⟨_, rfl, (hH.pick [0] rfl rfl).upF (none_le _)⟩

def ref09_Ring_4 (F : Nat) (v0 : (List S_api_Site)) (v1 v2 v3 v4 v5 : Int) (v51 : Bool) : Option ((List Int) × Int) :=
  bif v51 then
    some (([] : List Int), (92 : Int))
  else
    ref09_Ring_5 F F v0 v1 v2 v3 v4 v5 (0 : Int) ([] : List Int)

theorem ref09_Ring_4_ok (F : Nat) : ∀ (v0 : (List S_api_Site)) (v1 v2 v3 v4 v5 : Int) (v51 : Bool) (sv0 : SV) (Fr : Rd) (M : Mem) (r : (List Int) × Int) (hv0 : Slc Fr 10 (FlatR enc105) sv0 v0) (hH : Has Fr M []), ref09_Ring_4 F v0 v1 v2 v3 v4 v5 v51 = some r → Run Tryz.prog ⟨⟨20, [], none⟩, []⟩ 77 (ref09_Ring_post r) [(0, sv0), (1, (.int .i64 v1)), (2, (.int .i64 v2)), (3, (.int .i64 v3)), (4, (.int .i64 v4)), (5, (.int .i64 v5)), (51, (.bool v51))] [codeC Tryz.prog 20 [1, 1, 0, 1], codeC Tryz.prog 20 [1, 1, 1]] M := by
  intro v0 v1 v2 v3 v4 v5 v51 sv0 Fr M r hv0 hH h
  rw [ref09_Ring_4] at h
  rcases btf (v51) with hc34 | hc34
  · have h := bif_t hc34 h
    refine Run.condT' rfl hc34 ?_
    refine Run.seq (Run.region ?_)
    refine Run.opG wantS_none (ex_assign rfl) rfl ?_
    refine Run.opG wantS_none (ex_assign rfl) rfl ?_
    refine Run.opsEnd ?_
    have hH36 : Has Fr M [.vec 3 1 ([] : List Int).length .nils (([] : List Int).flatMap enc3)] := hH.nils 3 1
    cases h
    exact Run.ret Tryz.func20 rfl (res_tmp rfl (res_tmp rfl res_nil)) ⟨_, rfl, (hH36.pick [0] rfl rfl).upF (none_le _)⟩
  · have h := bif_f hc34 h
    refine Run.condF' rfl hc34 ?_
    refine Run.skip (Run.seq (Run.region ?_))
    refine Run.opG wantS_none (ex_assign rfl) rfl ?_
    refine Run.opsEnd (Run.seq (Run.seq (Run.region ?_)))
    refine Run.opG wantS_none (ex_assign rfl) rfl ?_
    refine Run.opsEnd (Run.block (Run.loop ?_))
    have hH38 : Has Fr M [.vec 3 1 ([] : List Int).length .nils (([] : List Int).flatMap enc3)] := hH.nils 3 1
    exact Run.pick [0, 1, 2, 3, 4, 5, 15, 16] (ref09_Ring_5_ok F F v0 v1 v2 v3 v4 v5 (0 : Int) ([] : List Int) sv0 .nils _ _ _ hv0 hH38 h)

def ref09_Ring_3 (F : Nat) (v0 : (List S_api_Site)) (v1 v2 v3 v4 v5 : Int) (v46 : Bool) : Option ((List Int) × Int) :=
  bif v46 then
    ref09_Ring_4 F v0 v1 v2 v3 v4 v5 true
  else
    bnd (ref00_In F v5 (0 : Int) (131072 : Int)) fun r59 =>
    ref09_Ring_4 F v0 v1 v2 v3 v4 v5 (!r59)

theorem ref09_Ring_3_ok (F : Nat) : ∀ (v0 : (List S_api_Site)) (v1 v2 v3 v4 v5 : Int) (v46 : Bool) (sv0 : SV) (Fr : Rd) (M : Mem) (r : (List Int) × Int) (hv0 : Slc Fr 10 (FlatR enc105) sv0 v0) (hH : Has Fr M []), ref09_Ring_3 F v0 v1 v2 v3 v4 v5 v46 = some r → Run Tryz.prog ⟨⟨20, [], none⟩, []⟩ 77 (ref09_Ring_post r) [(0, sv0), (1, (.int .i64 v1)), (2, (.int .i64 v2)), (3, (.int .i64 v3)), (4, (.int .i64 v4)), (5, (.int .i64 v5)), (46, (.bool v46))] [itemC Tryz.prog 20 [1, 1, 0, 0] 24, codeC Tryz.prog 20 [1, 1, 0, 1], codeC Tryz.prog 20 [1, 1, 1]] M := by
  intro v0 v1 v2 v3 v4 v5 v46 sv0 Fr M r hv0 hH h
  rw [ref09_Ring_3] at h
  refine Run.opG wantS_none (ex_move rfl) rfl ?_
  rcases btf (v46) with hc33 | hc33
  · have h := bif_t hc33 h
    refine Run.no (wantS_not' rfl rfl hc33) rfl ?_
    refine Run.no (wantS_not' rfl rfl hc33) rfl ?_
    refine Run.no (wantS_not' rfl rfl hc33) rfl ?_
    refine Run.opG wantS_none (ex_pickT' rfl hc33 rfl rfl) rfl ?_
    refine Run.opsEnd ?_
    exact Run.pick [0, 1, 2, 3, 4, 5, 51] (ref09_Ring_4_ok F v0 v1 v2 v3 v4 v5 true sv0 _ _ _ hv0 hH h)
  · have h := bif_f hc33 h
    refine Run.opG (wantS_yes' rfl rfl hc33) (ex_move rfl) rfl ?_
    obtain ⟨r59, hr59, h⟩ := bnd_some h
    refine Run.callP (wantS_yes' rfl rfl hc33) (ex_call rfl mkk36 cal36) rfl (ref00_In_ok F v5 (0 : Int) (131072 : Int) _ _ hr59) ?_
    refine Run.opG (wantS_yes' rfl rfl hc33) (ex_not rfl) rfl ?_
    refine Run.opG wantS_none (ex_pickF' rfl hc33 rfl rfl) rfl ?_
    refine Run.opsEnd ?_
    exact Run.pick [0, 1, 2, 3, 4, 5, 51] (ref09_Ring_4_ok F v0 v1 v2 v3 v4 v5 (!r59) sv0 _ _ _ hv0 hH h)

def ref09_Ring_2 (F : Nat) (v0 : (List S_api_Site)) (v1 v2 v3 v4 v5 : Int) (v41 : Bool) : Option ((List Int) × Int) :=
  bif v41 then
    ref09_Ring_3 F v0 v1 v2 v3 v4 v5 true
  else
    bnd (ref00_In F v4 ((-1099511627776) : Int) (1099511627776 : Int)) fun r62 =>
    ref09_Ring_3 F v0 v1 v2 v3 v4 v5 (!r62)

theorem ref09_Ring_2_ok (F : Nat) : ∀ (v0 : (List S_api_Site)) (v1 v2 v3 v4 v5 : Int) (v41 : Bool) (sv0 : SV) (Fr : Rd) (M : Mem) (r : (List Int) × Int) (hv0 : Slc Fr 10 (FlatR enc105) sv0 v0) (hH : Has Fr M []), ref09_Ring_2 F v0 v1 v2 v3 v4 v5 v41 = some r → Run Tryz.prog ⟨⟨20, [], none⟩, []⟩ 77 (ref09_Ring_post r) [(0, sv0), (1, (.int .i64 v1)), (2, (.int .i64 v2)), (3, (.int .i64 v3)), (4, (.int .i64 v4)), (5, (.int .i64 v5)), (41, (.bool v41))] [itemC Tryz.prog 20 [1, 1, 0, 0] 19, codeC Tryz.prog 20 [1, 1, 0, 1], codeC Tryz.prog 20 [1, 1, 1]] M := by
  intro v0 v1 v2 v3 v4 v5 v41 sv0 Fr M r hv0 hH h
  rw [ref09_Ring_2] at h
  refine Run.opG wantS_none (ex_move rfl) rfl ?_
  rcases btf (v41) with hc32 | hc32
  · have h := bif_t hc32 h
    refine Run.no (wantS_not' rfl rfl hc32) rfl ?_
    refine Run.no (wantS_not' rfl rfl hc32) rfl ?_
    refine Run.no (wantS_not' rfl rfl hc32) rfl ?_
    refine Run.opG wantS_none (ex_pickT' rfl hc32 rfl rfl) rfl ?_
    exact Run.pick [0, 1, 2, 3, 4, 5, 46] (ref09_Ring_3_ok F v0 v1 v2 v3 v4 v5 true sv0 _ _ _ hv0 hH h)
  · have h := bif_f hc32 h
    refine Run.opG (wantS_yes' rfl rfl hc32) (ex_move rfl) rfl ?_
    obtain ⟨r62, hr62, h⟩ := bnd_some h
    refine Run.callP (wantS_yes' rfl rfl hc32) (ex_call rfl mkk36 cal36) rfl (ref00_In_ok F v4 ((-1099511627776) : Int) (1099511627776 : Int) _ _ hr62) ?_
    refine Run.opG (wantS_yes' rfl rfl hc32) (ex_not rfl) rfl ?_
    refine Run.opG wantS_none (ex_pickF' rfl hc32 rfl rfl) rfl ?_
    exact Run.pick [0, 1, 2, 3, 4, 5, 46] (ref09_Ring_3_ok F v0 v1 v2 v3 v4 v5 (!r62) sv0 _ _ _ hv0 hH h)

def ref09_Ring_1 (F : Nat) (v0 : (List S_api_Site)) (v1 v2 v3 v4 v5 : Int) (v36 : Bool) : Option ((List Int) × Int) :=
  bif v36 then
    ref09_Ring_2 F v0 v1 v2 v3 v4 v5 true
  else
    ref09_Ring_2 F v0 v1 v2 v3 v4 v5 (v2 == v3)

theorem ref09_Ring_1_ok (F : Nat) : ∀ (v0 : (List S_api_Site)) (v1 v2 v3 v4 v5 : Int) (v36 : Bool) (sv0 : SV) (Fr : Rd) (M : Mem) (r : (List Int) × Int) (hv0 : Slc Fr 10 (FlatR enc105) sv0 v0) (hH : Has Fr M []), ref09_Ring_1 F v0 v1 v2 v3 v4 v5 v36 = some r → Run Tryz.prog ⟨⟨20, [], none⟩, []⟩ 77 (ref09_Ring_post r) [(0, sv0), (1, (.int .i64 v1)), (2, (.int .i64 v2)), (3, (.int .i64 v3)), (4, (.int .i64 v4)), (5, (.int .i64 v5)), (36, (.bool v36))] [itemC Tryz.prog 20 [1, 1, 0, 0] 14, codeC Tryz.prog 20 [1, 1, 0, 1], codeC Tryz.prog 20 [1, 1, 1]] M := by
  intro v0 v1 v2 v3 v4 v5 v36 sv0 Fr M r hv0 hH h
  rw [ref09_Ring_1] at h
  refine Run.opG wantS_none (ex_move rfl) rfl ?_
  rcases btf (v36) with hc31 | hc31
  · have h := bif_t hc31 h
    refine Run.no (wantS_not' rfl rfl hc31) rfl ?_
    refine Run.no (wantS_not' rfl rfl hc31) rfl ?_
    refine Run.no (wantS_not' rfl rfl hc31) rfl ?_
    refine Run.opG wantS_none (ex_pickT' rfl hc31 rfl rfl) rfl ?_
    exact Run.pick [0, 1, 2, 3, 4, 5, 41] (ref09_Ring_2_ok F v0 v1 v2 v3 v4 v5 true sv0 _ _ _ hv0 hH h)
  · have h := bif_f hc31 h
    refine Run.opG (wantS_yes' rfl rfl hc31) (ex_move rfl) rfl ?_
    refine Run.opG (wantS_yes' rfl rfl hc31) (ex_move rfl) rfl ?_
    refine Run.opG (wantS_yes' rfl rfl hc31) (ex_eql rfl rfl) rfl ?_
    refine Run.opG wantS_none (ex_pickF' rfl hc31 rfl rfl) rfl ?_
    exact Run.pick [0, 1, 2, 3, 4, 5, 41] (ref09_Ring_2_ok F v0 v1 v2 v3 v4 v5 (v2 == v3) sv0 _ _ _ hv0 hH h)

def ref09_Ring (F : Nat) (a0 : (List S_api_Site)) (a1 a2 a3 a4 a5 : Int) : Option ((List Int) × Int) :=
  bnd (ref09_placed F a0 a1 (0 : Int)) fun r22 =>
  bif (!(r22 == (0 : Int))) then
    some (([] : List Int), r22)
  else
    bnd (ref00_In F a2 (0 : Int) (w64 ((a0.length : Int) - (1 : Int)))) fun r28 =>
    bif (!r28) then
      ref09_Ring_1 F a0 a1 a2 a3 a4 a5 true
    else
      bnd (ref00_In F a3 (0 : Int) (w64 ((a0.length : Int) - (1 : Int)))) fun r65 =>
      ref09_Ring_1 F a0 a1 a2 a3 a4 a5 (!r65)

theorem ref09_Ring_ok (F : Nat) (a0 : (List S_api_Site)) (a1 a2 a3 a4 a5 : Int) (s0 : SV) (r : (List Int) × Int) (M : Mem) (hs0 : Slc (rd M) 10 (FlatR enc105) s0 a0) (h : ref09_Ring F a0 a1 a2 a3 a4 a5 = some r) : CallsM Tryz.prog 20 [s0, (.int .i64 a1), (.int .i64 a2), (.int .i64 a3), (.int .i64 a4), (.int .i64 a5)] M (fun s M' => ∃ q1, s = (.tuple [q1, (.int .i64 r.2)]) ∧ New M M' [.vec 3 1 r.1.length q1 (r.1.flatMap enc3)]) := by
  refine CallsM.fresh (Q := ref09_Ring_post r) Tryz.func20 rfl rfl ?_ (by rintro s Me ⟨q1, rfl, hx⟩ ha hw; exact ⟨_, rfl, New.of rfl hx ha hw⟩)
  rw [ref09_Ring] at h
  replace hs0 := hs0.mono (rdLe_frozen M) (fun _ _ h => h)
  have hH := Has.nil (frozen M)
  refine Run.seq (Run.region ?_)
  refine Run.opG wantS_none (ex_assign rfl) rfl ?_
  refine Run.opG wantS_none (ex_assign rfl) rfl ?_
  refine Run.opsEnd (Run.seq (Run.seq (Run.region ?_)))
  refine Run.opG wantS_none (ex_move rfl) rfl ?_
  refine Run.opG wantS_none (ex_move rfl) rfl ?_
  obtain ⟨r22, hr22, h⟩ := bnd_some h
  refine Run.callP wantS_none (ex_call rfl mkk68 cal68) rfl (ref09_placed_ok F a0 a1 (0 : Int) s0 _ _ (hH.slcF hs0) hr22) ?_
  refine Run.opG wantS_none (ex_assign rfl) rfl ?_
  refine Run.opsEnd (Run.seq (Run.region ?_))
  refine Run.opG wantS_none (ex_move rfl) rfl ?_
  refine Run.opG wantS_none (ex_neq rfl rfl) rfl ?_
  refine Run.opsEnd ?_
  rcases btf ((!(r22 == (0 : Int)))) with hc24 | hc24
  · have h := bif_t hc24 h
    refine Run.condT' rfl hc24 ?_
    refine Run.seq (Run.region ?_)
    refine Run.opG wantS_none (ex_move rfl) rfl ?_
    refine Run.opG wantS_none (ex_assign rfl) rfl ?_
    refine Run.opG wantS_none (ex_assign rfl) rfl ?_
    refine Run.opsEnd ?_
    have hH26 : Has (ro (frozen M)) (frozen M) [.vec 3 1 ([] : List Int).length .nils (([] : List Int).flatMap enc3)] := hH.nils 3 1
    cases h
    exact Run.ret Tryz.func20 rfl (res_tmp rfl (res_tmp rfl res_nil)) ⟨_, rfl, (hH26.pick [0] rfl rfl).upF (none_le _)⟩
  · have h := bif_f hc24 h
    refine Run.condF' rfl hc24 ?_
    refine Run.skip (Run.seq (Run.seq (Run.region ?_)))
    refine Run.opG wantS_none (ex_move rfl) rfl ?_
    refine Run.opG wantS_none (ex_move rfl) rfl ?_
    refine Run.opG wantS_none (ex_len' rfl hs0 lenk31) rfl ?_
    refine Run.opG wantS_none (ex_sub rfl rfl) rfl ?_
    obtain ⟨r28, hr28, h⟩ := bnd_some h
    refine Run.callP wantS_none (ex_call rfl mkk36 cal36) rfl (ref00_In_ok F a2 (0 : Int) (w64 ((a0.length : Int) - (1 : Int))) _ _ hr28) ?_
    refine Run.opG wantS_none (ex_not rfl) rfl ?_
    refine Run.opG wantS_none (ex_move rfl) rfl ?_
    rcases btf ((!r28)) with hc30 | hc30
    · have h := bif_t hc30 h
      refine Run.no (wantS_not' rfl rfl hc30) rfl ?_
      refine Run.no (wantS_not' rfl rfl hc30) rfl ?_
      refine Run.no (wantS_not' rfl rfl hc30) rfl ?_
      refine Run.no (wantS_not' rfl rfl hc30) rfl ?_
      refine Run.no (wantS_not' rfl rfl hc30) rfl ?_
      refine Run.no (wantS_not' rfl rfl hc30) rfl ?_
      refine Run.opG wantS_none (ex_pickT' rfl hc30 rfl rfl) rfl ?_
      exact Run.pick [0, 1, 2, 3, 4, 5, 36] (ref09_Ring_1_ok F a0 a1 a2 a3 a4 a5 true s0 _ _ _ hs0 hH h)
    · have h := bif_f hc30 h
      refine Run.opG (wantS_yes' rfl rfl hc30) (ex_move rfl) rfl ?_
      refine Run.opG (wantS_yes' rfl rfl hc30) (ex_move rfl) rfl ?_
      refine Run.opG (wantS_yes' rfl rfl hc30) (ex_len' rfl hs0 lenk31) rfl ?_
      refine Run.opG (wantS_yes' rfl rfl hc30) (ex_sub rfl rfl) rfl ?_
      obtain ⟨r65, hr65, h⟩ := bnd_some h
      refine Run.callP (wantS_yes' rfl rfl hc30) (ex_call rfl mkk36 cal36) rfl (ref00_In_ok F a3 (0 : Int) (w64 ((a0.length : Int) - (1 : Int))) _ _ hr65) ?_
      refine Run.opG (wantS_yes' rfl rfl hc30) (ex_not rfl) rfl ?_
      refine Run.opG wantS_none (ex_pickF' rfl hc30 rfl rfl) rfl ?_
      exact Run.pick [0, 1, 2, 3, 4, 5, 36] (ref09_Ring_1_ok F a0 a1 a2 a3 a4 a5 (!r65) s0 _ _ _ hs0 hH h)

theorem mkk20 : makeK Tryz.prog 20 = none := by kernel_rfl
theorem cal20 : callable Tryz.prog 20 = true := by kernel_rfl
theorem lenk36 : lenK Tryz.prog 36 = some .sl := by kernel_rfl
theorem els36 : elems Tryz.prog 36 = some (.sl 1) := by kernel_rfl
theorem plan21_1_1_0_1_0_0_1_0_0_0 : planOf Tryz.prog (opsC (atC Tryz.prog 21 [1, 1, 0, 1, 0, 0, 1, 0, 0, 0])) = some [.fl 0, .fl 1, .fl 2, .fl 3, .fl 4, .fl 5, .fl 6, .fl 7, .fl 8, .sync] := by kernel_rfl
abbrev ref00_SameInts_post (r : Bool) : SV → Mem → Prop := fun s _ => s = (.bool r)

def ref00_SameInts_1 (F : Nat) : Nat → (List Int) → (List Int) → Int → Option (Bool)
  | 0, _, _, _ => none
  | N + 1, v0, v1, v5 =>
    bif (decide (v5 < (v0.length : Int))) then
      bnd (idx v0 v5) fun x23 =>
      bnd (idx v1 v5) fun x24 =>
      bif (!(x23 == x24)) then
        some false
      else
        (ref00_SameInts_1 F N) v0 v1 (w64 (v5 + (1 : Int)))
    else
      some true

theorem ref00_SameInts_1_ok (F : Nat) : ∀ (N : Nat), ∀ (v0 v1 : (List Int)) (v5 : Int) (sv0 sv1 : SV) (Fr : Rd) (M : Mem) (r : Bool) (hv0 : Slc Fr 1 (FlatR enc3) sv0 v0) (hv1 : Slc Fr 1 (FlatR enc3) sv1 v1) (hH : Has Fr M []), ref00_SameInts_1 F N v0 v1 v5 = some r → Run Tryz.prog ⟨⟨21, [], none⟩, []⟩ 26 (ref00_SameInts_post r) [(0, sv0), (1, sv1), (5, (.int .i64 v5))] [codeC Tryz.prog 21 [1, 1, 0, 1, 0, 0], loopC Tryz.prog 21 [1, 1, 0, 1, 0, 0], .inBlock 0, codeC Tryz.prog 21 [1, 1, 1]] M := by
  intro N
  induction N with
  | zero =>
    intro v0 v1 v5 sv0 sv1 Fr M r hv0 hv1 hH h
    simp [ref00_SameInts_1] at h
  | succ N ih =>
    intro v0 v1 v5 sv0 sv1 Fr M r hv0 hv1 hH h
    rw [ref00_SameInts_1] at h
    refine Run.seq (Run.seq (Run.region ?_))
    refine Run.opG wantS_none (ex_move rfl) rfl ?_
    refine Run.opG wantS_none (ex_move rfl) rfl ?_
    refine Run.opG wantS_none (ex_len' rfl hv0 lenk36) rfl ?_
    refine Run.opG wantS_none (ex_lss rfl rfl) rfl ?_
    refine Run.opsEnd ?_
    rcases btf ((decide (v5 < (v0.length : Int)))) with hc22 | hc22
    · have h := bif_t hc22 h
      refine Run.condT' rfl hc22 ?_
      refine Run.skip (Run.seq (Run.block (Run.seq ?_)))
      refine Run.drawG plan21_1_1_0_1_0_0_1_0_0_0 ?_
      refine DrawG.fl rfl (ev_ex wantS_none (ex_move rfl)) rfl ?_
      refine DrawG.fl rfl (ev_ex wantS_none (ex_move rfl)) rfl ?_
      obtain ⟨x23, hx23, h⟩ := bnd_some h
      obtain ⟨p23, o23, _, hx23, hp23, rfl⟩ := sl_elem (P := Tryz.prog) (t := 36) (kk := .i64) hv0 hx23 els36
      refine DrawG.fl rfl (ev_ex wantS_none (ex_elX rfl rfl hx23)) rfl ?_
      refine DrawG.fl rfl (ev_ex wantS_none (ex_load1 rfl (hH.ptrF hp23) rdLe_rfl agg3)) rfl ?_
      refine DrawG.fl rfl (ev_ex wantS_none (ex_move rfl)) rfl ?_
      refine DrawG.fl rfl (ev_ex wantS_none (ex_move rfl)) rfl ?_
      obtain ⟨x24, hx24, h⟩ := bnd_some h
      obtain ⟨p24, o24, _, hx24, hp24, rfl⟩ := sl_elem (P := Tryz.prog) (t := 36) (kk := .i64) hv1 hx24 els36
      refine DrawG.fl rfl (ev_ex wantS_none (ex_elX rfl rfl hx24)) rfl ?_
      refine DrawG.fl rfl (ev_ex wantS_none (ex_load1 rfl (hH.ptrF hp24) rdLe_rfl agg3)) rfl ?_
      refine DrawG.fl rfl (ev_ex wantS_none (ex_neq rfl rfl)) rfl ?_
      refine DrawG.sync ?_
      refine DrawG.nil ?_
      rcases btf ((!(x23 == x24))) with hc25 | hc25
      · have h := bif_t hc25 h
        refine Run.condT' rfl hc25 ?_
        refine Run.seq (Run.region ?_)
        refine Run.opG wantS_none (ex_assign rfl) rfl ?_
        refine Run.opsEnd ?_
        cases h
        exact Run.ret Tryz.func21 rfl (res_tmp rfl res_nil) rfl
      · have h := bif_f hc25 h
        refine Run.condF' rfl hc25 ?_
        refine Run.skip (Run.inBlock (Run.region ?_))
        refine Run.opG wantS_none (ex_move rfl) rfl ?_
        refine Run.opG wantS_none (ex_add rfl rfl) rfl ?_
        refine Run.opG wantS_none (ex_assign rfl) rfl ?_
        refine Run.opsEnd (Run.inLoop ?_)
        exact Run.pick [0, 1, 5] (ih v0 v1 (w64 (v5 + (1 : Int))) sv0 sv1 _ _ _ hv0 hv1 hH h)
    · have h := bif_f hc22 h
      refine Run.condF' rfl hc22 ?_
      refine Run.exit rfl (Run.seq (Run.region ?_))
      refine Run.opG wantS_none (ex_assign rfl) rfl ?_
      refine Run.opsEnd ?_
      cases h
      exact Run.ret Tryz.func21 rfl (res_tmp rfl res_nil) rfl

def ref00_SameInts (F : Nat) (a0 a1 : (List Int)) : Option (Bool) :=
  bif (!((a0.length : Int) == (a1.length : Int))) then
    some false
  else
    ref00_SameInts_1 F F a0 a1 (0 : Int)

theorem ref00_SameInts_ok (F : Nat) (a0 a1 : (List Int)) (s0 s1 : SV) (r : Bool) (M : Mem) (hs0 : Slc (rd M) 1 (FlatR enc3) s0 a0) (hs1 : Slc (rd M) 1 (FlatR enc3) s1 a1) (h : ref00_SameInts F a0 a1 = some r) : CallsM Tryz.prog 21 [s0, s1] M (fun s M' => s = (.bool r) ∧ M' = M) := by
  refine CallsM.plain Tryz.func21 rfl rfl rfl (show Run _ _ _ (ref00_SameInts_post r) _ _ _ from ?_)
  rw [ref00_SameInts] at h
  replace hs0 := hs0.mono (rdLe_frozen M) (fun _ _ h => h)
  replace hs1 := hs1.mono (rdLe_frozen M) (fun _ _ h => h)
  have hH := Has.nil (frozen M)
  refine Run.seq (Run.region ?_)
  refine Run.opG wantS_none (ex_assign rfl) rfl ?_
  refine Run.opsEnd (Run.seq (Run.seq (Run.region ?_)))
  refine Run.opG wantS_none (ex_move rfl) rfl ?_
  refine Run.opG wantS_none (ex_len' rfl hs0 lenk36) rfl ?_
  refine Run.opG wantS_none (ex_move rfl) rfl ?_
  refine Run.opG wantS_none (ex_len' rfl hs1 lenk36) rfl ?_
  refine Run.opG wantS_none (ex_neq rfl rfl) rfl ?_
  refine Run.opsEnd ?_
  rcases btf ((!((a0.length : Int) == (a1.length : Int)))) with hc21 | hc21
  · have h := bif_t hc21 h
    refine Run.condT' rfl hc21 ?_
    refine Run.seq (Run.region ?_)
    refine Run.opG wantS_none (ex_assign rfl) rfl ?_
    refine Run.opsEnd ?_
    cases h
    exact Run.ret Tryz.func21 rfl (res_tmp rfl res_nil) rfl
  · have h := bif_f hc21 h
    refine Run.condF' rfl hc21 ?_
    refine Run.skip (Run.seq (Run.seq (Run.region ?_)))
    refine Run.opG wantS_none (ex_assign rfl) rfl ?_
    refine Run.opsEnd (Run.block (Run.loop ?_))
    exact Run.pick [0, 1, 5] (ref00_SameInts_1_ok F F a0 a1 (0 : Int) s0 s1 _ _ _ hs0 hs1 hH h)

theorem mkk21 : makeK Tryz.prog 21 = none := by kernel_rfl
theorem cal21 : callable Tryz.prog 21 = true := by kernel_rfl
theorem agg35 : aggSize Tryz.prog 35 = some none := by kernel_rfl
theorem lenk35 : lenK Tryz.prog 35 = some .sl := by kernel_rfl
theorem els35 : elems Tryz.prog 35 = some (.sl 3) := by kernel_rfl
theorem agg67 : aggSize Tryz.prog 67 = some (some 3) := by kernel_rfl
theorem zer67 : zerosOf Tryz.prog 67 = some [(.int .i64 0), (.int .i64 0), (.int .i64 0)] := by kernel_rfl
theorem sz67 : szOf Tryz.prog 67 = some 3 := by kernel_rfl
theorem off67_0 : fieldOff Tryz.prog 67 0 = some 0 := by kernel_rfl
theorem off67_2 : fieldOff Tryz.prog 67 2 = some 2 := by kernel_rfl
theorem off67_1 : fieldOff Tryz.prog 67 1 = some 1 := by kernel_rfl
abbrev sky_areArrivals_post (r : Bool) : SV → Mem → Prop := fun s _ => s = (.bool r)

def sky_areArrivals_3 (F : Nat) (hd1 : (List S_api_Arrival) → Int → Int → (List S_api_Arrival) → Int → Int → Option (Bool)) (v0 : (List S_api_Arrival)) (v1 : Int) (v8 : (List S_api_Arrival)) (v9 v10 : Int) (v33 : Bool) (c25 : S_api_Arrival) : Option (Bool) :=
  bif v33 then
    some false
  else
    hd1 v0 v1 c25.Site v8 v9 (w64 (v10 + (1 : Int)))

theorem sky_areArrivals_3_ok (F : Nat) (hd1 : (List S_api_Arrival) → Int → Int → (List S_api_Arrival) → Int → Int → Option (Bool)) (hhd1 : ∀ (v0 : (List S_api_Arrival)) (v1 v5 : Int) (v8 : (List S_api_Arrival)) (v9 v10 : Int) (sv0 sv8 : SV) (Fr : Rd) (M : Mem) (r : Bool) (hv0 : Slc Fr 3 (FlatR enc67) sv0 v0) (hv8 : Slc Fr 3 (FlatR enc67) sv8 v8) (hH : Has Fr M []), hd1 v0 v1 v5 v8 v9 v10 = some r → Run Tryz.prog ⟨⟨70, [], none⟩, []⟩ 40 (sky_areArrivals_post r) [(0, sv0), (1, (.int .i64 v1)), (5, (.int .i64 v5)), (8, sv8), (9, (.int .i64 v9)), (10, (.int .i64 v10))] [codeC Tryz.prog 70 [1, 1, 0, 1, 0, 0], loopC Tryz.prog 70 [1, 1, 0, 1, 0, 0], .inBlock 0, codeC Tryz.prog 70 [1, 1, 1]] M) : ∀ (v0 : (List S_api_Arrival)) (v1 : Int) (v8 : (List S_api_Arrival)) (v9 v10 : Int) (v33 : Bool) (c25 : S_api_Arrival) (sv0 sv8 : SV) (b25 : Pos) (Fr : Rd) (M : Mem) (r : Bool) (hv0 : Slc Fr 3 (FlatR enc67) sv0 v0) (hv8 : Slc Fr 3 (FlatR enc67) sv8 v8) (hH : Has Fr M [.obj b25 (.row 67 .whole [(.int .i64 c25.Site), (.int .i64 c25.Time), (.int .i64 c25.Slack)])]), sky_areArrivals_3 F hd1 v0 v1 v8 v9 v10 v33 c25 = some r → Run Tryz.prog ⟨⟨70, [], none⟩, []⟩ 40 (sky_areArrivals_post r) [(0, sv0), (1, (.int .i64 v1)), (7, (.ptr b25 0)), (8, sv8), (9, (.int .i64 v9)), (10, (.int .i64 v10)), (33, (.bool v33))] [codeC Tryz.prog 70 [1, 1, 0, 1, 0, 0, 1, 1, 0, 0, 1, 0, 1], codeC Tryz.prog 70 [1, 1, 0, 1, 0, 0, 1, 1, 0, 0, 1, 1], .inBlock 1, codeC Tryz.prog 70 [1, 1, 0, 1, 0, 0, 1, 1, 1], loopC Tryz.prog 70 [1, 1, 0, 1, 0, 0], .inBlock 0, codeC Tryz.prog 70 [1, 1, 1]] M := by
  intro v0 v1 v8 v9 v10 v33 c25 sv0 sv8 b25 Fr M r hv0 hv8 hH h
  rw [sky_areArrivals_3] at h
  rcases btf (v33) with hc33 | hc33
  · have h := bif_t hc33 h
    refine Run.condT' rfl hc33 ?_
    refine Run.seq (Run.region ?_)
    refine Run.opG wantS_none (ex_assign rfl) rfl ?_
    refine Run.opsEnd ?_
    cases h
    exact Run.ret Tryz.func70 rfl (res_tmp rfl res_nil) rfl
  · have h := bif_f hc33 h
    refine Run.condF' rfl hc33 ?_
    refine Run.skip (Run.region ?_)
    refine Run.opG wantS_none (ex_fieldAddr rfl off67_0) rfl ?_
    refine Run.opG wantS_none (ex_load1 rfl (hH.cells (i := 0) rfl 0 rfl) rdLe_rfl agg3) rfl ?_
    refine Run.opG wantS_none (ex_assign rfl) rfl ?_
    refine Run.opsEnd (Run.inBlock (Run.region ?_))
    refine Run.opG wantS_none (ex_add rfl rfl) rfl ?_
    refine Run.opG wantS_none (ex_move rfl) rfl ?_
    refine Run.opsEnd (Run.inLoop ?_)
    exact Run.pick [0, 1, 5, 8, 9, 10] (hhd1 v0 v1 c25.Site v8 v9 (w64 (v10 + (1 : Int))) sv0 sv8 _ _ _ hv0 hv8 (hH.pick [] rfl rfl) h)

def sky_areArrivals_2 (F : Nat) (hd1 : (List S_api_Arrival) → Int → Int → (List S_api_Arrival) → Int → Int → Option (Bool)) (v0 : (List S_api_Arrival)) (v1 : Int) (v8 : (List S_api_Arrival)) (v9 v10 : Int) (v27 : Bool) (c25 : S_api_Arrival) : Option (Bool) :=
  bif v27 then
    sky_areArrivals_3 F hd1 v0 v1 v8 v9 v10 true c25
  else
    bnd (sky_isFrom F (0 : Int) c25.Slack (65536 : Int)) fun r35 =>
    sky_areArrivals_3 F hd1 v0 v1 v8 v9 v10 (!r35) c25

theorem sky_areArrivals_2_ok (F : Nat) (hd1 : (List S_api_Arrival) → Int → Int → (List S_api_Arrival) → Int → Int → Option (Bool)) (hhd1 : ∀ (v0 : (List S_api_Arrival)) (v1 v5 : Int) (v8 : (List S_api_Arrival)) (v9 v10 : Int) (sv0 sv8 : SV) (Fr : Rd) (M : Mem) (r : Bool) (hv0 : Slc Fr 3 (FlatR enc67) sv0 v0) (hv8 : Slc Fr 3 (FlatR enc67) sv8 v8) (hH : Has Fr M []), hd1 v0 v1 v5 v8 v9 v10 = some r → Run Tryz.prog ⟨⟨70, [], none⟩, []⟩ 40 (sky_areArrivals_post r) [(0, sv0), (1, (.int .i64 v1)), (5, (.int .i64 v5)), (8, sv8), (9, (.int .i64 v9)), (10, (.int .i64 v10))] [codeC Tryz.prog 70 [1, 1, 0, 1, 0, 0], loopC Tryz.prog 70 [1, 1, 0, 1, 0, 0], .inBlock 0, codeC Tryz.prog 70 [1, 1, 1]] M) : ∀ (v0 : (List S_api_Arrival)) (v1 : Int) (v8 : (List S_api_Arrival)) (v9 v10 : Int) (v27 : Bool) (c25 : S_api_Arrival) (sv0 sv8 : SV) (b25 : Pos) (Fr : Rd) (M : Mem) (r : Bool) (hv0 : Slc Fr 3 (FlatR enc67) sv0 v0) (hv8 : Slc Fr 3 (FlatR enc67) sv8 v8) (hH : Has Fr M [.obj b25 (.row 67 .whole [(.int .i64 c25.Site), (.int .i64 c25.Time), (.int .i64 c25.Slack)])]), sky_areArrivals_2 F hd1 v0 v1 v8 v9 v10 v27 c25 = some r → Run Tryz.prog ⟨⟨70, [], none⟩, []⟩ 40 (sky_areArrivals_post r) [(0, sv0), (1, (.int .i64 v1)), (7, (.ptr b25 0)), (8, sv8), (9, (.int .i64 v9)), (10, (.int .i64 v10)), (27, (.bool v27))] [itemC Tryz.prog 70 [1, 1, 0, 1, 0, 0, 1, 1, 0, 0, 1, 0, 0] 14, codeC Tryz.prog 70 [1, 1, 0, 1, 0, 0, 1, 1, 0, 0, 1, 0, 1], codeC Tryz.prog 70 [1, 1, 0, 1, 0, 0, 1, 1, 0, 0, 1, 1], .inBlock 1, codeC Tryz.prog 70 [1, 1, 0, 1, 0, 0, 1, 1, 1], loopC Tryz.prog 70 [1, 1, 0, 1, 0, 0], .inBlock 0, codeC Tryz.prog 70 [1, 1, 1]] M := by
  intro v0 v1 v8 v9 v10 v27 c25 sv0 sv8 b25 Fr M r hv0 hv8 hH h
  rw [sky_areArrivals_2] at h
  refine Run.opG wantS_none (ex_move rfl) rfl ?_
  rcases btf (v27) with hc32 | hc32
  · have h := bif_t hc32 h
    refine Run.no (wantS_not' rfl rfl hc32) rfl ?_
    refine Run.no (wantS_not' rfl rfl hc32) rfl ?_
    refine Run.no (wantS_not' rfl rfl hc32) rfl ?_
    refine Run.no (wantS_not' rfl rfl hc32) rfl ?_
    refine Run.opG wantS_none (ex_pickT' rfl hc32 rfl rfl) rfl ?_
    refine Run.opsEnd ?_
    exact Run.pick [0, 1, 7, 8, 9, 10, 33] (sky_areArrivals_3_ok F hd1 hhd1 v0 v1 v8 v9 v10 true c25 sv0 sv8 b25 _ _ _ hv0 hv8 hH h)
  · have h := bif_f hc32 h
    refine Run.opG (wantS_yes' rfl rfl hc32) (ex_fieldAddr rfl off67_2) rfl ?_
    refine Run.opG (wantS_yes' rfl rfl hc32) (ex_load1 rfl (hH.cells (i := 0) rfl 2 rfl) rdLe_rfl agg3) rfl ?_
    obtain ⟨r35, hr35, h⟩ := bnd_some h
    refine Run.callP (wantS_yes' rfl rfl hc32) (ex_call rfl mkk62 cal62) rfl (sky_isFrom_ok F (0 : Int) c25.Slack (65536 : Int) _ _ hr35) ?_
    refine Run.opG (wantS_yes' rfl rfl hc32) (ex_not rfl) rfl ?_
    refine Run.opG wantS_none (ex_pickF' rfl hc32 rfl rfl) rfl ?_
    refine Run.opsEnd ?_
    exact Run.pick [0, 1, 7, 8, 9, 10, 33] (sky_areArrivals_3_ok F hd1 hhd1 v0 v1 v8 v9 v10 (!r35) c25 sv0 sv8 b25 _ _ _ hv0 hv8 hH h)

def sky_areArrivals_1 (F : Nat) : Nat → (List S_api_Arrival) → Int → Int → (List S_api_Arrival) → Int → Int → Option (Bool)
  | 0, _, _, _, _, _, _ => none
  | N + 1, v0, v1, v5, v8, v9, v10 =>
    bif (decide (v10 < v9)) then
      bnd (idx v8 v10) fun x23 =>
      bnd (sky_isFrom F (w64 (v5 + (1 : Int))) x23.Site (w64 (v1 - (1 : Int)))) fun r29 =>
      bif (!r29) then
        sky_areArrivals_2 F (sky_areArrivals_1 F N) v0 v1 v8 v9 v10 true x23
      else
        bnd (sky_isInstant F x23.Time) fun r38 =>
        sky_areArrivals_2 F (sky_areArrivals_1 F N) v0 v1 v8 v9 v10 (!r38) x23
    else
      some (decide ((2 : Int) ≤ (v0.length : Int)))

theorem sky_areArrivals_1_ok (F : Nat) : ∀ (N : Nat), ∀ (v0 : (List S_api_Arrival)) (v1 v5 : Int) (v8 : (List S_api_Arrival)) (v9 v10 : Int) (sv0 sv8 : SV) (Fr : Rd) (M : Mem) (r : Bool) (hv0 : Slc Fr 3 (FlatR enc67) sv0 v0) (hv8 : Slc Fr 3 (FlatR enc67) sv8 v8) (hH : Has Fr M []), sky_areArrivals_1 F N v0 v1 v5 v8 v9 v10 = some r → Run Tryz.prog ⟨⟨70, [], none⟩, []⟩ 40 (sky_areArrivals_post r) [(0, sv0), (1, (.int .i64 v1)), (5, (.int .i64 v5)), (8, sv8), (9, (.int .i64 v9)), (10, (.int .i64 v10))] [codeC Tryz.prog 70 [1, 1, 0, 1, 0, 0], loopC Tryz.prog 70 [1, 1, 0, 1, 0, 0], .inBlock 0, codeC Tryz.prog 70 [1, 1, 1]] M := by
  intro N
  induction N with
  | zero =>
    intro v0 v1 v5 v8 v9 v10 sv0 sv8 Fr M r hv0 hv8 hH h
    simp [sky_areArrivals_1] at h
  | succ N ih =>
    intro v0 v1 v5 v8 v9 v10 sv0 sv8 Fr M r hv0 hv8 hH h
    rw [sky_areArrivals_1] at h
    refine Run.seq (Run.region ?_)
    refine Run.opG wantS_none (ex_lss rfl rfl) rfl ?_
    refine Run.opsEnd (Run.seq ?_)
    rcases btf ((decide (v10 < v9))) with hc21 | hc21
    · have h := bif_t hc21 h
      refine Run.condT' rfl hc21 ?_
      refine Run.skip (Run.seq (Run.block (Run.seq (Run.region ?_))))
      obtain ⟨x23, hx23, h⟩ := bnd_some h
      obtain ⟨p23, o23, _, hx23, hp23, rfl⟩ := sl_elem (P := Tryz.prog) (t := 35) (kk := .i64) hv8 hx23 els35
      refine Run.opG wantS_none (ex_elX rfl rfl hx23) rfl ?_
      refine Run.opG wantS_none (ex_loadA rfl (hH.ptrF hp23) rdLe_rfl agg67 rfl rfl rfl) rfl ?_
      refine Run.opX wantS_none rfl (ExG.new (v := fun b => .ptr b 0) (ex_alloc zer67) hH) ?_
      rintro _ M26 ⟨b25, rfl, hH26⟩
      refine Run.opX wantS_none rfl (ExG.storeC (c' := [(.int .i64 x23.Site), (.int .i64 x23.Time), (.int .i64 x23.Slack)]) rfl rfl rfl hH26 (i := 0) rfl sz67 rfl rfl rfl rfl rfl) ?_
      rintro _ M27 ⟨rfl, (hH27 : Has Fr M27 [.obj b25 (.row 67 .whole [(.int .i64 x23.Site), (.int .i64 x23.Time), (.int .i64 x23.Slack)])])⟩
      refine Run.opsEnd (Run.seq (Run.seq (Run.region ?_)))
      refine Run.opG wantS_none (ex_move rfl) rfl ?_
      refine Run.opG wantS_none (ex_add rfl rfl) rfl ?_
      refine Run.opG wantS_none (ex_fieldAddr rfl off67_0) rfl ?_
      refine Run.opG wantS_none (ex_load1 rfl (hH27.cells (i := 0) rfl 0 rfl) rdLe_rfl agg3) rfl ?_
      refine Run.opG wantS_none (ex_move rfl) rfl ?_
      refine Run.opG wantS_none (ex_sub rfl rfl) rfl ?_
      obtain ⟨r29, hr29, h⟩ := bnd_some h
      refine Run.callP wantS_none (ex_call rfl mkk62 cal62) rfl (sky_isFrom_ok F (w64 (v5 + (1 : Int))) x23.Site (w64 (v1 - (1 : Int))) _ _ hr29) ?_
      refine Run.opG wantS_none (ex_not rfl) rfl ?_
      refine Run.opG wantS_none (ex_move rfl) rfl ?_
      rcases btf ((!r29)) with hc31 | hc31
      · have h := bif_t hc31 h
        refine Run.no (wantS_not' rfl rfl hc31) rfl ?_
        refine Run.no (wantS_not' rfl rfl hc31) rfl ?_
        refine Run.no (wantS_not' rfl rfl hc31) rfl ?_
        refine Run.no (wantS_not' rfl rfl hc31) rfl ?_
        refine Run.opG wantS_none (ex_pickT' rfl hc31 rfl rfl) rfl ?_
        exact Run.pick [0, 1, 7, 8, 9, 10, 27] (sky_areArrivals_2_ok F (sky_areArrivals_1 F N) ih v0 v1 v8 v9 v10 true x23 sv0 sv8 b25 _ _ _ hv0 hv8 hH27 h)
      · have h := bif_f hc31 h
        refine Run.opG (wantS_yes' rfl rfl hc31) (ex_fieldAddr rfl off67_1) rfl ?_
        refine Run.opG (wantS_yes' rfl rfl hc31) (ex_load1 rfl (hH27.cells (i := 0) rfl 1 rfl) rdLe_rfl agg3) rfl ?_
        obtain ⟨r38, hr38, h⟩ := bnd_some h
        refine Run.callP (wantS_yes' rfl rfl hc31) (ex_call rfl mkk61 cal61) rfl (sky_isInstant_ok F x23.Time _ _ hr38) ?_
        refine Run.opG (wantS_yes' rfl rfl hc31) (ex_not rfl) rfl ?_
        refine Run.opG wantS_none (ex_pickF' rfl hc31 rfl rfl) rfl ?_
        exact Run.pick [0, 1, 7, 8, 9, 10, 27] (sky_areArrivals_2_ok F (sky_areArrivals_1 F N) ih v0 v1 v8 v9 v10 (!r38) x23 sv0 sv8 b25 _ _ _ hv0 hv8 hH27 h)
    · have h := bif_f hc21 h
      refine Run.condF' rfl hc21 ?_
      refine Run.exit rfl (Run.seq (Run.region ?_))
      refine Run.opG wantS_none (ex_move rfl) rfl ?_
      refine Run.opG wantS_none (ex_len' rfl hv0 lenk35) rfl ?_
      refine Run.opG wantS_none (ex_geq rfl rfl) rfl ?_
      refine Run.opG wantS_none (ex_assign rfl) rfl ?_
      refine Run.opsEnd ?_
      cases h
      exact Run.ret Tryz.func70 rfl (res_tmp rfl res_nil) rfl

def sky_areArrivals (F : Nat) (a0 : (List S_api_Arrival)) (a1 : Int) : Option (Bool) :=
  sky_areArrivals_1 F F a0 a1 ((-1) : Int) a0 (a0.length : Int) (0 : Int)

theorem sky_areArrivals_ok (F : Nat) (a0 : (List S_api_Arrival)) (a1 : Int) (s0 : SV) (r : Bool) (M : Mem) (hs0 : Slc (rd M) 3 (FlatR enc67) s0 a0) (h : sky_areArrivals F a0 a1 = some r) : CallsM Tryz.prog 70 [s0, (.int .i64 a1)] M (fun s M' => s = (.bool r) ∧ M' = M) := by
  refine CallsM.plain Tryz.func70 rfl rfl rfl (show Run _ _ _ (sky_areArrivals_post r) _ _ _ from ?_)
  rw [sky_areArrivals] at h
  replace hs0 := hs0.mono (rdLe_frozen M) (fun _ _ h => h)
  have hH := Has.nil (frozen M)
  refine Run.seq (Run.region ?_)
  refine Run.opG wantS_none (ex_assign rfl) rfl ?_
  refine Run.opsEnd (Run.seq (Run.region ?_))
  refine Run.opG wantS_none (ex_assign rfl) rfl ?_
  refine Run.opsEnd (Run.seq (Run.seq (Run.region ?_)))
  refine Run.opG wantS_none (ex_move rfl) rfl ?_
  refine Run.opG wantS_none (ex_len' rfl hs0 lenk35) rfl ?_
  refine Run.opG wantS_none (ex_move rfl) rfl ?_
  refine Run.opsEnd (Run.block (Run.loop ?_))
  exact Run.pick [0, 1, 5, 8, 9, 10] (sky_areArrivals_1_ok F F a0 a1 ((-1) : Int) a0 (a0.length : Int) (0 : Int) s0 s0 _ _ _ hs0 hs0 hH h)

theorem mkk70 : makeK Tryz.prog 70 = none := by kernel_rfl
theorem cal70 : callable Tryz.prog 70 = true := by kernel_rfl
theorem mkk71 : makeK Tryz.prog 71 = none := by kernel_rfl
theorem cal71 : callable Tryz.prog 71 = true := by kernel_rfl
theorem slk35 : slK Tryz.prog 35 = some (.sl 3) := by kernel_rfl
theorem noplan72_1_0_1_0_0_1_1_0_0_1_1_0_0_1_1_0_0_1_0 : planOf Tryz.prog (opsC (atC Tryz.prog 72 [1, 0, 1, 0, 0, 1, 1, 0, 0, 1, 1, 0, 0, 1, 1, 0, 0, 1, 0])) = none := by kernel_rfl
theorem purep72_1_0_1_0_0_1_1_0_0_1_1_0_0_1_1_0_0_1_0 : pureP (opsC (atC Tryz.prog 72 [1, 0, 1, 0, 0, 1, 1, 0, 0, 1, 1, 0, 0, 1, 1, 0, 0, 1, 0])) = some 15 := by kernel_rfl
abbrev sky_fit_post (r : Bool) : SV → Mem → Prop := fun s _ => s = (.bool r)

def sky_fit_2 (F : Nat) (hd1 : (List S_sky_site) → (List S_api_Arrival) → (List S_api_Arrival) → Int → Int → S__3_int → Option (Bool)) : Nat → (List S_sky_site) → (List S_api_Arrival) → (List S_api_Arrival) → Int → Int → (List S_api_Arrival) → Int → Int → S__3_int → S_api_Arrival → Option (Bool)
  | 0, _, _, _, _, _, _, _, _, _, _ => none
  | N + 1, v0, v1, v12, v13, v14, v21, v22, v23, c22, c28 =>
    bif (decide (v23 < v22)) then
      bnd (idx v21 v23) fun x35 =>
      bnd (idx v0 x35.Site) fun x40 =>
      bnd (idx v0 c28.Site) fun x42 =>
      bnd (sky_place_difference F x40.place x42.place c22) fun r44 =>
      bnd (sky_ratio_isAbout F r44 (w64 (c28.Time - x35.Time)) (w64 (x35.Slack + c28.Slack))) fun r50 =>
      bif (!r50) then
        some false
      else
        (sky_fit_2 F hd1 N) v0 v1 v12 v13 v14 v21 v22 (w64 (v23 + (1 : Int))) c22 c28
    else
      hd1 v0 v1 v12 v13 (w64 (v14 + (1 : Int))) c22

theorem sky_fit_2_ok (F : Nat) (hd1 : (List S_sky_site) → (List S_api_Arrival) → (List S_api_Arrival) → Int → Int → S__3_int → Option (Bool)) (hhd1 : ∀ (v0 : (List S_sky_site)) (v1 v12 : (List S_api_Arrival)) (v13 v14 : Int) (c22 : S__3_int) (sv0 sv1 sv12 : SV) (b22 : Pos) (Fr : Rd) (M : Mem) (r : Bool) (hv0 : Slc Fr 9 (FlatR enc99) sv0 v0) (hv1 : Slc Fr 3 (FlatR enc67) sv1 v1) (hv12 : Slc Fr 3 (FlatR enc67) sv12 v12) (hH : Has Fr M [.obj b22 (.row 85 .whole [(.int .i64 c22.e0), (.int .i64 c22.e1), (.int .i64 c22.e2)])]), hd1 v0 v1 v12 v13 v14 c22 = some r → Run Tryz.prog ⟨⟨72, [], none⟩, []⟩ 56 (sky_fit_post r) [(0, sv0), (1, sv1), (5, (.ptr b22 0)), (12, sv12), (13, (.int .i64 v13)), (14, (.int .i64 v14))] [codeC Tryz.prog 72 [1, 0, 1, 0, 0], loopC Tryz.prog 72 [1, 0, 1, 0, 0], .inBlock 0, codeC Tryz.prog 72 [1, 1]] M) : ∀ (N : Nat), ∀ (v0 : (List S_sky_site)) (v1 v12 : (List S_api_Arrival)) (v13 v14 : Int) (v21 : (List S_api_Arrival)) (v22 v23 : Int) (c22 : S__3_int) (c28 : S_api_Arrival) (sv0 sv1 sv12 sv21 : SV) (b22 b28 : Pos) (Fr : Rd) (M : Mem) (r : Bool) (hv0 : Slc Fr 9 (FlatR enc99) sv0 v0) (hv1 : Slc Fr 3 (FlatR enc67) sv1 v1) (hv12 : Slc Fr 3 (FlatR enc67) sv12 v12) (hv21 : Slc Fr 3 (FlatR enc67) sv21 v21) (hH : Has Fr M [.obj b22 (.row 85 .whole [(.int .i64 c22.e0), (.int .i64 c22.e1), (.int .i64 c22.e2)]), .obj b28 (.row 67 .whole [(.int .i64 c28.Site), (.int .i64 c28.Time), (.int .i64 c28.Slack)])]), sky_fit_2 F hd1 N v0 v1 v12 v13 v14 v21 v22 v23 c22 c28 = some r → Run Tryz.prog ⟨⟨72, [], none⟩, []⟩ 56 (sky_fit_post r) [(0, sv0), (1, sv1), (5, (.ptr b22 0)), (8, (.ptr b28 0)), (12, sv12), (13, (.int .i64 v13)), (14, (.int .i64 v14)), (21, sv21), (22, (.int .i64 v22)), (23, (.int .i64 v23))] [codeC Tryz.prog 72 [1, 0, 1, 0, 0, 1, 1, 0, 0, 1, 1, 0, 0], loopC Tryz.prog 72 [1, 0, 1, 0, 0, 1, 1, 0, 0, 1, 1, 0, 0], .inBlock 2, .inBlock 1, codeC Tryz.prog 72 [1, 0, 1, 0, 0, 1, 1, 1], loopC Tryz.prog 72 [1, 0, 1, 0, 0], .inBlock 0, codeC Tryz.prog 72 [1, 1]] M := by
  intro N
  induction N with
  | zero =>
    intro v0 v1 v12 v13 v14 v21 v22 v23 c22 c28 sv0 sv1 sv12 sv21 b22 b28 Fr M r hv0 hv1 hv12 hv21 hH h
    simp [sky_fit_2] at h
  | succ N ih =>
    intro v0 v1 v12 v13 v14 v21 v22 v23 c22 c28 sv0 sv1 sv12 sv21 b22 b28 Fr M r hv0 hv1 hv12 hv21 hH h
    rw [sky_fit_2] at h
    refine Run.seq (Run.region ?_)
    refine Run.opG wantS_none (ex_lss rfl rfl) rfl ?_
    refine Run.opsEnd (Run.seq ?_)
    rcases btf ((decide (v23 < v22))) with hc33 | hc33
    · have h := bif_t hc33 h
      refine Run.condT' rfl hc33 ?_
      refine Run.skip (Run.seq (Run.block (Run.seq (Run.region ?_))))
      obtain ⟨x35, hx35, h⟩ := bnd_some h
      obtain ⟨p35, o35, _, hx35, hp35, rfl⟩ := sl_elem (P := Tryz.prog) (t := 35) (kk := .i64) hv21 hx35 els35
      refine Run.opG wantS_none (ex_elX rfl rfl hx35) rfl ?_
      refine Run.opG wantS_none (ex_loadA rfl (hH.ptrF hp35) rdLe_rfl agg67 rfl rfl rfl) rfl ?_
      refine Run.opX wantS_none rfl (ExG.new (v := fun b => .ptr b 0) (ex_alloc zer67) hH) ?_
      rintro _ M38 ⟨b37, rfl, hH38⟩
      refine Run.opX wantS_none rfl (ExG.storeC (c' := [(.int .i64 x35.Site), (.int .i64 x35.Time), (.int .i64 x35.Slack)]) rfl rfl rfl hH38 (i := 0) rfl sz67 rfl rfl rfl rfl rfl) ?_
      rintro _ M39 ⟨rfl, (hH39 : Has Fr M39 [.obj b37 (.row 67 .whole [(.int .i64 x35.Site), (.int .i64 x35.Time), (.int .i64 x35.Slack)]), .obj b22 (.row 85 .whole [(.int .i64 c22.e0), (.int .i64 c22.e1), (.int .i64 c22.e2)]), .obj b28 (.row 67 .whole [(.int .i64 c28.Site), (.int .i64 c28.Time), (.int .i64 c28.Slack)])])⟩
      refine Run.opsEnd (Run.seq ?_)
      refine Run.pureG noplan72_1_0_1_0_0_1_1_0_0_1_1_0_0_1_1_0_0_1_0 purep72_1_0_1_0_0_1_1_0_0_1_1_0_0_1_1_0_0_1_0 rfl rfl ?_
      refine PureG.val wantS_none (ex_move rfl) rfl ?_
      refine PureG.val wantS_none (ex_fieldAddr rfl off67_0) rfl ?_
      refine PureG.val wantS_none (ex_load1 rfl (hH39.cells (i := 0) rfl 0 rfl) rdLe_rfl agg3) rfl ?_
      obtain ⟨x40, hx40, h⟩ := bnd_some h
      obtain ⟨p40, o40, _, hx40, hp40, rfl⟩ := sl_elem (P := Tryz.prog) (t := 93) (kk := .i64) hv0 hx40 els93
      refine PureG.val wantS_none (ex_elX rfl rfl hx40) rfl ?_
      have hp41 := (hp40.fld (o := 0) rfl)
      refine PureG.val wantS_none (ex_fieldAddr rfl off99_0) rfl ?_
      refine PureG.val wantS_none (ex_loadA rfl (hH39.ptrF hp41) rdLe_rfl agg97 rfl rfl rfl) rfl ?_
      refine PureG.val wantS_none (ex_move rfl) rfl ?_
      refine PureG.val wantS_none (ex_fieldAddr rfl off67_0) rfl ?_
      refine PureG.val wantS_none (ex_load1 rfl (hH39.cells (i := 2) rfl 0 rfl) rdLe_rfl agg3) rfl ?_
      obtain ⟨x42, hx42, h⟩ := bnd_some h
      obtain ⟨p42, o42, _, hx42, hp42, rfl⟩ := sl_elem (P := Tryz.prog) (t := 93) (kk := .i64) hv0 hx42 els93
      refine PureG.val wantS_none (ex_elX rfl rfl hx42) rfl ?_
      have hp43 := (hp42.fld (o := 0) rfl)
      refine PureG.val wantS_none (ex_fieldAddr rfl off99_0) rfl ?_
      refine PureG.val wantS_none (ex_loadA rfl (hH39.ptrF hp43) rdLe_rfl agg97 rfl rfl rfl) rfl ?_
      refine PureG.val wantS_none (ex_loadA rfl (hH39.cells (i := 1) rfl 0 rfl) rdLe_rfl agg85 rfl rfl rfl) rfl ?_
      obtain ⟨r44, hr44, h⟩ := bnd_some h
      refine PureG.callP wantS_none (ex_call rfl mkk65 cal65) rfl (sky_place_difference_ok F x40.place x42.place c22 _ _ hr44) ?_
      refine PureG.new (v := fun b => .ptr b 0) wantS_none (ex_alloc zer96) rfl hH39 ?_
      intro b46 M47 (hH47 : Has Fr M47 [.obj b46 (.row 96 .whole [(.int .i64 0), (.int .i64 0)]), .obj b37 (.row 67 .whole [(.int .i64 x35.Site), (.int .i64 x35.Time), (.int .i64 x35.Slack)]), .obj b22 (.row 85 .whole [(.int .i64 c22.e0), (.int .i64 c22.e1), (.int .i64 c22.e2)]), .obj b28 (.row 67 .whole [(.int .i64 c28.Site), (.int .i64 c28.Time), (.int .i64 c28.Slack)])])
      refine PureG.nil ?_
      refine SeqG.opX wantS_none rfl (ExG.storeC (c' := [(.int .i64 r44.top), (.int .i64 r44.under)]) rfl rfl rfl hH47 (i := 0) rfl sz96 rfl rfl rfl rfl rfl) ?_
      rintro _ M48 ⟨rfl, (hH48 : Has Fr M48 [.obj b46 (.row 96 .whole [(.int .i64 r44.top), (.int .i64 r44.under)]), .obj b37 (.row 67 .whole [(.int .i64 x35.Site), (.int .i64 x35.Time), (.int .i64 x35.Slack)]), .obj b22 (.row 85 .whole [(.int .i64 c22.e0), (.int .i64 c22.e1), (.int .i64 c22.e2)]), .obj b28 (.row 67 .whole [(.int .i64 c28.Site), (.int .i64 c28.Time), (.int .i64 c28.Slack)])])⟩
      refine SeqG.nil ?_
      refine Run.seq (Run.region ?_)
      refine Run.opG wantS_none (ex_loadA rfl (hH48.cells (i := 0) rfl 0 rfl) rdLe_rfl agg96 rfl rfl rfl) rfl ?_
      refine Run.opG wantS_none (ex_fieldAddr rfl off67_1) rfl ?_
      refine Run.opG wantS_none (ex_load1 rfl (hH48.cells (i := 3) rfl 1 rfl) rdLe_rfl agg3) rfl ?_
      refine Run.opG wantS_none (ex_fieldAddr rfl off67_1) rfl ?_
      refine Run.opG wantS_none (ex_load1 rfl (hH48.cells (i := 1) rfl 1 rfl) rdLe_rfl agg3) rfl ?_
      refine Run.opG wantS_none (ex_sub rfl rfl) rfl ?_
      refine Run.opG wantS_none (ex_fieldAddr rfl off67_2) rfl ?_
      refine Run.opG wantS_none (ex_load1 rfl (hH48.cells (i := 1) rfl 2 rfl) rdLe_rfl agg3) rfl ?_
      refine Run.opG wantS_none (ex_fieldAddr rfl off67_2) rfl ?_
      refine Run.opG wantS_none (ex_load1 rfl (hH48.cells (i := 3) rfl 2 rfl) rdLe_rfl agg3) rfl ?_
      refine Run.opG wantS_none (ex_add rfl rfl) rfl ?_
      obtain ⟨r50, hr50, h⟩ := bnd_some h
      refine Run.callP wantS_none (ex_call rfl mkk66 cal66) rfl (sky_ratio_isAbout_ok F r44 (w64 (c28.Time - x35.Time)) (w64 (x35.Slack + c28.Slack)) _ _ hr50) ?_
      refine Run.opG wantS_none (ex_not rfl) rfl ?_
      refine Run.opsEnd ?_
      rcases btf ((!r50)) with hc52 | hc52
      · have h := bif_t hc52 h
        refine Run.condT' rfl hc52 ?_
        refine Run.seq (Run.region ?_)
        refine Run.opG wantS_none (ex_assign rfl) rfl ?_
        refine Run.opsEnd ?_
        cases h
        exact Run.ret Tryz.func72 rfl (res_tmp rfl res_nil) rfl
      · have h := bif_f hc52 h
        refine Run.condF' rfl hc52 ?_
        refine Run.skip (Run.inBlock (Run.region ?_))
        refine Run.opG wantS_none (ex_add rfl rfl) rfl ?_
        refine Run.opG wantS_none (ex_move rfl) rfl ?_
        refine Run.opsEnd (Run.inLoop ?_)
        exact Run.pick [0, 1, 5, 8, 12, 13, 14, 21, 22, 23] (ih v0 v1 v12 v13 v14 v21 v22 (w64 (v23 + (1 : Int))) c22 c28 sv0 sv1 sv12 sv21 b22 b28 _ _ _ hv0 hv1 hv12 hv21 (hH48.pick [2, 3] rfl rfl) h)
    · have h := bif_f hc33 h
      refine Run.condF' rfl hc33 ?_
      refine Run.exit rfl (Run.inBlock (Run.region ?_))
      refine Run.opG wantS_none (ex_add rfl rfl) rfl ?_
      refine Run.opG wantS_none (ex_move rfl) rfl ?_
      refine Run.opsEnd (Run.inLoop ?_)
      exact Run.pick [0, 1, 5, 12, 13, 14] (hhd1 v0 v1 v12 v13 (w64 (v14 + (1 : Int))) c22 sv0 sv1 sv12 b22 _ _ _ hv0 hv1 hv12 (hH.pick [0] rfl rfl) h)

def sky_fit_1 (F : Nat) : Nat → (List S_sky_site) → (List S_api_Arrival) → (List S_api_Arrival) → Int → Int → S__3_int → Option (Bool)
  | 0, _, _, _, _, _, _ => none
  | N + 1, v0, v1, v12, v13, v14, c22 =>
    bif (decide (v14 < v13)) then
      bnd (idx v12 v14) fun x26 =>
      bnd (sub v1 0 v14) fun l32 =>
      sky_fit_2 F (sky_fit_1 F N) F v0 v1 v12 v13 v14 l32 (l32.length : Int) (0 : Int) c22 x26
    else
      some true

theorem sky_fit_1_ok (F : Nat) : ∀ (N : Nat), ∀ (v0 : (List S_sky_site)) (v1 v12 : (List S_api_Arrival)) (v13 v14 : Int) (c22 : S__3_int) (sv0 sv1 sv12 : SV) (b22 : Pos) (Fr : Rd) (M : Mem) (r : Bool) (hv0 : Slc Fr 9 (FlatR enc99) sv0 v0) (hv1 : Slc Fr 3 (FlatR enc67) sv1 v1) (hv12 : Slc Fr 3 (FlatR enc67) sv12 v12) (hH : Has Fr M [.obj b22 (.row 85 .whole [(.int .i64 c22.e0), (.int .i64 c22.e1), (.int .i64 c22.e2)])]), sky_fit_1 F N v0 v1 v12 v13 v14 c22 = some r → Run Tryz.prog ⟨⟨72, [], none⟩, []⟩ 56 (sky_fit_post r) [(0, sv0), (1, sv1), (5, (.ptr b22 0)), (12, sv12), (13, (.int .i64 v13)), (14, (.int .i64 v14))] [codeC Tryz.prog 72 [1, 0, 1, 0, 0], loopC Tryz.prog 72 [1, 0, 1, 0, 0], .inBlock 0, codeC Tryz.prog 72 [1, 1]] M := by
  intro N
  induction N with
  | zero =>
    intro v0 v1 v12 v13 v14 c22 sv0 sv1 sv12 b22 Fr M r hv0 hv1 hv12 hH h
    simp [sky_fit_1] at h
  | succ N ih =>
    intro v0 v1 v12 v13 v14 c22 sv0 sv1 sv12 b22 Fr M r hv0 hv1 hv12 hH h
    rw [sky_fit_1] at h
    refine Run.seq (Run.region ?_)
    refine Run.opG wantS_none (ex_lss rfl rfl) rfl ?_
    refine Run.opsEnd (Run.seq ?_)
    rcases btf ((decide (v14 < v13))) with hc24 | hc24
    · have h := bif_t hc24 h
      refine Run.condT' rfl hc24 ?_
      refine Run.skip (Run.seq (Run.block (Run.seq (Run.region ?_))))
      refine Run.opG wantS_none (ex_move rfl) rfl ?_
      obtain ⟨x26, hx26, h⟩ := bnd_some h
      obtain ⟨p26, o26, _, hx26, hp26, rfl⟩ := sl_elem (P := Tryz.prog) (t := 35) (kk := .i64) hv12 hx26 els35
      refine Run.opG wantS_none (ex_elX rfl rfl hx26) rfl ?_
      refine Run.opG wantS_none (ex_loadA rfl (hH.ptrF hp26) rdLe_rfl agg67 rfl rfl rfl) rfl ?_
      refine Run.opX wantS_none rfl (ExG.new (v := fun b => .ptr b 0) (ex_alloc zer67) hH) ?_
      rintro _ M29 ⟨b28, rfl, hH29⟩
      refine Run.opG wantS_none (ex_assign rfl) rfl ?_
      refine Run.opX wantS_none rfl (ExG.storeC (c' := [(.int .i64 x26.Site), (.int .i64 x26.Time), (.int .i64 x26.Slack)]) rfl rfl rfl hH29 (i := 0) rfl sz67 rfl rfl rfl rfl rfl) ?_
      rintro _ M30 ⟨rfl, (hH30 : Has Fr M30 [.obj b28 (.row 67 .whole [(.int .i64 x26.Site), (.int .i64 x26.Time), (.int .i64 x26.Slack)]), .obj b22 (.row 85 .whole [(.int .i64 c22.e0), (.int .i64 c22.e1), (.int .i64 c22.e2)])])⟩
      refine Run.opsEnd (Run.seq (Run.region ?_))
      refine Run.opG wantS_none (ex_move rfl) rfl ?_
      refine Run.opG wantS_none (ex_move rfl) rfl ?_
      obtain ⟨l32, hl32, h⟩ := bnd_some h
      obtain ⟨s32, hx32, hs32⟩ := sl_subH (P := Tryz.prog) (t := 35) (k0 := .i64) hv1 hl32 slk35
      refine Run.opG wantS_none (ex_slX rfl (argO_none) (argO_some rfl) hx32) rfl ?_
      refine Run.opG wantS_none (ex_len' rfl hs32 lenk35) rfl ?_
      refine Run.opG wantS_none (ex_move rfl) rfl ?_
      refine Run.opsEnd (Run.block (Run.loop ?_))
      exact Run.pick [0, 1, 5, 8, 12, 13, 14, 21, 22, 23] (sky_fit_2_ok F (sky_fit_1 F N) ih F v0 v1 v12 v13 v14 l32 (l32.length : Int) (0 : Int) c22 x26 sv0 sv1 sv12 s32 b22 b28 _ _ _ hv0 hv1 hv12 hs32 (hH30.pick [1, 0] rfl rfl) h)
    · have h := bif_f hc24 h
      refine Run.condF' rfl hc24 ?_
      refine Run.exit rfl (Run.seq (Run.region ?_))
      refine Run.opG wantS_none (ex_assign rfl) rfl ?_
      refine Run.opsEnd ?_
      cases h
      exact Run.ret Tryz.func72 rfl (res_tmp rfl res_nil) rfl

def sky_fit (F : Nat) (a0 : (List S_sky_site)) (a1 : (List S_api_Arrival)) (a2 : S__3_int) : Option (Bool) :=
  sky_fit_1 F F a0 a1 a1 (a1.length : Int) (0 : Int) a2

theorem sky_fit_ok (F : Nat) (a0 : (List S_sky_site)) (a1 : (List S_api_Arrival)) (a2 : S__3_int) (s0 s1 : SV) (r : Bool) (M : Mem) (hs0 : Slc (rd M) 9 (FlatR enc99) s0 a0) (hs1 : Slc (rd M) 3 (FlatR enc67) s1 a1) (h : sky_fit F a0 a1 a2 = some r) : CallsM Tryz.prog 72 [s0, s1, (.agg [(.int .i64 a2.e0), (.int .i64 a2.e1), (.int .i64 a2.e2)])] M (fun s M' => s = (.bool r) ∧ M' = M) := by
  refine CallsM.plain Tryz.func72 rfl rfl rfl (show Run _ _ _ (sky_fit_post r) _ _ _ from ?_)
  rw [sky_fit] at h
  replace hs0 := hs0.mono (rdLe_frozen M) (fun _ _ h => h)
  replace hs1 := hs1.mono (rdLe_frozen M) (fun _ _ h => h)
  have hH := Has.nil (frozen M)
  refine Run.seq (Run.region ?_)
  refine Run.opX wantS_none rfl (ExG.box rfl rfl hH) ?_
  rintro _ M23 ⟨b22, rfl, hH23⟩
  refine Run.opG wantS_none (ex_assign rfl) rfl ?_
  refine Run.opsEnd (Run.seq (Run.seq (Run.region ?_)))
  refine Run.opG wantS_none (ex_move rfl) rfl ?_
  refine Run.opG wantS_none (ex_len' rfl hs1 lenk35) rfl ?_
  refine Run.opG wantS_none (ex_move rfl) rfl ?_
  refine Run.opsEnd (Run.block (Run.loop ?_))
  exact Run.pick [0, 1, 5, 12, 13, 14] (sky_fit_1_ok F F a0 a1 a1 (a1.length : Int) (0 : Int) a2 s0 s1 s1 b22 _ _ _ hs0 hs1 hs1 hH23 h)

theorem mkk72 : makeK Tryz.prog 72 = none := by kernel_rfl
theorem cal72 : callable Tryz.prog 72 = true := by kernel_rfl
abbrev sky_Fits_post (r : (List Int) × Int) : SV → Mem → Prop := fun s Me => ∃ q1, s = (.tuple [q1, (.int .i64 r.2)]) ∧ Has (fun _ => none) Me [.vec 3 1 r.1.length q1 (r.1.flatMap enc3)]

def sky_Fits_1 (F : Nat) : Nat → Int → Int → (List S_api_Arrival) → Int → (List S_sky_site) → (List Int) → Option ((List Int) × Int)
  | 0, _, _, _, _, _, _ => none
  | N + 1, v5, v6, c22_0, c52_0, l39, l59 =>
    bif (decide (v6 < v5)) then
      bnd (sky_grid_direction F c52_0 v6) fun r63 =>
      bnd (sky_fit F l39 c22_0 r63) fun r74 =>
      bif r74 then
        bnd (apd 8 l59 ([v6] : List Int)) fun l82 =>
        (sky_Fits_1 F N) v5 (w64 (v6 + (1 : Int))) c22_0 c52_0 l39 l82
      else
        (sky_Fits_1 F N) v5 (w64 (v6 + (1 : Int))) c22_0 c52_0 l39 l59
    else
      some (l59, (0 : Int))

theorem sky_Fits_1_ok (F : Nat) : ∀ (N : Nat), ∀ (v5 v6 : Int) (c22_0 : (List S_api_Arrival)) (c52_0 : Int) (l39 : (List S_sky_site)) (l59 : (List Int)) (sc22_0 : SV) (b54 b46 b42 : Pos) (s39 : SV) (b22 b49 : Pos) (s59 : SV) (b52 b55 : Pos) (Fr : Rd) (M : Mem) (r : (List Int) × Int) (hc22_0 : Slc Fr 3 (FlatR enc67) sc22_0 c22_0) (hH : Has Fr M [.obj b54 (.loop ⟨.ready, none, 67, 20, treeOf [(3, (.ptr b46 0)), (4, .nils), (5, (.ptr b49 0)), (9, (.fn (.func 156) [] [(.ptr b52 0)]))], [10, 11], (atC Tryz.prog 67 [1, 1, 0, 1, 0, 0]), (atC Tryz.prog 67 [1, 1, 0, 1, 0, 1]), b55⟩), .obj b46 (.row 89 .whole [(.fn (.func 71) [] [(.ptr b42 0), (.ptr b22 0)])]), .obj b42 (.row 93 .whole [s39]), .vec 99 9 l39.length s39 (l39.flatMap enc99), .obj b22 (.row 35 .whole [sc22_0]), .obj b49 (.row 36 .whole [s59]), .vec 3 1 l59.length s59 (l59.flatMap enc3), .obj b52 (.row 81 .whole [(.int .i64 c52_0)]), .obj b55 .defd]), sky_Fits_1 F N v5 v6 c22_0 c52_0 l39 l59 = some r → Run Tryz.prog ⟨⟨156, [], none⟩, [.mk ⟨67, [b55], none⟩ 20 (treeOf [(5, (.ptr b49 0))]) [.inRange b54, .inBlock 0, codeC Tryz.prog 67 [1, 1, 1]], .mk ⟨22, [], none⟩ 28 (treeOf []) [itemC Tryz.prog 22 [1, 1, 1, 0] 2, codeC Tryz.prog 22 [1, 1, 1, 1]]]⟩ 17 (sky_Fits_post r) [(0, (.yield b54)), (1, (.ptr b52 0)), (5, (.int .i64 v5)), (6, (.int .i64 v6))] [codeC Tryz.prog 156 [1, 0, 0], loopC Tryz.prog 156 [1, 0, 0], .inBlock 0] M := by
  intro N
  induction N with
  | zero =>
    intro v5 v6 c22_0 c52_0 l39 l59 sc22_0 b54 b46 b42 s39 b22 b49 s59 b52 b55 Fr M r hc22_0 hH h
    simp [sky_Fits_1] at h
  | succ N ih =>
    intro v5 v6 c22_0 c52_0 l39 l59 sc22_0 b54 b46 b42 s39 b22 b49 s59 b52 b55 Fr M r hc22_0 hH h
    rw [sky_Fits_1] at h
    refine Run.seq (Run.region ?_)
    refine Run.opG wantS_none (ex_lss rfl rfl) rfl ?_
    refine Run.opsEnd (Run.seq ?_)
    rcases btf ((decide (v6 < v5))) with hc61 | hc61
    · have h := bif_t hc61 h
      refine Run.condT' rfl hc61 ?_
      refine Run.skip (Run.seq (Run.block (Run.seq (Run.region ?_))))
      refine Run.opG wantS_none (ex_move rfl) rfl ?_
      refine Run.opG wantS_none (ex_assign rfl) rfl ?_
      refine Run.opsEnd (Run.seq (Run.region ?_))
      refine Run.opG wantS_none (ex_move rfl) rfl ?_
      refine Run.opG wantS_none (ex_move rfl) rfl ?_
      refine Run.opG wantS_none (ex_load1 rfl (hH.cells (i := 7) rfl 0 rfl) rdLe_rfl agg81) rfl ?_
      refine Run.opG wantS_none (ex_move rfl) rfl ?_
      obtain ⟨r63, hr63, h⟩ := bnd_some h
      refine Run.callP wantS_none (ex_call rfl mkk52 cal52) rfl (sky_grid_direction_ok F c52_0 v6 _ _ hr63) ?_
      refine Run.round (e' := [(11, (.agg [(.int .i64 r63.e0), (.int .i64 r63.e1), (.int .i64 r63.e2)])), (10, (.int .i64 v6)), (3, (.ptr b46 0)), (4, .nils), (5, (.ptr b49 0)), (9, (.fn (.func 156) [] [(.ptr b52 0)]))]) wantS_none (ex_yield hH (i := 0) rfl rfl rfl rfl) (hH.loopOf (i := 0) rfl) rfl ?_
      refine Run.seq (Run.region ?_)
      refine Run.opG wantS_none (ex_assign rfl) rfl ?_
      refine Run.opsEnd (Run.region ?_)
      refine Run.opX wantS_none rfl (ExG.new (v := fun b => .ptr b 0) (ex_alloc zer85) hH) ?_
      rintro _ M67 ⟨b66, rfl, hH67⟩
      refine Run.opX wantS_none rfl (ExG.storeC (c' := [(.int .i64 r63.e0), (.int .i64 r63.e1), (.int .i64 r63.e2)]) rfl rfl rfl hH67 (i := 0) rfl sz85 rfl rfl rfl rfl rfl) ?_
      rintro _ M68 ⟨rfl, (hH68 : Has Fr M68 [.obj b66 (.row 85 .whole [(.int .i64 r63.e0), (.int .i64 r63.e1), (.int .i64 r63.e2)]), .obj b54 (.loop ⟨.ready, none, 67, 20, treeOf [(3, (.ptr b46 0)), (4, .nils), (5, (.ptr b49 0)), (9, (.fn (.func 156) [] [(.ptr b52 0)]))], [10, 11], (atC Tryz.prog 67 [1, 1, 0, 1, 0, 0]), (atC Tryz.prog 67 [1, 1, 0, 1, 0, 1]), b55⟩), .obj b46 (.row 89 .whole [(.fn (.func 71) [] [(.ptr b42 0), (.ptr b22 0)])]), .obj b42 (.row 93 .whole [s39]), .vec 99 9 l39.length s39 (l39.flatMap enc99), .obj b22 (.row 35 .whole [sc22_0]), .obj b49 (.row 36 .whole [s59]), .vec 3 1 l59.length s59 (l59.flatMap enc3), .obj b52 (.row 81 .whole [(.int .i64 c52_0)]), .obj b55 .defd])⟩
      refine Run.opsEnd ?_
      refine Run.beginX hH68 (i := 1) rfl rfl ?_
      intro M69 (hH69 : Has Fr M69 [.obj b66 (.row 85 .whole [(.int .i64 r63.e0), (.int .i64 r63.e1), (.int .i64 r63.e2)]), .obj b54 (.loop ⟨.busy, none, 67, 20, treeOf [(3, (.ptr b46 0)), (4, .nils), (5, (.ptr b49 0)), (9, (.fn (.func 156) [] [(.ptr b52 0)]))], [10, 11], (atC Tryz.prog 67 [1, 1, 0, 1, 0, 0]), (atC Tryz.prog 67 [1, 1, 0, 1, 0, 1]), b55⟩), .obj b46 (.row 89 .whole [(.fn (.func 71) [] [(.ptr b42 0), (.ptr b22 0)])]), .obj b42 (.row 93 .whole [s39]), .vec 99 9 l39.length s39 (l39.flatMap enc99), .obj b22 (.row 35 .whole [sc22_0]), .obj b49 (.row 36 .whole [s59]), .vec 3 1 l59.length s59 (l59.flatMap enc3), .obj b52 (.row 81 .whole [(.int .i64 c52_0)]), .obj b55 .defd])
      refine Run.block (Run.seq (Run.region ?_))
      refine Run.opG wantS_none (ex_load1 rfl (hH69.cells (i := 2) rfl 0 rfl) rdLe_rfl agg89) rfl ?_
      refine Run.opG wantS_none (ex_loadA rfl (hH69.cells (i := 0) rfl 0 rfl) rdLe_rfl agg85 rfl rfl rfl) rfl ?_
      refine Run.enter wantS_none (ex_closure rfl rfl mkk71 cal71) Tryz.func71 rfl rfl ?_
      refine Run.seq (Run.region ?_)
      refine Run.opX wantS_none rfl (ExG.box rfl rfl hH69) ?_
      rintro _ M72 ⟨b71, rfl, hH72⟩
      refine Run.opG wantS_none (ex_assign rfl) rfl ?_
      refine Run.opsEnd (Run.seq (Run.region ?_))
      refine Run.opG wantS_none (ex_load1 rfl (hH72.cells (i := 4) rfl 0 rfl) rdLe_rfl agg93) rfl ?_
      refine Run.opG wantS_none (ex_load1 rfl (hH72.cells (i := 6) rfl 0 rfl) rdLe_rfl agg35) rfl ?_
      refine Run.opG wantS_none (ex_loadA rfl (hH72.cells (i := 0) rfl 0 rfl) rdLe_rfl agg85 rfl rfl rfl) rfl ?_
      obtain ⟨r74, hr74, h⟩ := bnd_some h
      refine Run.callP wantS_none (ex_call rfl mkk72 cal72) rfl (sky_fit_ok F l39 c22_0 r63 s39 sc22_0 _ _ (hH72.slc (i := 5) rfl enc99_len) (hH72.slcF hc22_0) hr74) ?_
      refine Run.opG wantS_none (ex_assign rfl) rfl ?_
      refine Run.opsEnd ?_
      refine Run.retTo Tryz.func71 rfl (res_tmp rfl res_nil) rfl ?_
      refine Run.opsEnd ?_
      rcases btf (r74) with hc76 | hc76
      · have h := bif_t hc76 h
        refine Run.condT' rfl hc76 ?_
        refine Run.region ?_
        refine Run.opG wantS_none (ex_load1 rfl (hH72.cells (i := 7) rfl 0 rfl) rdLe_rfl agg36) rfl ?_
        refine Run.opG wantS_none (ex_move rfl) rfl ?_
        refine Run.opX wantS_none rfl (ExG.built (enc := enc3) (l := ([v6] : List Int)) (z := 1) rfl elt36 rfl rfl rfl enc3_len hH72) ?_
        rintro s78 M79 (hH79 : Has Fr M79 [.vec 3 1 ([v6] : List Int).length s78 (([v6] : List Int).flatMap enc3), .obj b71 (.row 85 .whole [(.int .i64 r63.e0), (.int .i64 r63.e1), (.int .i64 r63.e2)]), .obj b66 (.row 85 .whole [(.int .i64 r63.e0), (.int .i64 r63.e1), (.int .i64 r63.e2)]), .obj b54 (.loop ⟨.busy, none, 67, 20, treeOf [(3, (.ptr b46 0)), (4, .nils), (5, (.ptr b49 0)), (9, (.fn (.func 156) [] [(.ptr b52 0)]))], [10, 11], (atC Tryz.prog 67 [1, 1, 0, 1, 0, 0]), (atC Tryz.prog 67 [1, 1, 0, 1, 0, 1]), b55⟩), .obj b46 (.row 89 .whole [(.fn (.func 71) [] [(.ptr b42 0), (.ptr b22 0)])]), .obj b42 (.row 93 .whole [s39]), .vec 99 9 l39.length s39 (l39.flatMap enc99), .obj b22 (.row 35 .whole [sc22_0]), .obj b49 (.row 36 .whole [s59]), .vec 3 1 l59.length s59 (l59.flatMap enc3), .obj b52 (.row 81 .whole [(.int .i64 c52_0)]), .obj b55 .defd])
        obtain ⟨l82, hl82, h⟩ := bnd_some h
        refine Run.opX wantS_none rfl (ExG.append rfl rfl hH79 (i := 9) rfl enc3_len rfl enc3_ones appt36_36 rfl (len_slc (hH79.slc (i := 0) rfl enc3_len)) (first_slc (hH79.slc (i := 0) rfl enc3_len) (rdLe_rdRow _) enc3_len) hl82) ?_
        rintro s82 M84 (hH84 : Has Fr M84 [.vec 3 1 ([v6] : List Int).length s78 (([v6] : List Int).flatMap enc3), .obj b71 (.row 85 .whole [(.int .i64 r63.e0), (.int .i64 r63.e1), (.int .i64 r63.e2)]), .obj b66 (.row 85 .whole [(.int .i64 r63.e0), (.int .i64 r63.e1), (.int .i64 r63.e2)]), .obj b54 (.loop ⟨.busy, none, 67, 20, treeOf [(3, (.ptr b46 0)), (4, .nils), (5, (.ptr b49 0)), (9, (.fn (.func 156) [] [(.ptr b52 0)]))], [10, 11], (atC Tryz.prog 67 [1, 1, 0, 1, 0, 0]), (atC Tryz.prog 67 [1, 1, 0, 1, 0, 1]), b55⟩), .obj b46 (.row 89 .whole [(.fn (.func 71) [] [(.ptr b42 0), (.ptr b22 0)])]), .obj b42 (.row 93 .whole [s39]), .vec 99 9 l39.length s39 (l39.flatMap enc99), .obj b22 (.row 35 .whole [sc22_0]), .obj b49 (.row 36 .whole [s59]), .vec 3 1 l82.length s82 (l82.flatMap enc3), .obj b52 (.row 81 .whole [(.int .i64 c52_0)]), .obj b55 .defd])
        refine Run.opX wantS_none rfl (ExG.storeC (c' := [s82]) rfl rfl (cells_one (vec_one hH84 (i := 9) rfl)) hH84 (i := 8) rfl sz36 rfl rfl rfl (ones_cons (vec_one hH84 (i := 9) rfl) ones_nil) rfl) ?_
        rintro _ M85 ⟨rfl, (hH85 : Has Fr M85 [.vec 3 1 ([v6] : List Int).length s78 (([v6] : List Int).flatMap enc3), .obj b71 (.row 85 .whole [(.int .i64 r63.e0), (.int .i64 r63.e1), (.int .i64 r63.e2)]), .obj b66 (.row 85 .whole [(.int .i64 r63.e0), (.int .i64 r63.e1), (.int .i64 r63.e2)]), .obj b54 (.loop ⟨.busy, none, 67, 20, treeOf [(3, (.ptr b46 0)), (4, .nils), (5, (.ptr b49 0)), (9, (.fn (.func 156) [] [(.ptr b52 0)]))], [10, 11], (atC Tryz.prog 67 [1, 1, 0, 1, 0, 0]), (atC Tryz.prog 67 [1, 1, 0, 1, 0, 1]), b55⟩), .obj b46 (.row 89 .whole [(.fn (.func 71) [] [(.ptr b42 0), (.ptr b22 0)])]), .obj b42 (.row 93 .whole [s39]), .vec 99 9 l39.length s39 (l39.flatMap enc99), .obj b22 (.row 35 .whole [sc22_0]), .obj b49 (.row 36 .whole [s82]), .vec 3 1 l82.length s82 (l82.flatMap enc3), .obj b52 (.row 81 .whole [(.int .i64 c52_0)]), .obj b55 .defd])⟩
        refine Run.opsEnd (Run.inBlock ?_)
        refine Run.roundEndX hH85 (i := 3) rfl rfl ?_
        intro M86 (hH86 : Has Fr M86 [.vec 3 1 ([v6] : List Int).length s78 (([v6] : List Int).flatMap enc3), .obj b71 (.row 85 .whole [(.int .i64 r63.e0), (.int .i64 r63.e1), (.int .i64 r63.e2)]), .obj b66 (.row 85 .whole [(.int .i64 r63.e0), (.int .i64 r63.e1), (.int .i64 r63.e2)]), .obj b54 (.loop ⟨.ready, none, 67, 20, treeOf [(3, (.ptr b46 0)), (4, .nils), (5, (.ptr b49 0)), (9, (.fn (.func 156) [] [(.ptr b52 0)]))], [10, 11], (atC Tryz.prog 67 [1, 1, 0, 1, 0, 0]), (atC Tryz.prog 67 [1, 1, 0, 1, 0, 1]), b55⟩), .obj b46 (.row 89 .whole [(.fn (.func 71) [] [(.ptr b42 0), (.ptr b22 0)])]), .obj b42 (.row 93 .whole [s39]), .vec 99 9 l39.length s39 (l39.flatMap enc99), .obj b22 (.row 35 .whole [sc22_0]), .obj b49 (.row 36 .whole [s82]), .vec 3 1 l82.length s82 (l82.flatMap enc3), .obj b52 (.row 81 .whole [(.int .i64 c52_0)]), .obj b55 .defd])
        refine Run.opG wantS_none (ex_not rfl) rfl ?_
        refine Run.opsEnd ?_
        refine Run.condF' rfl (bnot_f rfl) ?_
        refine Run.skip (Run.inBlock (Run.region ?_))
        refine Run.opG wantS_none (ex_add rfl rfl) rfl ?_
        refine Run.opG wantS_none (ex_move rfl) rfl ?_
        refine Run.opsEnd (Run.inLoop ?_)
        exact Run.low (.cons (fle_pick [5] rfl) (.cons (fle_pick [] rfl) .nil)) (Run.pick [0, 1, 5, 6] (ih v5 (w64 (v6 + (1 : Int))) c22_0 c52_0 l39 l82 sc22_0 b54 b46 b42 s39 b22 b49 s82 b52 b55 _ _ _ hc22_0 (hH86.pick [3, 4, 5, 6, 7, 8, 9, 10, 11] rfl rfl) h))
      · have h := bif_f hc76 h
        refine Run.condF' rfl hc76 ?_
        refine Run.skip (Run.inBlock ?_)
        refine Run.roundEndX hH72 (i := 2) rfl rfl ?_
        intro M87 (hH87 : Has Fr M87 [.obj b71 (.row 85 .whole [(.int .i64 r63.e0), (.int .i64 r63.e1), (.int .i64 r63.e2)]), .obj b66 (.row 85 .whole [(.int .i64 r63.e0), (.int .i64 r63.e1), (.int .i64 r63.e2)]), .obj b54 (.loop ⟨.ready, none, 67, 20, treeOf [(3, (.ptr b46 0)), (4, .nils), (5, (.ptr b49 0)), (9, (.fn (.func 156) [] [(.ptr b52 0)]))], [10, 11], (atC Tryz.prog 67 [1, 1, 0, 1, 0, 0]), (atC Tryz.prog 67 [1, 1, 0, 1, 0, 1]), b55⟩), .obj b46 (.row 89 .whole [(.fn (.func 71) [] [(.ptr b42 0), (.ptr b22 0)])]), .obj b42 (.row 93 .whole [s39]), .vec 99 9 l39.length s39 (l39.flatMap enc99), .obj b22 (.row 35 .whole [sc22_0]), .obj b49 (.row 36 .whole [s59]), .vec 3 1 l59.length s59 (l59.flatMap enc3), .obj b52 (.row 81 .whole [(.int .i64 c52_0)]), .obj b55 .defd])
        refine Run.opG wantS_none (ex_not rfl) rfl ?_
        refine Run.opsEnd ?_
        refine Run.condF' rfl (bnot_f rfl) ?_
        refine Run.skip (Run.inBlock (Run.region ?_))
        refine Run.opG wantS_none (ex_add rfl rfl) rfl ?_
        refine Run.opG wantS_none (ex_move rfl) rfl ?_
        refine Run.opsEnd (Run.inLoop ?_)
        exact Run.low (.cons (fle_pick [5] rfl) (.cons (fle_pick [] rfl) .nil)) (Run.pick [0, 1, 5, 6] (ih v5 (w64 (v6 + (1 : Int))) c22_0 c52_0 l39 l59 sc22_0 b54 b46 b42 s39 b22 b49 s59 b52 b55 _ _ _ hc22_0 (hH87.pick [2, 3, 4, 5, 6, 7, 8, 9, 10] rfl rfl) h))
    · have h := bif_f hc61 h
      refine Run.condF' rfl hc61 ?_
      refine Run.exit rfl ?_
      refine Run.fallRange Tryz.func156 rfl res_nil ?_
      refine Run.endX hH (i := 0) rfl (fun hc => by cases hc) ?_
      intro M88 (hH88 : Has Fr M88 [.obj b54 (.loop ⟨.exhausted, none, 67, 20, treeOf [(3, (.ptr b46 0)), (4, .nils), (5, (.ptr b49 0)), (9, (.fn (.func 156) [] [(.ptr b52 0)]))], [10, 11], (atC Tryz.prog 67 [1, 1, 0, 1, 0, 0]), (atC Tryz.prog 67 [1, 1, 0, 1, 0, 1]), b55⟩), .obj b46 (.row 89 .whole [(.fn (.func 71) [] [(.ptr b42 0), (.ptr b22 0)])]), .obj b42 (.row 93 .whole [s39]), .vec 99 9 l39.length s39 (l39.flatMap enc99), .obj b22 (.row 35 .whole [sc22_0]), .obj b49 (.row 36 .whole [s59]), .vec 3 1 l59.length s59 (l59.flatMap enc3), .obj b52 (.row 81 .whole [(.int .i64 c52_0)]), .obj b55 .defd])
      refine Run.inBlock (Run.seq (Run.region ?_))
      refine Run.opG wantS_none (ex_load1 rfl (hH88.cells (i := 5) rfl 0 rfl) rdLe_rfl agg36) rfl ?_
      refine Run.opG wantS_none (ex_assign rfl) rfl ?_
      refine Run.opsEnd ?_
      obtain ⟨hH89x, hS89⟩ := hH88.shut (i := 8) (ds := []) rfl
      have hH89 : Has Fr (setT M88 b55 none) [.obj b54 (.loop ⟨.exhausted, none, 67, 20, treeOf [(3, (.ptr b46 0)), (4, .nils), (5, (.ptr b49 0)), (9, (.fn (.func 156) [] [(.ptr b52 0)]))], [10, 11], (atC Tryz.prog 67 [1, 1, 0, 1, 0, 0]), (atC Tryz.prog 67 [1, 1, 0, 1, 0, 1]), b55⟩), .obj b46 (.row 89 .whole [(.fn (.func 71) [] [(.ptr b42 0), (.ptr b22 0)])]), .obj b42 (.row 93 .whole [s39]), .vec 99 9 l39.length s39 (l39.flatMap enc99), .obj b22 (.row 35 .whole [sc22_0]), .obj b49 (.row 36 .whole [s59]), .vec 3 1 l59.length s59 (l59.flatMap enc3), .obj b52 (.row 81 .whole [(.int .i64 c52_0)]), .vec 0 0 0 .nils []] := hH89x
      refine Run.retTo Tryz.func67 (hS89 _ rfl) (res_tmp rfl res_nil) rfl ?_
      refine Run.opG wantS_none (ex_assign rfl) rfl ?_
      refine Run.opG wantS_none (ex_assign rfl) rfl ?_
      refine Run.opsEnd ?_
      cases h
      exact Run.ret Tryz.func22 rfl (res_tmp rfl (res_tmp rfl res_nil)) ⟨_, rfl, (hH89.pick [6] rfl rfl).upF (none_le _)⟩

def sky_Fits (F : Nat) (a0 : (List S_api_Site)) (a1 : Int) (a2 : (List S_api_Arrival)) : Option ((List Int) × Int) :=
  bnd (sky_checkNetGrid F a0 a1) fun r25 =>
  bif (!(r25 == (0 : Int))) then
    some (([] : List Int), r25)
  else
    bnd (sky_areArrivals F a2 (a0.length : Int)) fun r31 =>
    bif (!r31) then
      some (([] : List Int), (92 : Int))
    else
      bnd (sky_sitesOf F a0) fun r38 =>
      bnd (sky_grid_cells F a1) fun r57 =>
      sky_Fits_1 F F r57 (0 : Int) a2 a1 r38 ([] : List Int)

theorem sky_Fits_ok (F : Nat) (a0 : (List S_api_Site)) (a1 : Int) (a2 : (List S_api_Arrival)) (s0 s1 : SV) (r : (List Int) × Int) (M : Mem) (hs0 : Slc (rd M) 10 (FlatR enc105) s0 a0) (hs1 : Slc (rd M) 3 (FlatR enc67) s1 a2) (h : sky_Fits F a0 a1 a2 = some r) : CallsM Tryz.prog 22 [s0, (.int .i64 a1), s1] M (fun s M' => ∃ q1, s = (.tuple [q1, (.int .i64 r.2)]) ∧ New M M' [.vec 3 1 r.1.length q1 (r.1.flatMap enc3)]) := by
  refine CallsM.fresh (Q := sky_Fits_post r) Tryz.func22 rfl rfl ?_ (by rintro s Me ⟨q1, rfl, hx⟩ ha hw; exact ⟨_, rfl, New.of rfl hx ha hw⟩)
  rw [sky_Fits] at h
  replace hs0 := hs0.mono (rdLe_frozen M) (fun _ _ h => h)
  replace hs1 := hs1.mono (rdLe_frozen M) (fun _ _ h => h)
  have hH := Has.nil (frozen M)
  refine Run.seq (Run.region ?_)
  refine Run.opX wantS_none rfl (ExG.box rfl (cells_one (slc_one hs1)) hH) ?_
  rintro _ M23 ⟨b22, rfl, hH23⟩
  refine Run.opG wantS_none (ex_assign rfl) rfl ?_
  refine Run.opG wantS_none (ex_assign rfl) rfl ?_
  refine Run.opsEnd (Run.seq (Run.seq (Run.region ?_)))
  refine Run.opG wantS_none (ex_move rfl) rfl ?_
  refine Run.opG wantS_none (ex_move rfl) rfl ?_
  obtain ⟨r25, hr25, h⟩ := bnd_some h
  refine Run.callP wantS_none (ex_call rfl mkk59 cal59) rfl (sky_checkNetGrid_ok F a0 a1 s0 _ _ (hH23.slcF hs0) hr25) ?_
  refine Run.opG wantS_none (ex_assign rfl) rfl ?_
  refine Run.opsEnd (Run.block (Run.seq (Run.region ?_)))
  refine Run.opG wantS_none (ex_move rfl) rfl ?_
  refine Run.opG wantS_none (ex_neq rfl rfl) rfl ?_
  refine Run.opG wantS_none (ex_assign rfl) rfl ?_
  refine Run.opsEnd ?_
  rcases btf ((!(r25 == (0 : Int)))) with hc27 | hc27
  · have h := bif_t hc27 h
    refine Run.condT' rfl hc27 ?_
    refine Run.seq (Run.region ?_)
    refine Run.opG wantS_none (ex_move rfl) rfl ?_
    refine Run.opG wantS_none (ex_assign rfl) rfl ?_
    refine Run.opG wantS_none (ex_assign rfl) rfl ?_
    refine Run.opsEnd ?_
    have hH29 : Has (ro (frozen M)) M23 [.vec 3 1 ([] : List Int).length .nils (([] : List Int).flatMap enc3), .obj b22 (.row 35 .whole [s1])] := hH23.nils 3 1
    cases h
    exact Run.ret Tryz.func22 rfl (res_tmp rfl (res_tmp rfl res_nil)) ⟨_, rfl, (hH29.pick [0] rfl rfl).upF (none_le _)⟩
  · have h := bif_f hc27 h
    refine Run.condF' rfl hc27 ?_
    refine Run.seq (Run.region ?_)
    refine Run.opG wantS_none (ex_load1 rfl (hH23.cells (i := 0) rfl 0 rfl) rdLe_rfl agg35) rfl ?_
    refine Run.opG wantS_none (ex_move rfl) rfl ?_
    refine Run.opG wantS_none (ex_len' rfl hs0 lenk31) rfl ?_
    obtain ⟨r31, hr31, h⟩ := bnd_some h
    refine Run.callP wantS_none (ex_call rfl mkk70 cal70) rfl (sky_areArrivals_ok F a2 (a0.length : Int) s1 _ _ (hH23.slcF hs1) hr31) ?_
    refine Run.opG wantS_none (ex_not rfl) rfl ?_
    refine Run.opG wantS_none (ex_assign rfl) rfl ?_
    refine Run.opsEnd ?_
    rcases btf ((!r31)) with hc33 | hc33
    · have h := bif_t hc33 h
      refine Run.condT' rfl hc33 ?_
      refine Run.seq (Run.region ?_)
      refine Run.opG wantS_none (ex_assign rfl) rfl ?_
      refine Run.opG wantS_none (ex_assign rfl) rfl ?_
      refine Run.opsEnd ?_
      have hH35 : Has (ro (frozen M)) M23 [.vec 3 1 ([] : List Int).length .nils (([] : List Int).flatMap enc3), .obj b22 (.row 35 .whole [s1])] := hH23.nils 3 1
      cases h
      exact Run.ret Tryz.func22 rfl (res_tmp rfl (res_tmp rfl res_nil)) ⟨_, rfl, (hH35.pick [0] rfl rfl).upF (none_le _)⟩
    · have h := bif_f hc33 h
      refine Run.condF' rfl hc33 ?_
      refine Run.skip (Run.inBlock (Run.seq (Run.region ?_)))
      refine Run.opG wantS_none (ex_move rfl) rfl ?_
      obtain ⟨r38, hr38, h⟩ := bnd_some h
      refine Run.callX wantS_none (ex_call rfl mkk63 cal63) rfl (sky_sitesOf_ok F a0 s0 _ _ (hH23.slcF hs0) hr38) ?_
      rintro s38_0 M40 ⟨_, rfl, hN38⟩
      have hH40 : Has (ro (frozen M)) M40 [.vec 99 9 r38.length s38_0 (r38.flatMap enc99), .obj b22 (.row 35 .whole [s1])] := hN38.1 _ _ hH23
      refine Run.opX wantS_none rfl (ExG.new (v := fun b => .ptr b 0) (ex_alloc zer93) hH40) ?_
      rintro _ M43 ⟨b42, rfl, hH43⟩
      refine Run.opX wantS_none rfl (ExG.storeC (c' := [s38_0]) rfl rfl (cells_one (vec_one hH43 (i := 1) rfl)) hH43 (i := 0) rfl sz93 rfl rfl rfl (ones_cons (vec_one hH43 (i := 1) rfl) ones_nil) rfl) ?_
      rintro _ M44 ⟨rfl, (hH44 : Has (ro (frozen M)) M44 [.obj b42 (.row 93 .whole [s38_0]), .vec 99 9 r38.length s38_0 (r38.flatMap enc99), .obj b22 (.row 35 .whole [s1])])⟩
      refine Run.opsEnd (Run.seq (Run.region ?_))
      refine Run.opG wantS_none (ex_move rfl) rfl ?_
      refine Run.opG wantS_none (ex_makeFunc rfl rfl) rfl ?_
      refine Run.enter wantS_none (ex_call rfl mkk67 cal67) Tryz.func67 rfl rfl ?_
      refine Run.seq (Run.region ?_)
      refine Run.opX wantS_none rfl (ExG.box rfl rfl hH44) ?_
      rintro _ M47 ⟨b46, rfl, hH47⟩
      refine Run.opG wantS_none (ex_assign rfl) rfl ?_
      refine Run.opsEnd (Run.seq (Run.region ?_))
      refine Run.opX wantS_none rfl (ExG.new (v := fun b => .ptr b 0) (ex_alloc zer36) hH47) ?_
      rintro _ M50 ⟨b49, rfl, hH50⟩
      refine Run.opsEnd (Run.seq (Run.seq (Run.region ?_)))
      refine Run.opG wantS_none (ex_move rfl) rfl ?_
      refine Run.enter wantS_none (ex_call rfl mkk114 cal114) Tryz.func114 rfl rfl ?_
      refine Run.seq (Run.region ?_)
      refine Run.opX wantS_none rfl (ExG.box rfl rfl hH50) ?_
      rintro _ M53 ⟨b52, rfl, hH53⟩
      refine Run.opG wantS_none (ex_assign rfl) rfl ?_
      refine Run.opsEnd (Run.seq (Run.region ?_))
      refine Run.opG wantS_none (ex_makeFunc rfl rfl) rfl ?_
      refine Run.opG wantS_none (ex_assign rfl) rfl ?_
      refine Run.opsEnd ?_
      refine Run.retTo Tryz.func114 rfl (res_tmp rfl res_nil) rfl ?_
      refine Run.opsEnd (Run.block ?_)
      refine Run.pick [3, 4, 5, 9] ?_
      refine Run.rangeX rfl cal156 Tryz.func156 rfl rfl hH53 ?_
      intro b55 b54 M54 (hH54 : Has (ro (frozen M)) M54 [.obj b54 (.loop ⟨.ready, none, 67, 20, treeOf [(3, (.ptr b46 0)), (4, .nils), (5, (.ptr b49 0)), (9, (.fn (.func 156) [] [(.ptr b52 0)]))], [10, 11], (atC Tryz.prog 67 [1, 1, 0, 1, 0, 0]), (atC Tryz.prog 67 [1, 1, 0, 1, 0, 1]), b55⟩), .obj b55 .defd, .obj b52 (.row 81 .whole [(.int .i64 a1)]), .obj b49 (.row 36 .whole [.nils]), .obj b46 (.row 89 .whole [(.fn (.func 71) [] [(.ptr b42 0), (.ptr b22 0)])]), .obj b42 (.row 93 .whole [s38_0]), .vec 99 9 r38.length s38_0 (r38.flatMap enc99), .obj b22 (.row 35 .whole [s1])])
      refine Run.seq (Run.region ?_)
      refine Run.opG wantS_none (ex_load1 rfl (hH54.cells (i := 2) rfl 0 rfl) rdLe_rfl agg81) rfl ?_
      obtain ⟨r57, hr57, h⟩ := bnd_some h
      refine Run.callP wantS_none (ex_call rfl mkk49 cal49) rfl (sky_grid_cells_ok F a1 _ _ hr57) ?_
      refine Run.opG wantS_none (ex_move rfl) rfl ?_
      refine Run.opsEnd (Run.block (Run.loop ?_))
      have hH60 : Has (ro (frozen M)) M54 [.vec 3 1 ([] : List Int).length .nils (([] : List Int).flatMap enc3), .obj b54 (.loop ⟨.ready, none, 67, 20, treeOf [(3, (.ptr b46 0)), (4, .nils), (5, (.ptr b49 0)), (9, (.fn (.func 156) [] [(.ptr b52 0)]))], [10, 11], (atC Tryz.prog 67 [1, 1, 0, 1, 0, 0]), (atC Tryz.prog 67 [1, 1, 0, 1, 0, 1]), b55⟩), .obj b55 .defd, .obj b52 (.row 81 .whole [(.int .i64 a1)]), .obj b49 (.row 36 .whole [.nils]), .obj b46 (.row 89 .whole [(.fn (.func 71) [] [(.ptr b42 0), (.ptr b22 0)])]), .obj b42 (.row 93 .whole [s38_0]), .vec 99 9 r38.length s38_0 (r38.flatMap enc99), .obj b22 (.row 35 .whole [s1])] := hH54.nils 3 1
      exact Run.low (.cons (fle_pick [5] rfl) (.cons (fle_pick [] rfl) .nil)) (Run.pick [0, 1, 5, 6] (sky_Fits_1_ok F F r57 (0 : Int) a2 a1 r38 ([] : List Int) s1 b54 b46 b42 s38_0 b22 b49 .nils b52 b55 _ _ _ hs1 (hH60.pick [1, 5, 6, 7, 8, 4, 0, 3, 2] rfl rfl) h))

theorem mkk22 : makeK Tryz.prog 22 = none := by kernel_rfl
theorem cal22 : callable Tryz.prog 22 = true := by kernel_rfl
theorem plan73_1_0_1_0_0_1_0_0_0 : planOf Tryz.prog (opsC (atC Tryz.prog 73 [1, 0, 1, 0, 0, 1, 0, 0, 0])) = some [.fl 0, .fl 1, .fl 2, .fl 3, .fl 4, .fl 5, .fl 6, .fl 7, .an 8 [], .fl 9, .fl 10, .fl 11, .fl 12, .fl 13, .fl 14, .fl 15, .an 16 [], .fl 17, .fl 18, .fl 19, .fl 20, .fl 21, .fl 22, .fl 23, .fl 24, .an 25 [], .fl 26, .fl 27, .fl 28, .fl 29, .fl 30, .fl 31, .fl 32, .fl 33, .fl 34, .fl 35, .fl 36, .fl 37, .fl 38, .fl 39, .fl 40, .fl 41, .fl 42, .fl 43, .fl 44, .fl 45, .sync] := by kernel_rfl
abbrev ref09_arrivals_post (r : Bool) : SV → Mem → Prop := fun s _ => s = (.bool r)

def ref09_arrivals_2 (F : Nat) (hd1 : (List S_api_Site) → (List S_api_Arrival) → Int → Option (Bool)) (v0 : (List S_api_Site)) (v1 : (List S_api_Arrival)) (v5 : Int) (v57 : Bool) : Option (Bool) :=
  bif v57 then
    some false
  else
    hd1 v0 v1 (w64 (v5 + (1 : Int)))

theorem ref09_arrivals_2_ok (F : Nat) (hd1 : (List S_api_Site) → (List S_api_Arrival) → Int → Option (Bool)) (hhd1 : ∀ (v0 : (List S_api_Site)) (v1 : (List S_api_Arrival)) (v5 : Int) (sv0 sv1 : SV) (Fr : Rd) (M : Mem) (r : Bool) (hv0 : Slc Fr 10 (FlatR enc105) sv0 v0) (hv1 : Slc Fr 3 (FlatR enc67) sv1 v1) (hH : Has Fr M []), hd1 v0 v1 v5 = some r → Run Tryz.prog ⟨⟨73, [], none⟩, []⟩ 61 (ref09_arrivals_post r) [(0, sv0), (1, sv1), (5, (.int .i64 v5))] [codeC Tryz.prog 73 [1, 0, 1, 0, 0], loopC Tryz.prog 73 [1, 0, 1, 0, 0], .inBlock 0, codeC Tryz.prog 73 [1, 1]] M) : ∀ (v0 : (List S_api_Site)) (v1 : (List S_api_Arrival)) (v5 : Int) (v57 : Bool) (sv0 sv1 : SV) (Fr : Rd) (M : Mem) (r : Bool) (hv0 : Slc Fr 10 (FlatR enc105) sv0 v0) (hv1 : Slc Fr 3 (FlatR enc67) sv1 v1) (hH : Has Fr M []), ref09_arrivals_2 F hd1 v0 v1 v5 v57 = some r → Run Tryz.prog ⟨⟨73, [], none⟩, []⟩ 61 (ref09_arrivals_post r) [(0, sv0), (1, sv1), (5, (.int .i64 v5)), (57, (.bool v57))] [codeC Tryz.prog 73 [1, 0, 1, 0, 0, 1, 0, 0, 1], .inBlock 1, codeC Tryz.prog 73 [1, 0, 1, 0, 0, 1, 1], loopC Tryz.prog 73 [1, 0, 1, 0, 0], .inBlock 0, codeC Tryz.prog 73 [1, 1]] M := by
  intro v0 v1 v5 v57 sv0 sv1 Fr M r hv0 hv1 hH h
  rw [ref09_arrivals_2] at h
  rcases btf (v57) with hc27 | hc27
  · have h := bif_t hc27 h
    refine Run.condT' rfl hc27 ?_
    refine Run.seq (Run.region ?_)
    refine Run.opG wantS_none (ex_assign rfl) rfl ?_
    refine Run.opsEnd ?_
    cases h
    exact Run.ret Tryz.func73 rfl (res_tmp rfl res_nil) rfl
  · have h := bif_f hc27 h
    refine Run.condF' rfl hc27 ?_
    refine Run.skip (Run.inBlock (Run.region ?_))
    refine Run.opG wantS_none (ex_move rfl) rfl ?_
    refine Run.opG wantS_none (ex_add rfl rfl) rfl ?_
    refine Run.opG wantS_none (ex_assign rfl) rfl ?_
    refine Run.opsEnd (Run.inLoop ?_)
    exact Run.pick [0, 1, 5] (hhd1 v0 v1 (w64 (v5 + (1 : Int))) sv0 sv1 _ _ _ hv0 hv1 hH h)

def ref09_arrivals_1 (F : Nat) : Nat → (List S_api_Site) → (List S_api_Arrival) → Int → Option (Bool)
  | 0, _, _, _ => none
  | N + 1, v0, v1, v5 =>
    bif (decide (v5 < (v1.length : Int))) then
      bnd (idx v1 v5) fun x22 =>
      bnd (ref00_In F x22.Site (0 : Int) (w64 ((v0.length : Int) - (1 : Int)))) fun r24 =>
      bif (!r24) then
        ref09_arrivals_2 F (ref09_arrivals_1 F N) v0 v1 v5 true
      else
        bnd (idx v1 v5) fun x28 =>
        bnd (ref00_In F x28.Time ((-1099511627776) : Int) (1099511627776 : Int)) fun r30 =>
        bif (!r30) then
          ref09_arrivals_2 F (ref09_arrivals_1 F N) v0 v1 v5 true
        else
          bnd (idx v1 v5) fun x33 =>
          bnd (ref00_In F x33.Slack (0 : Int) (65536 : Int)) fun r35 =>
          bif (!r35) then
            ref09_arrivals_2 F (ref09_arrivals_1 F N) v0 v1 v5 true
          else
            bif (decide ((0 : Int) < v5)) then
              bnd (idx v1 (w64 (v5 - (1 : Int)))) fun x39 =>
              bnd (idx v1 v5) fun x41 =>
              ref09_arrivals_2 F (ref09_arrivals_1 F N) v0 v1 v5 (decide (x41.Site ≤ x39.Site))
            else
              ref09_arrivals_2 F (ref09_arrivals_1 F N) v0 v1 v5 false
    else
      some (decide ((2 : Int) ≤ (v1.length : Int)))

theorem ref09_arrivals_1_ok (F : Nat) : ∀ (N : Nat), ∀ (v0 : (List S_api_Site)) (v1 : (List S_api_Arrival)) (v5 : Int) (sv0 sv1 : SV) (Fr : Rd) (M : Mem) (r : Bool) (hv0 : Slc Fr 10 (FlatR enc105) sv0 v0) (hv1 : Slc Fr 3 (FlatR enc67) sv1 v1) (hH : Has Fr M []), ref09_arrivals_1 F N v0 v1 v5 = some r → Run Tryz.prog ⟨⟨73, [], none⟩, []⟩ 61 (ref09_arrivals_post r) [(0, sv0), (1, sv1), (5, (.int .i64 v5))] [codeC Tryz.prog 73 [1, 0, 1, 0, 0], loopC Tryz.prog 73 [1, 0, 1, 0, 0], .inBlock 0, codeC Tryz.prog 73 [1, 1]] M := by
  intro N
  induction N with
  | zero =>
    intro v0 v1 v5 sv0 sv1 Fr M r hv0 hv1 hH h
    simp [ref09_arrivals_1] at h
  | succ N ih =>
    intro v0 v1 v5 sv0 sv1 Fr M r hv0 hv1 hH h
    rw [ref09_arrivals_1] at h
    refine Run.seq (Run.seq (Run.region ?_))
    refine Run.opG wantS_none (ex_move rfl) rfl ?_
    refine Run.opG wantS_none (ex_move rfl) rfl ?_
    refine Run.opG wantS_none (ex_len' rfl hv1 lenk35) rfl ?_
    refine Run.opG wantS_none (ex_lss rfl rfl) rfl ?_
    refine Run.opsEnd ?_
    rcases btf ((decide (v5 < (v1.length : Int)))) with hc21 | hc21
    · have h := bif_t hc21 h
      refine Run.condT' rfl hc21 ?_
      refine Run.skip (Run.seq (Run.block (Run.seq ?_)))
      refine Run.drawG plan73_1_0_1_0_0_1_0_0_0 ?_
      refine DrawG.fl rfl (ev_ex wantS_none (ex_move rfl)) rfl ?_
      refine DrawG.fl rfl (ev_ex wantS_none (ex_move rfl)) rfl ?_
      obtain ⟨x22, hx22, h⟩ := bnd_some h
      obtain ⟨p22, o22, _, hx22, hp22, rfl⟩ := sl_elem (P := Tryz.prog) (t := 35) (kk := .i64) hv1 hx22 els35
      refine DrawG.fl rfl (ev_ex wantS_none (ex_elX rfl rfl hx22)) rfl ?_
      have hp23 := (hp22.fld (o := 0) rfl)
      refine DrawG.fl rfl (ev_ex wantS_none (ex_fieldAddr rfl off67_0)) rfl ?_
      refine DrawG.fl rfl (ev_ex wantS_none (ex_load1 rfl (hH.ptrF hp23) rdLe_rfl agg3)) rfl ?_
      refine DrawG.fl rfl (ev_ex wantS_none (ex_move rfl)) rfl ?_
      refine DrawG.fl rfl (ev_ex wantS_none (ex_len' rfl hv0 lenk31)) rfl ?_
      refine DrawG.fl rfl (ev_ex wantS_none (ex_sub rfl rfl)) rfl ?_
      obtain ⟨r24, hr24, h⟩ := bnd_some h
      refine DrawG.callP rfl wantS_none (ex_call rfl mkk36 cal36) rfl (ref00_In_ok F x22.Site (0 : Int) (w64 ((v0.length : Int) - (1 : Int))) _ _ hr24) st_nil ?_
      refine DrawG.fl rfl (ev_ex wantS_none (ex_not rfl)) rfl ?_
      refine DrawG.fl rfl (ev_ex wantS_none (ex_move rfl)) rfl ?_
      rcases btf ((!r24)) with hc26 | hc26
      · have h := bif_t hc26 h
        refine DrawG.fl rfl (ev_no (wantS_not' rfl rfl hc26)) rfl ?_
        refine DrawG.fl rfl (ev_no (wantS_not' rfl rfl hc26)) rfl ?_
        refine DrawG.fl rfl (ev_no (wantS_not' rfl rfl hc26)) rfl ?_
        refine DrawG.fl rfl (ev_no (wantS_not' rfl rfl hc26)) rfl ?_
        refine DrawG.fl rfl (ev_no (wantS_not' rfl rfl hc26)) rfl ?_
        refine DrawG.no rfl (wantS_not' rfl rfl hc26) rfl st_nil ?_
        refine DrawG.fl rfl (ev_no (wantS_not' rfl rfl hc26)) rfl ?_
        refine DrawG.fl rfl (ev_ex wantS_none (ex_pickT' rfl hc26 rfl rfl)) rfl ?_
        refine DrawG.fl rfl (ev_ex wantS_none (ex_move rfl)) rfl ?_
        refine DrawG.fl rfl (ev_no (wantS_not' rfl rfl rfl)) rfl ?_
        refine DrawG.fl rfl (ev_no (wantS_not' rfl rfl rfl)) rfl ?_
        refine DrawG.fl rfl (ev_no (wantS_not' rfl rfl rfl)) rfl ?_
        refine DrawG.fl rfl (ev_no (wantS_not' rfl rfl rfl)) rfl ?_
        refine DrawG.fl rfl (ev_no (wantS_not' rfl rfl rfl)) rfl ?_
        refine DrawG.no rfl (wantS_not' rfl rfl rfl) rfl st_nil ?_
        refine DrawG.fl rfl (ev_no (wantS_not' rfl rfl rfl)) rfl ?_
        refine DrawG.fl rfl (ev_ex wantS_none (ex_pickT' rfl rfl rfl rfl)) rfl ?_
        refine DrawG.fl rfl (ev_ex wantS_none (ex_move rfl)) rfl ?_
        refine DrawG.fl rfl (ev_no (wantS_not' rfl rfl rfl)) rfl ?_
        refine DrawG.fl rfl (ev_no (wantS_not' rfl rfl rfl)) rfl ?_
        refine DrawG.fl rfl (ev_no (wantS_not' rfl rfl rfl)) rfl ?_
        refine DrawG.fl rfl (ev_no (wantS_skip rfl rfl)) rfl ?_
        refine DrawG.fl rfl (ev_no (wantS_skip rfl rfl)) rfl ?_
        refine DrawG.fl rfl (ev_no (wantS_skip rfl rfl)) rfl ?_
        refine DrawG.fl rfl (ev_no (wantS_skip rfl rfl)) rfl ?_
        refine DrawG.fl rfl (ev_no (wantS_skip rfl rfl)) rfl ?_
        refine DrawG.fl rfl (ev_no (wantS_skip rfl rfl)) rfl ?_
        refine DrawG.fl rfl (ev_no (wantS_skip rfl rfl)) rfl ?_
        refine DrawG.fl rfl (ev_no (wantS_skip rfl rfl)) rfl ?_
        refine DrawG.fl rfl (ev_no (wantS_skip rfl rfl)) rfl ?_
        refine DrawG.fl rfl (ev_no (wantS_skip rfl rfl)) rfl ?_
        refine DrawG.fl rfl (ev_no (wantS_skip rfl rfl)) rfl ?_
        refine DrawG.fl rfl (ev_no (wantS_skip rfl rfl)) rfl ?_
        refine DrawG.fl rfl (ev_no (wantS_not' rfl rfl rfl)) rfl ?_
        refine DrawG.fl rfl (ev_ex wantS_none (ex_pickT' rfl rfl rfl rfl)) rfl ?_
        refine DrawG.sync ?_
        refine DrawG.nil ?_
        exact Run.pick [0, 1, 5, 57] (ref09_arrivals_2_ok F (ref09_arrivals_1 F N) ih v0 v1 v5 true sv0 sv1 _ _ _ hv0 hv1 hH h)
      · have h := bif_f hc26 h
        refine DrawG.fl rfl (ev_ex (wantS_yes' rfl rfl hc26) (ex_move rfl)) rfl ?_
        refine DrawG.fl rfl (ev_ex (wantS_yes' rfl rfl hc26) (ex_move rfl)) rfl ?_
        obtain ⟨x28, hx28, h⟩ := bnd_some h
        obtain ⟨p28, o28, _, hx28, hp28, rfl⟩ := sl_elem (P := Tryz.prog) (t := 35) (kk := .i64) hv1 hx28 els35
        refine DrawG.fl rfl (ev_ex (wantS_yes' rfl rfl hc26) (ex_elX rfl rfl hx28)) rfl ?_
        have hp29 := (hp28.fld (o := 1) rfl)
        refine DrawG.fl rfl (ev_ex (wantS_yes' rfl rfl hc26) (ex_fieldAddr rfl off67_1)) rfl ?_
        refine DrawG.fl rfl (ev_ex (wantS_yes' rfl rfl hc26) (ex_load1 rfl (hH.ptrF hp29) rdLe_rfl agg3)) rfl ?_
        obtain ⟨r30, hr30, h⟩ := bnd_some h
        refine DrawG.callP rfl (wantS_yes' rfl rfl hc26) (ex_call rfl mkk36 cal36) rfl (ref00_In_ok F x28.Time ((-1099511627776) : Int) (1099511627776 : Int) _ _ hr30) st_nil ?_
        refine DrawG.fl rfl (ev_ex (wantS_yes' rfl rfl hc26) (ex_not rfl)) rfl ?_
        refine DrawG.fl rfl (ev_ex wantS_none (ex_pickF' rfl hc26 rfl rfl)) rfl ?_
        refine DrawG.fl rfl (ev_ex wantS_none (ex_move rfl)) rfl ?_
        rcases btf ((!r30)) with hc32 | hc32
        · have h := bif_t hc32 h
          refine DrawG.fl rfl (ev_no (wantS_not' rfl rfl hc32)) rfl ?_
          refine DrawG.fl rfl (ev_no (wantS_not' rfl rfl hc32)) rfl ?_
          refine DrawG.fl rfl (ev_no (wantS_not' rfl rfl hc32)) rfl ?_
          refine DrawG.fl rfl (ev_no (wantS_not' rfl rfl hc32)) rfl ?_
          refine DrawG.fl rfl (ev_no (wantS_not' rfl rfl hc32)) rfl ?_
          refine DrawG.no rfl (wantS_not' rfl rfl hc32) rfl st_nil ?_
          refine DrawG.fl rfl (ev_no (wantS_not' rfl rfl hc32)) rfl ?_
          refine DrawG.fl rfl (ev_ex wantS_none (ex_pickT' rfl hc32 rfl rfl)) rfl ?_
          refine DrawG.fl rfl (ev_ex wantS_none (ex_move rfl)) rfl ?_
          refine DrawG.fl rfl (ev_no (wantS_not' rfl rfl rfl)) rfl ?_
          refine DrawG.fl rfl (ev_no (wantS_not' rfl rfl rfl)) rfl ?_
          refine DrawG.fl rfl (ev_no (wantS_not' rfl rfl rfl)) rfl ?_
          refine DrawG.fl rfl (ev_no (wantS_skip rfl rfl)) rfl ?_
          refine DrawG.fl rfl (ev_no (wantS_skip rfl rfl)) rfl ?_
          refine DrawG.fl rfl (ev_no (wantS_skip rfl rfl)) rfl ?_
          refine DrawG.fl rfl (ev_no (wantS_skip rfl rfl)) rfl ?_
          refine DrawG.fl rfl (ev_no (wantS_skip rfl rfl)) rfl ?_
          refine DrawG.fl rfl (ev_no (wantS_skip rfl rfl)) rfl ?_
          refine DrawG.fl rfl (ev_no (wantS_skip rfl rfl)) rfl ?_
          refine DrawG.fl rfl (ev_no (wantS_skip rfl rfl)) rfl ?_
          refine DrawG.fl rfl (ev_no (wantS_skip rfl rfl)) rfl ?_
          refine DrawG.fl rfl (ev_no (wantS_skip rfl rfl)) rfl ?_
          refine DrawG.fl rfl (ev_no (wantS_skip rfl rfl)) rfl ?_
          refine DrawG.fl rfl (ev_no (wantS_skip rfl rfl)) rfl ?_
          refine DrawG.fl rfl (ev_no (wantS_not' rfl rfl rfl)) rfl ?_
          refine DrawG.fl rfl (ev_ex wantS_none (ex_pickT' rfl rfl rfl rfl)) rfl ?_
          refine DrawG.sync ?_
          refine DrawG.nil ?_
          exact Run.pick [0, 1, 5, 57] (ref09_arrivals_2_ok F (ref09_arrivals_1 F N) ih v0 v1 v5 true sv0 sv1 _ _ _ hv0 hv1 hH h)
        · have h := bif_f hc32 h
          refine DrawG.fl rfl (ev_ex (wantS_yes' rfl rfl hc32) (ex_move rfl)) rfl ?_
          refine DrawG.fl rfl (ev_ex (wantS_yes' rfl rfl hc32) (ex_move rfl)) rfl ?_
          obtain ⟨x33, hx33, h⟩ := bnd_some h
          obtain ⟨p33, o33, _, hx33, hp33, rfl⟩ := sl_elem (P := Tryz.prog) (t := 35) (kk := .i64) hv1 hx33 els35
          refine DrawG.fl rfl (ev_ex (wantS_yes' rfl rfl hc32) (ex_elX rfl rfl hx33)) rfl ?_
          have hp34 := (hp33.fld (o := 2) rfl)
          refine DrawG.fl rfl (ev_ex (wantS_yes' rfl rfl hc32) (ex_fieldAddr rfl off67_2)) rfl ?_
          refine DrawG.fl rfl (ev_ex (wantS_yes' rfl rfl hc32) (ex_load1 rfl (hH.ptrF hp34) rdLe_rfl agg3)) rfl ?_
          obtain ⟨r35, hr35, h⟩ := bnd_some h
          refine DrawG.callP rfl (wantS_yes' rfl rfl hc32) (ex_call rfl mkk36 cal36) rfl (ref00_In_ok F x33.Slack (0 : Int) (65536 : Int) _ _ hr35) st_nil ?_
          refine DrawG.fl rfl (ev_ex (wantS_yes' rfl rfl hc32) (ex_not rfl)) rfl ?_
          refine DrawG.fl rfl (ev_ex wantS_none (ex_pickF' rfl hc32 rfl rfl)) rfl ?_
          refine DrawG.fl rfl (ev_ex wantS_none (ex_move rfl)) rfl ?_
          rcases btf ((!r35)) with hc37 | hc37
          · have h := bif_t hc37 h
            refine DrawG.fl rfl (ev_no (wantS_not' rfl rfl hc37)) rfl ?_
            refine DrawG.fl rfl (ev_no (wantS_not' rfl rfl hc37)) rfl ?_
            refine DrawG.fl rfl (ev_no (wantS_not' rfl rfl hc37)) rfl ?_
            refine DrawG.fl rfl (ev_no (wantS_skip rfl rfl)) rfl ?_
            refine DrawG.fl rfl (ev_no (wantS_skip rfl rfl)) rfl ?_
            refine DrawG.fl rfl (ev_no (wantS_skip rfl rfl)) rfl ?_
            refine DrawG.fl rfl (ev_no (wantS_skip rfl rfl)) rfl ?_
            refine DrawG.fl rfl (ev_no (wantS_skip rfl rfl)) rfl ?_
            refine DrawG.fl rfl (ev_no (wantS_skip rfl rfl)) rfl ?_
            refine DrawG.fl rfl (ev_no (wantS_skip rfl rfl)) rfl ?_
            refine DrawG.fl rfl (ev_no (wantS_skip rfl rfl)) rfl ?_
            refine DrawG.fl rfl (ev_no (wantS_skip rfl rfl)) rfl ?_
            refine DrawG.fl rfl (ev_no (wantS_skip rfl rfl)) rfl ?_
            refine DrawG.fl rfl (ev_no (wantS_skip rfl rfl)) rfl ?_
            refine DrawG.fl rfl (ev_no (wantS_skip rfl rfl)) rfl ?_
            refine DrawG.fl rfl (ev_no (wantS_not' rfl rfl hc37)) rfl ?_
            refine DrawG.fl rfl (ev_ex wantS_none (ex_pickT' rfl hc37 rfl rfl)) rfl ?_
            refine DrawG.sync ?_
            refine DrawG.nil ?_
            exact Run.pick [0, 1, 5, 57] (ref09_arrivals_2_ok F (ref09_arrivals_1 F N) ih v0 v1 v5 true sv0 sv1 _ _ _ hv0 hv1 hH h)
          · have h := bif_f hc37 h
            refine DrawG.fl rfl (ev_ex (wantS_yes' rfl rfl hc37) (ex_move rfl)) rfl ?_
            refine DrawG.fl rfl (ev_ex (wantS_yes' rfl rfl hc37) (ex_gtr rfl rfl)) rfl ?_
            refine DrawG.fl rfl (ev_ex (wantS_yes' rfl rfl hc37) (ex_move rfl)) rfl ?_
            rcases btf ((decide ((0 : Int) < v5))) with hc38 | hc38
            · have h := bif_t hc38 h
              refine DrawG.fl rfl (ev_ex (wantS_yes' rfl rfl hc38) (ex_move rfl)) rfl ?_
              refine DrawG.fl rfl (ev_ex (wantS_yes' rfl rfl hc38) (ex_move rfl)) rfl ?_
              refine DrawG.fl rfl (ev_ex (wantS_yes' rfl rfl hc38) (ex_sub rfl rfl)) rfl ?_
              obtain ⟨x39, hx39, h⟩ := bnd_some h
              obtain ⟨p39, o39, _, hx39, hp39, rfl⟩ := sl_elem (P := Tryz.prog) (t := 35) (kk := .i64) hv1 hx39 els35
              refine DrawG.fl rfl (ev_ex (wantS_yes' rfl rfl hc38) (ex_elX rfl rfl hx39)) rfl ?_
              have hp40 := (hp39.fld (o := 0) rfl)
              refine DrawG.fl rfl (ev_ex (wantS_yes' rfl rfl hc38) (ex_fieldAddr rfl off67_0)) rfl ?_
              refine DrawG.fl rfl (ev_ex (wantS_yes' rfl rfl hc38) (ex_load1 rfl (hH.ptrF hp40) rdLe_rfl agg3)) rfl ?_
              refine DrawG.fl rfl (ev_ex (wantS_yes' rfl rfl hc38) (ex_move rfl)) rfl ?_
              refine DrawG.fl rfl (ev_ex (wantS_yes' rfl rfl hc38) (ex_move rfl)) rfl ?_
              obtain ⟨x41, hx41, h⟩ := bnd_some h
              obtain ⟨p41, o41, _, hx41, hp41, rfl⟩ := sl_elem (P := Tryz.prog) (t := 35) (kk := .i64) hv1 hx41 els35
              refine DrawG.fl rfl (ev_ex (wantS_yes' rfl rfl hc38) (ex_elX rfl rfl hx41)) rfl ?_
              have hp42 := (hp41.fld (o := 0) rfl)
              refine DrawG.fl rfl (ev_ex (wantS_yes' rfl rfl hc38) (ex_fieldAddr rfl off67_0)) rfl ?_
              refine DrawG.fl rfl (ev_ex (wantS_yes' rfl rfl hc38) (ex_load1 rfl (hH.ptrF hp42) rdLe_rfl agg3)) rfl ?_
              refine DrawG.fl rfl (ev_ex (wantS_yes' rfl rfl hc38) (ex_geq rfl rfl)) rfl ?_
              refine DrawG.fl rfl (ev_ex (wantS_yes' rfl rfl hc37) (ex_pickT' rfl hc38 rfl rfl)) rfl ?_
              refine DrawG.fl rfl (ev_ex wantS_none (ex_pickF' rfl hc37 rfl rfl)) rfl ?_
              refine DrawG.sync ?_
              refine DrawG.nil ?_
              exact Run.pick [0, 1, 5, 57] (ref09_arrivals_2_ok F (ref09_arrivals_1 F N) ih v0 v1 v5 (decide (x41.Site ≤ x39.Site)) sv0 sv1 _ _ _ hv0 hv1 hH h)
            · have h := bif_f hc38 h
              refine DrawG.fl rfl (ev_no (wantS_not' rfl rfl hc38)) rfl ?_
              refine DrawG.fl rfl (ev_no (wantS_not' rfl rfl hc38)) rfl ?_
              refine DrawG.fl rfl (ev_no (wantS_not' rfl rfl hc38)) rfl ?_
              refine DrawG.fl rfl (ev_no (wantS_not' rfl rfl hc38)) rfl ?_
              refine DrawG.fl rfl (ev_no (wantS_not' rfl rfl hc38)) rfl ?_
              refine DrawG.fl rfl (ev_no (wantS_not' rfl rfl hc38)) rfl ?_
              refine DrawG.fl rfl (ev_no (wantS_not' rfl rfl hc38)) rfl ?_
              refine DrawG.fl rfl (ev_no (wantS_not' rfl rfl hc38)) rfl ?_
              refine DrawG.fl rfl (ev_no (wantS_not' rfl rfl hc38)) rfl ?_
              refine DrawG.fl rfl (ev_no (wantS_not' rfl rfl hc38)) rfl ?_
              refine DrawG.fl rfl (ev_no (wantS_not' rfl rfl hc38)) rfl ?_
              refine DrawG.fl rfl (ev_no (wantS_not' rfl rfl hc38)) rfl ?_
              refine DrawG.fl rfl (ev_ex (wantS_yes' rfl rfl hc37) (ex_pickF' rfl hc38 rfl rfl)) rfl ?_
              refine DrawG.fl rfl (ev_ex wantS_none (ex_pickF' rfl hc37 rfl rfl)) rfl ?_
              refine DrawG.sync ?_
              refine DrawG.nil ?_
              exact Run.pick [0, 1, 5, 57] (ref09_arrivals_2_ok F (ref09_arrivals_1 F N) ih v0 v1 v5 false sv0 sv1 _ _ _ hv0 hv1 hH h)
    · have h := bif_f hc21 h
      refine Run.condF' rfl hc21 ?_
      refine Run.exit rfl (Run.seq (Run.region ?_))
      refine Run.opG wantS_none (ex_move rfl) rfl ?_
      refine Run.opG wantS_none (ex_len' rfl hv1 lenk35) rfl ?_
      refine Run.opG wantS_none (ex_geq rfl rfl) rfl ?_
      refine Run.opG wantS_none (ex_assign rfl) rfl ?_
      refine Run.opsEnd ?_
      cases h
      exact Run.ret Tryz.func73 rfl (res_tmp rfl res_nil) rfl

def ref09_arrivals (F : Nat) (a0 : (List S_api_Site)) (a1 : (List S_api_Arrival)) : Option (Bool) :=
  ref09_arrivals_1 F F a0 a1 (0 : Int)

theorem ref09_arrivals_ok (F : Nat) (a0 : (List S_api_Site)) (a1 : (List S_api_Arrival)) (s0 s1 : SV) (r : Bool) (M : Mem) (hs0 : Slc (rd M) 10 (FlatR enc105) s0 a0) (hs1 : Slc (rd M) 3 (FlatR enc67) s1 a1) (h : ref09_arrivals F a0 a1 = some r) : CallsM Tryz.prog 73 [s0, s1] M (fun s M' => s = (.bool r) ∧ M' = M) := by
  refine CallsM.plain Tryz.func73 rfl rfl rfl (show Run _ _ _ (ref09_arrivals_post r) _ _ _ from ?_)
  rw [ref09_arrivals] at h
  replace hs0 := hs0.mono (rdLe_frozen M) (fun _ _ h => h)
  replace hs1 := hs1.mono (rdLe_frozen M) (fun _ _ h => h)
  have hH := Has.nil (frozen M)
  refine Run.seq (Run.region ?_)
  refine Run.opG wantS_none (ex_assign rfl) rfl ?_
  refine Run.opsEnd (Run.seq (Run.seq (Run.region ?_)))
  refine Run.opG wantS_none (ex_assign rfl) rfl ?_
  refine Run.opsEnd (Run.block (Run.loop ?_))
  exact Run.pick [0, 1, 5] (ref09_arrivals_1_ok F F a0 a1 (0 : Int) s0 s1 _ _ _ hs0 hs1 hH h)

theorem mkk73 : makeK Tryz.prog 73 = none := by kernel_rfl
theorem cal73 : callable Tryz.prog 73 = true := by kernel_rfl
theorem plan23_1_1_1_1_0_1_0_0_1_0_0_1_0_1_0_0_1_0_0_1_0_0_1_0_0 : planOf Tryz.prog (opsC (atC Tryz.prog 23 [1, 1, 1, 1, 0, 1, 0, 0, 1, 0, 0, 1, 0, 1, 0, 0, 1, 0, 0, 1, 0, 0, 1, 0, 0])) = some [.fl 0, .fl 1, .fl 2, .fl 3, .fl 4, .fl 5, .fl 6, .fl 7, .fl 8, .fl 9, .fl 10, .fl 11, .fl 12, .fl 13, .fl 14, .fl 15, .fl 16, .fl 17, .fl 18, .fl 19, .fl 21, .fl 22, .fl 23, .fl 24, .fl 25, .fl 26, .fl 27, .fl 28, .fl 29, .fl 30, .fl 31, .fl 32, .fl 33, .fl 34, .fl 35, .fl 36, .fl 37, .fl 38, .fl 39, .fl 40, .fl 41, .fl 42, .an 20 [42, 41, 40, 39, 38, 37, 36, 35, 34, 33, 32, 31, 30, 29, 28, 27, 26, 25, 24, 23, 22, 21, 17, 16, 15, 14, 13, 12, 11, 10, 9, 8, 7, 6, 5, 4, 3, 2], .an 43 [], .fl 44, .an 45 [], .sync] := by kernel_rfl
abbrev ref09_Fits_post (r : (List Int) × Int) : SV → Mem → Prop := fun s Me => ∃ q1, s = (.tuple [q1, (.int .i64 r.2)]) ∧ Has (fun _ => none) Me [.vec 3 1 r.1.length q1 (r.1.flatMap enc3)]

def ref09_Fits_4 (F : Nat) (hd3 : (List S_api_Site) → Int → (List S_api_Arrival) → Int → Bool → Int → Int → (List Int) → Option ((List Int) × Int)) (v0 : (List S_api_Site)) (v1 : Int) (v2 : (List S_api_Arrival)) (v10 : Int) (v11 : Bool) (v12 v13 : Int) (l33 : (List Int)) : Option ((List Int) × Int) :=
  hd3 v0 v1 v2 v10 v11 v12 (w64 (v13 + (1 : Int))) l33

theorem ref09_Fits_4_ok (F : Nat) (hd3 : (List S_api_Site) → Int → (List S_api_Arrival) → Int → Bool → Int → Int → (List Int) → Option ((List Int) × Int)) (hhd3 : ∀ (v0 : (List S_api_Site)) (v1 : Int) (v2 : (List S_api_Arrival)) (v10 : Int) (v11 : Bool) (v12 v13 : Int) (l33 : (List Int)) (sv0 sv2 s33 : SV) (Fr : Rd) (M : Mem) (r : (List Int) × Int) (hv0 : Slc Fr 10 (FlatR enc105) sv0 v0) (hv2 : Slc Fr 3 (FlatR enc67) sv2 v2) (hH : Has Fr M [.vec 3 1 l33.length s33 (l33.flatMap enc3)]), hd3 v0 v1 v2 v10 v11 v12 v13 l33 = some r → Run Tryz.prog ⟨⟨23, [], none⟩, []⟩ 92 (ref09_Fits_post r) [(0, sv0), (1, (.int .i64 v1)), (2, sv2), (9, s33), (10, (.int .i64 v10)), (11, (.bool v11)), (12, (.int .i64 v12)), (13, (.int .i64 v13))] [codeC Tryz.prog 23 [1, 1, 1, 1, 0, 1, 0, 0, 1, 0, 0, 1, 0, 1, 0, 0, 1, 0, 0, 1, 0, 0], loopC Tryz.prog 23 [1, 1, 1, 1, 0, 1, 0, 0, 1, 0, 0, 1, 0, 1, 0, 0, 1, 0, 0, 1, 0, 0], .inBlock 4, .inBlock 3, codeC Tryz.prog 23 [1, 1, 1, 1, 0, 1, 0, 0, 1, 0, 0, 1, 0, 1, 0, 0, 1, 1], loopC Tryz.prog 23 [1, 1, 1, 1, 0, 1, 0, 0, 1, 0, 0, 1, 0, 1, 0, 0], .inBlock 2, codeC Tryz.prog 23 [1, 1, 1, 1, 0, 1, 0, 0, 1, 0, 0, 1, 1], .inBlock 1, codeC Tryz.prog 23 [1, 1, 1, 1, 0, 1, 0, 0, 1, 1], loopC Tryz.prog 23 [1, 1, 1, 1, 0, 1, 0, 0], .inBlock 0, codeC Tryz.prog 23 [1, 1, 1, 1, 1]] M) : ∀ (v0 : (List S_api_Site)) (v1 : Int) (v2 : (List S_api_Arrival)) (v10 : Int) (v11 : Bool) (v12 v13 : Int) (l33 : (List Int)) (sv0 sv2 s33 : SV) (Fr : Rd) (M : Mem) (r : (List Int) × Int) (hv0 : Slc Fr 10 (FlatR enc105) sv0 v0) (hv2 : Slc Fr 3 (FlatR enc67) sv2 v2) (hH : Has Fr M [.vec 3 1 l33.length s33 (l33.flatMap enc3)]), ref09_Fits_4 F hd3 v0 v1 v2 v10 v11 v12 v13 l33 = some r → Run Tryz.prog ⟨⟨23, [], none⟩, []⟩ 92 (ref09_Fits_post r) [(0, sv0), (1, (.int .i64 v1)), (2, sv2), (9, s33), (10, (.int .i64 v10)), (11, (.bool v11)), (12, (.int .i64 v12)), (13, (.int .i64 v13))] [itemC Tryz.prog 23 [1, 1, 1, 1, 0, 1, 0, 0, 1, 0, 0, 1, 0, 1, 0, 0, 1, 0, 0, 1, 0, 0, 1, 1] 0, loopC Tryz.prog 23 [1, 1, 1, 1, 0, 1, 0, 0, 1, 0, 0, 1, 0, 1, 0, 0, 1, 0, 0, 1, 0, 0], .inBlock 4, .inBlock 3, codeC Tryz.prog 23 [1, 1, 1, 1, 0, 1, 0, 0, 1, 0, 0, 1, 0, 1, 0, 0, 1, 1], loopC Tryz.prog 23 [1, 1, 1, 1, 0, 1, 0, 0, 1, 0, 0, 1, 0, 1, 0, 0], .inBlock 2, codeC Tryz.prog 23 [1, 1, 1, 1, 0, 1, 0, 0, 1, 0, 0, 1, 1], .inBlock 1, codeC Tryz.prog 23 [1, 1, 1, 1, 0, 1, 0, 0, 1, 1], loopC Tryz.prog 23 [1, 1, 1, 1, 0, 1, 0, 0], .inBlock 0, codeC Tryz.prog 23 [1, 1, 1, 1, 1]] M := by
  intro v0 v1 v2 v10 v11 v12 v13 l33 sv0 sv2 s33 Fr M r hv0 hv2 hH h
  rw [ref09_Fits_4] at h
  refine Run.opG wantS_none (ex_move rfl) rfl ?_
  refine Run.opG wantS_none (ex_add rfl rfl) rfl ?_
  refine Run.opG wantS_none (ex_assign rfl) rfl ?_
  refine Run.opsEnd (Run.inLoop ?_)
  exact Run.pick [0, 1, 2, 9, 10, 11, 12, 13] (hhd3 v0 v1 v2 v10 v11 v12 (w64 (v13 + (1 : Int))) l33 sv0 sv2 s33 _ _ _ hv0 hv2 hH h)

def ref09_Fits_3 (F : Nat) (hd2 : (List S_api_Site) → Int → (List S_api_Arrival) → Int → Bool → Int → (List Int) → Option ((List Int) × Int)) : Nat → (List S_api_Site) → Int → (List S_api_Arrival) → Int → Bool → Int → Int → (List Int) → Option ((List Int) × Int)
  | 0, _, _, _, _, _, _, _, _ => none
  | N + 1, v0, v1, v2, v10, v11, v12, v13, l33 =>
    bif (decide (v13 < v12)) then
      bif v11 then
        bnd (idx v2 v13) fun x42 =>
        bnd (idx v0 x42.Site) fun x44 =>
        bnd (idx v2 v12) fun x45 =>
        bnd (idx v0 x45.Site) fun x47 =>
        bnd (idx v2 v12) fun x48 =>
        bnd (idx v2 v13) fun x50 =>
        bnd (idx v2 v12) fun x52 =>
        bnd (idx v2 v13) fun x54 =>
        bnd (ref09_direction F v1 v10) fun r56 =>
        bnd (ref09_on F x44 x47 r56 (w64 (x48.Time - x50.Time)) (w64 (x52.Slack + x54.Slack))) fun r58 =>
        ref09_Fits_4 F (ref09_Fits_3 F hd2 N) v0 v1 v2 v10 r58 v12 v13 l33
      else
        ref09_Fits_4 F (ref09_Fits_3 F hd2 N) v0 v1 v2 v10 false v12 v13 l33
    else
      hd2 v0 v1 v2 v10 v11 (w64 (v12 + (1 : Int))) l33

theorem ref09_Fits_3_ok (F : Nat) (hd2 : (List S_api_Site) → Int → (List S_api_Arrival) → Int → Bool → Int → (List Int) → Option ((List Int) × Int)) (hhd2 : ∀ (v0 : (List S_api_Site)) (v1 : Int) (v2 : (List S_api_Arrival)) (v10 : Int) (v11 : Bool) (v12 : Int) (l33 : (List Int)) (sv0 sv2 s33 : SV) (Fr : Rd) (M : Mem) (r : (List Int) × Int) (hv0 : Slc Fr 10 (FlatR enc105) sv0 v0) (hv2 : Slc Fr 3 (FlatR enc67) sv2 v2) (hH : Has Fr M [.vec 3 1 l33.length s33 (l33.flatMap enc3)]), hd2 v0 v1 v2 v10 v11 v12 l33 = some r → Run Tryz.prog ⟨⟨23, [], none⟩, []⟩ 92 (ref09_Fits_post r) [(0, sv0), (1, (.int .i64 v1)), (2, sv2), (9, s33), (10, (.int .i64 v10)), (11, (.bool v11)), (12, (.int .i64 v12))] [codeC Tryz.prog 23 [1, 1, 1, 1, 0, 1, 0, 0, 1, 0, 0, 1, 0, 1, 0, 0], loopC Tryz.prog 23 [1, 1, 1, 1, 0, 1, 0, 0, 1, 0, 0, 1, 0, 1, 0, 0], .inBlock 2, codeC Tryz.prog 23 [1, 1, 1, 1, 0, 1, 0, 0, 1, 0, 0, 1, 1], .inBlock 1, codeC Tryz.prog 23 [1, 1, 1, 1, 0, 1, 0, 0, 1, 1], loopC Tryz.prog 23 [1, 1, 1, 1, 0, 1, 0, 0], .inBlock 0, codeC Tryz.prog 23 [1, 1, 1, 1, 1]] M) : ∀ (N : Nat), ∀ (v0 : (List S_api_Site)) (v1 : Int) (v2 : (List S_api_Arrival)) (v10 : Int) (v11 : Bool) (v12 v13 : Int) (l33 : (List Int)) (sv0 sv2 s33 : SV) (Fr : Rd) (M : Mem) (r : (List Int) × Int) (hv0 : Slc Fr 10 (FlatR enc105) sv0 v0) (hv2 : Slc Fr 3 (FlatR enc67) sv2 v2) (hH : Has Fr M [.vec 3 1 l33.length s33 (l33.flatMap enc3)]), ref09_Fits_3 F hd2 N v0 v1 v2 v10 v11 v12 v13 l33 = some r → Run Tryz.prog ⟨⟨23, [], none⟩, []⟩ 92 (ref09_Fits_post r) [(0, sv0), (1, (.int .i64 v1)), (2, sv2), (9, s33), (10, (.int .i64 v10)), (11, (.bool v11)), (12, (.int .i64 v12)), (13, (.int .i64 v13))] [codeC Tryz.prog 23 [1, 1, 1, 1, 0, 1, 0, 0, 1, 0, 0, 1, 0, 1, 0, 0, 1, 0, 0, 1, 0, 0], loopC Tryz.prog 23 [1, 1, 1, 1, 0, 1, 0, 0, 1, 0, 0, 1, 0, 1, 0, 0, 1, 0, 0, 1, 0, 0], .inBlock 4, .inBlock 3, codeC Tryz.prog 23 [1, 1, 1, 1, 0, 1, 0, 0, 1, 0, 0, 1, 0, 1, 0, 0, 1, 1], loopC Tryz.prog 23 [1, 1, 1, 1, 0, 1, 0, 0, 1, 0, 0, 1, 0, 1, 0, 0], .inBlock 2, codeC Tryz.prog 23 [1, 1, 1, 1, 0, 1, 0, 0, 1, 0, 0, 1, 1], .inBlock 1, codeC Tryz.prog 23 [1, 1, 1, 1, 0, 1, 0, 0, 1, 1], loopC Tryz.prog 23 [1, 1, 1, 1, 0, 1, 0, 0], .inBlock 0, codeC Tryz.prog 23 [1, 1, 1, 1, 1]] M := by
  intro N
  induction N with
  | zero =>
    intro v0 v1 v2 v10 v11 v12 v13 l33 sv0 sv2 s33 Fr M r hv0 hv2 hH h
    simp [ref09_Fits_3] at h
  | succ N ih =>
    intro v0 v1 v2 v10 v11 v12 v13 l33 sv0 sv2 s33 Fr M r hv0 hv2 hH h
    rw [ref09_Fits_3] at h
    refine Run.seq (Run.seq (Run.region ?_))
    refine Run.opG wantS_none (ex_move rfl) rfl ?_
    refine Run.opG wantS_none (ex_move rfl) rfl ?_
    refine Run.opG wantS_none (ex_lss rfl rfl) rfl ?_
    refine Run.opsEnd ?_
    rcases btf ((decide (v13 < v12))) with hc40 | hc40
    · have h := bif_t hc40 h
      refine Run.condT' rfl hc40 ?_
      refine Run.skip (Run.seq (Run.block ?_))
      refine Run.drawG plan23_1_1_1_1_0_1_0_0_1_0_0_1_0_1_0_0_1_0_0_1_0_0_1_0_0 ?_
      refine DrawG.fl rfl (ev_ex wantS_none (ex_move rfl)) rfl ?_
      refine DrawG.fl rfl (ev_ex wantS_none (ex_move rfl)) rfl ?_
      rcases btf (v11) with hc41 | hc41
      · have h := bif_t hc41 h
        refine DrawG.fl rfl (ev_ex (wantS_yes' rfl rfl hc41) (ex_move rfl)) rfl ?_
        refine DrawG.fl rfl (ev_ex (wantS_yes' rfl rfl hc41) (ex_move rfl)) rfl ?_
        refine DrawG.fl rfl (ev_ex (wantS_yes' rfl rfl hc41) (ex_move rfl)) rfl ?_
        obtain ⟨x42, hx42, h⟩ := bnd_some h
        obtain ⟨p42, o42, _, hx42, hp42, rfl⟩ := sl_elem (P := Tryz.prog) (t := 35) (kk := .i64) hv2 hx42 els35
        refine DrawG.fl rfl (ev_ex (wantS_yes' rfl rfl hc41) (ex_elX rfl rfl hx42)) rfl ?_
        have hp43 := (hp42.fld (o := 0) rfl)
        refine DrawG.fl rfl (ev_ex (wantS_yes' rfl rfl hc41) (ex_fieldAddr rfl off67_0)) rfl ?_
        refine DrawG.fl rfl (ev_ex (wantS_yes' rfl rfl hc41) (ex_load1 rfl (hH.ptrF hp43) rdLe_rfl agg3)) rfl ?_
        obtain ⟨x44, hx44, h⟩ := bnd_some h
        obtain ⟨p44, o44, _, hx44, hp44, rfl⟩ := sl_elem (P := Tryz.prog) (t := 31) (kk := .i64) hv0 hx44 els31
        refine DrawG.fl rfl (ev_ex (wantS_yes' rfl rfl hc41) (ex_elX rfl rfl hx44)) rfl ?_
        refine DrawG.fl rfl (ev_ex (wantS_yes' rfl rfl hc41) (ex_loadA rfl (hH.ptrF hp44) rdLe_rfl agg105 rfl rfl rfl)) rfl ?_
        refine DrawG.fl rfl (ev_ex (wantS_yes' rfl rfl hc41) (ex_move rfl)) rfl ?_
        refine DrawG.fl rfl (ev_ex (wantS_yes' rfl rfl hc41) (ex_move rfl)) rfl ?_
        refine DrawG.fl rfl (ev_ex (wantS_yes' rfl rfl hc41) (ex_move rfl)) rfl ?_
        obtain ⟨x45, hx45, h⟩ := bnd_some h
        obtain ⟨p45, o45, _, hx45, hp45, rfl⟩ := sl_elem (P := Tryz.prog) (t := 35) (kk := .i64) hv2 hx45 els35
        refine DrawG.fl rfl (ev_ex (wantS_yes' rfl rfl hc41) (ex_elX rfl rfl hx45)) rfl ?_
        have hp46 := (hp45.fld (o := 0) rfl)
        refine DrawG.fl rfl (ev_ex (wantS_yes' rfl rfl hc41) (ex_fieldAddr rfl off67_0)) rfl ?_
        refine DrawG.fl rfl (ev_ex (wantS_yes' rfl rfl hc41) (ex_load1 rfl (hH.ptrF hp46) rdLe_rfl agg3)) rfl ?_
        obtain ⟨x47, hx47, h⟩ := bnd_some h
        obtain ⟨p47, o47, _, hx47, hp47, rfl⟩ := sl_elem (P := Tryz.prog) (t := 31) (kk := .i64) hv0 hx47 els31
        refine DrawG.fl rfl (ev_ex (wantS_yes' rfl rfl hc41) (ex_elX rfl rfl hx47)) rfl ?_
        refine DrawG.fl rfl (ev_ex (wantS_yes' rfl rfl hc41) (ex_loadA rfl (hH.ptrF hp47) rdLe_rfl agg105 rfl rfl rfl)) rfl ?_
        refine DrawG.fl rfl (ev_ex (wantS_yes' rfl rfl hc41) (ex_move rfl)) rfl ?_
        refine DrawG.fl rfl (ev_ex (wantS_yes' rfl rfl hc41) (ex_move rfl)) rfl ?_
        refine DrawG.fl rfl (ev_ex (wantS_yes' rfl rfl hc41) (ex_move rfl)) rfl ?_
        refine DrawG.fl rfl (ev_ex (wantS_yes' rfl rfl hc41) (ex_move rfl)) rfl ?_
        obtain ⟨x48, hx48, h⟩ := bnd_some h
        obtain ⟨p48, o48, _, hx48, hp48, rfl⟩ := sl_elem (P := Tryz.prog) (t := 35) (kk := .i64) hv2 hx48 els35
        refine DrawG.fl rfl (ev_ex (wantS_yes' rfl rfl hc41) (ex_elX rfl rfl hx48)) rfl ?_
        have hp49 := (hp48.fld (o := 1) rfl)
        refine DrawG.fl rfl (ev_ex (wantS_yes' rfl rfl hc41) (ex_fieldAddr rfl off67_1)) rfl ?_
        refine DrawG.fl rfl (ev_ex (wantS_yes' rfl rfl hc41) (ex_load1 rfl (hH.ptrF hp49) rdLe_rfl agg3)) rfl ?_
        refine DrawG.fl rfl (ev_ex (wantS_yes' rfl rfl hc41) (ex_move rfl)) rfl ?_
        refine DrawG.fl rfl (ev_ex (wantS_yes' rfl rfl hc41) (ex_move rfl)) rfl ?_
        obtain ⟨x50, hx50, h⟩ := bnd_some h
        obtain ⟨p50, o50, _, hx50, hp50, rfl⟩ := sl_elem (P := Tryz.prog) (t := 35) (kk := .i64) hv2 hx50 els35
        refine DrawG.fl rfl (ev_ex (wantS_yes' rfl rfl hc41) (ex_elX rfl rfl hx50)) rfl ?_
        have hp51 := (hp50.fld (o := 1) rfl)
        refine DrawG.fl rfl (ev_ex (wantS_yes' rfl rfl hc41) (ex_fieldAddr rfl off67_1)) rfl ?_
        refine DrawG.fl rfl (ev_ex (wantS_yes' rfl rfl hc41) (ex_load1 rfl (hH.ptrF hp51) rdLe_rfl agg3)) rfl ?_
        refine DrawG.fl rfl (ev_ex (wantS_yes' rfl rfl hc41) (ex_sub rfl rfl)) rfl ?_
        refine DrawG.fl rfl (ev_ex (wantS_yes' rfl rfl hc41) (ex_move rfl)) rfl ?_
        refine DrawG.fl rfl (ev_ex (wantS_yes' rfl rfl hc41) (ex_move rfl)) rfl ?_
        obtain ⟨x52, hx52, h⟩ := bnd_some h
        obtain ⟨p52, o52, _, hx52, hp52, rfl⟩ := sl_elem (P := Tryz.prog) (t := 35) (kk := .i64) hv2 hx52 els35
        refine DrawG.fl rfl (ev_ex (wantS_yes' rfl rfl hc41) (ex_elX rfl rfl hx52)) rfl ?_
        have hp53 := (hp52.fld (o := 2) rfl)
        refine DrawG.fl rfl (ev_ex (wantS_yes' rfl rfl hc41) (ex_fieldAddr rfl off67_2)) rfl ?_
        refine DrawG.fl rfl (ev_ex (wantS_yes' rfl rfl hc41) (ex_load1 rfl (hH.ptrF hp53) rdLe_rfl agg3)) rfl ?_
        refine DrawG.fl rfl (ev_ex (wantS_yes' rfl rfl hc41) (ex_move rfl)) rfl ?_
        refine DrawG.fl rfl (ev_ex (wantS_yes' rfl rfl hc41) (ex_move rfl)) rfl ?_
        obtain ⟨x54, hx54, h⟩ := bnd_some h
        obtain ⟨p54, o54, _, hx54, hp54, rfl⟩ := sl_elem (P := Tryz.prog) (t := 35) (kk := .i64) hv2 hx54 els35
        refine DrawG.fl rfl (ev_ex (wantS_yes' rfl rfl hc41) (ex_elX rfl rfl hx54)) rfl ?_
        have hp55 := (hp54.fld (o := 2) rfl)
        refine DrawG.fl rfl (ev_ex (wantS_yes' rfl rfl hc41) (ex_fieldAddr rfl off67_2)) rfl ?_
        refine DrawG.fl rfl (ev_ex (wantS_yes' rfl rfl hc41) (ex_load1 rfl (hH.ptrF hp55) rdLe_rfl agg3)) rfl ?_
        refine DrawG.fl rfl (ev_ex (wantS_yes' rfl rfl hc41) (ex_add rfl rfl)) rfl ?_
        obtain ⟨r56, hr56, h⟩ := bnd_some h
        refine DrawG.callP rfl (wantS_yes' rfl rfl hc41) (ex_call rfl mkk54 cal54) rfl (ref09_direction_ok F v1 v10 _ _ hr56) (st_cons rfl (ev_ex (wantS_yes' rfl rfl hc41) (ex_add rfl rfl)) rfl rfl rfl (st_cons rfl (ev_ex (wantS_yes' rfl rfl hc41) (ex_load1 rfl (hH.ptrF hp55) rdLe_rfl agg3)) rfl rfl rfl (st_cons rfl (ev_ex (wantS_yes' rfl rfl hc41) (ex_fieldAddr rfl off67_2)) rfl rfl rfl (st_cons rfl (ev_ex (wantS_yes' rfl rfl hc41) (ex_elX rfl rfl hx54)) rfl rfl rfl (st_cons rfl (ev_ex (wantS_yes' rfl rfl hc41) (ex_move rfl)) rfl rfl rfl (st_cons rfl (ev_ex (wantS_yes' rfl rfl hc41) (ex_move rfl)) rfl rfl (slc_self hv2) (st_cons rfl (ev_ex (wantS_yes' rfl rfl hc41) (ex_load1 rfl (hH.ptrF hp53) rdLe_rfl agg3)) rfl rfl rfl (st_cons rfl (ev_ex (wantS_yes' rfl rfl hc41) (ex_fieldAddr rfl off67_2)) rfl rfl rfl (st_cons rfl (ev_ex (wantS_yes' rfl rfl hc41) (ex_elX rfl rfl hx52)) rfl rfl rfl (st_cons rfl (ev_ex (wantS_yes' rfl rfl hc41) (ex_move rfl)) rfl rfl rfl (st_cons rfl (ev_ex (wantS_yes' rfl rfl hc41) (ex_move rfl)) rfl rfl (slc_self hv2) (st_cons rfl (ev_ex (wantS_yes' rfl rfl hc41) (ex_sub rfl rfl)) rfl rfl rfl (st_cons rfl (ev_ex (wantS_yes' rfl rfl hc41) (ex_load1 rfl (hH.ptrF hp51) rdLe_rfl agg3)) rfl rfl rfl (st_cons rfl (ev_ex (wantS_yes' rfl rfl hc41) (ex_fieldAddr rfl off67_1)) rfl rfl rfl (st_cons rfl (ev_ex (wantS_yes' rfl rfl hc41) (ex_elX rfl rfl hx50)) rfl rfl rfl (st_cons rfl (ev_ex (wantS_yes' rfl rfl hc41) (ex_move rfl)) rfl rfl rfl (st_cons rfl (ev_ex (wantS_yes' rfl rfl hc41) (ex_move rfl)) rfl rfl (slc_self hv2) (st_cons rfl (ev_ex (wantS_yes' rfl rfl hc41) (ex_load1 rfl (hH.ptrF hp49) rdLe_rfl agg3)) rfl rfl rfl (st_cons rfl (ev_ex (wantS_yes' rfl rfl hc41) (ex_fieldAddr rfl off67_1)) rfl rfl rfl (st_cons rfl (ev_ex (wantS_yes' rfl rfl hc41) (ex_elX rfl rfl hx48)) rfl rfl rfl (st_cons rfl (ev_ex (wantS_yes' rfl rfl hc41) (ex_move rfl)) rfl rfl rfl (st_cons rfl (ev_ex (wantS_yes' rfl rfl hc41) (ex_move rfl)) rfl rfl (slc_self hv2) (st_cons rfl (ev_ex (wantS_yes' rfl rfl hc41) (ex_loadA rfl (hH.ptrF hp47) rdLe_rfl agg105 rfl rfl rfl)) rfl rfl rfl (st_cons rfl (ev_ex (wantS_yes' rfl rfl hc41) (ex_elX rfl rfl hx47)) rfl rfl rfl (st_cons rfl (ev_ex (wantS_yes' rfl rfl hc41) (ex_load1 rfl (hH.ptrF hp46) rdLe_rfl agg3)) rfl rfl rfl (st_cons rfl (ev_ex (wantS_yes' rfl rfl hc41) (ex_fieldAddr rfl off67_0)) rfl rfl rfl (st_cons rfl (ev_ex (wantS_yes' rfl rfl hc41) (ex_elX rfl rfl hx45)) rfl rfl rfl (st_cons rfl (ev_ex (wantS_yes' rfl rfl hc41) (ex_move rfl)) rfl rfl rfl (st_cons rfl (ev_ex (wantS_yes' rfl rfl hc41) (ex_move rfl)) rfl rfl (slc_self hv2) (st_cons rfl (ev_ex (wantS_yes' rfl rfl hc41) (ex_move rfl)) rfl rfl (slc_self hv0) (st_cons rfl (ev_ex (wantS_yes' rfl rfl hc41) (ex_loadA rfl (hH.ptrF hp44) rdLe_rfl agg105 rfl rfl rfl)) rfl rfl rfl (st_cons rfl (ev_ex (wantS_yes' rfl rfl hc41) (ex_elX rfl rfl hx44)) rfl rfl rfl (st_cons rfl (ev_ex (wantS_yes' rfl rfl hc41) (ex_load1 rfl (hH.ptrF hp43) rdLe_rfl agg3)) rfl rfl rfl (st_cons rfl (ev_ex (wantS_yes' rfl rfl hc41) (ex_fieldAddr rfl off67_0)) rfl rfl rfl (st_cons rfl (ev_ex (wantS_yes' rfl rfl hc41) (ex_elX rfl rfl hx42)) rfl rfl rfl (st_cons rfl (ev_ex (wantS_yes' rfl rfl hc41) (ex_move rfl)) rfl rfl rfl (st_cons rfl (ev_ex (wantS_yes' rfl rfl hc41) (ex_move rfl)) rfl rfl (slc_self hv2) (st_cons rfl (ev_ex (wantS_yes' rfl rfl hc41) (ex_move rfl)) rfl rfl (slc_self hv0) st_nil)))))))))))))))))))))))))))))))))))))) ?_
        obtain ⟨r58, hr58, h⟩ := bnd_some h
        refine DrawG.callP rfl (wantS_yes' rfl rfl hc41) (ex_call rfl mkk69 cal69) rfl (ref09_on_ok F x44 x47 r56 (w64 (x48.Time - x50.Time)) (w64 (x52.Slack + x54.Slack)) _ _ hr58) st_nil ?_
        refine DrawG.fl rfl (ev_ex wantS_none (ex_pickT' rfl hc41 rfl rfl)) rfl ?_
        refine DrawG.val rfl wantS_none (ex_assign rfl) rfl st_nil ?_
        refine DrawG.sync ?_
        refine DrawG.nil ?_
        refine Run.inBlock (Run.region ?_)
        exact Run.pick [0, 1, 2, 9, 10, 11, 12, 13] (ref09_Fits_4_ok F (ref09_Fits_3 F hd2 N) ih v0 v1 v2 v10 r58 v12 v13 l33 sv0 sv2 s33 _ _ _ hv0 hv2 hH h)
      · have h := bif_f hc41 h
        refine DrawG.fl rfl (ev_no (wantS_not' rfl rfl hc41)) rfl ?_
        refine DrawG.fl rfl (ev_no (wantS_not' rfl rfl hc41)) rfl ?_
        refine DrawG.fl rfl (ev_no (wantS_not' rfl rfl hc41)) rfl ?_
        refine DrawG.fl rfl (ev_no (wantS_not' rfl rfl hc41)) rfl ?_
        refine DrawG.fl rfl (ev_no (wantS_not' rfl rfl hc41)) rfl ?_
        refine DrawG.fl rfl (ev_no (wantS_not' rfl rfl hc41)) rfl ?_
        refine DrawG.fl rfl (ev_no (wantS_not' rfl rfl hc41)) rfl ?_
        refine DrawG.fl rfl (ev_no (wantS_not' rfl rfl hc41)) rfl ?_
        refine DrawG.fl rfl (ev_no (wantS_not' rfl rfl hc41)) rfl ?_
        refine DrawG.fl rfl (ev_no (wantS_not' rfl rfl hc41)) rfl ?_
        refine DrawG.fl rfl (ev_no (wantS_not' rfl rfl hc41)) rfl ?_
        refine DrawG.fl rfl (ev_no (wantS_not' rfl rfl hc41)) rfl ?_
        refine DrawG.fl rfl (ev_no (wantS_not' rfl rfl hc41)) rfl ?_
        refine DrawG.fl rfl (ev_no (wantS_not' rfl rfl hc41)) rfl ?_
        refine DrawG.fl rfl (ev_no (wantS_not' rfl rfl hc41)) rfl ?_
        refine DrawG.fl rfl (ev_no (wantS_not' rfl rfl hc41)) rfl ?_
        refine DrawG.fl rfl (ev_no (wantS_not' rfl rfl hc41)) rfl ?_
        refine DrawG.fl rfl (ev_no (wantS_not' rfl rfl hc41)) rfl ?_
        refine DrawG.fl rfl (ev_no (wantS_not' rfl rfl hc41)) rfl ?_
        refine DrawG.fl rfl (ev_no (wantS_not' rfl rfl hc41)) rfl ?_
        refine DrawG.fl rfl (ev_no (wantS_not' rfl rfl hc41)) rfl ?_
        refine DrawG.fl rfl (ev_no (wantS_not' rfl rfl hc41)) rfl ?_
        refine DrawG.fl rfl (ev_no (wantS_not' rfl rfl hc41)) rfl ?_
        refine DrawG.fl rfl (ev_no (wantS_not' rfl rfl hc41)) rfl ?_
        refine DrawG.fl rfl (ev_no (wantS_not' rfl rfl hc41)) rfl ?_
        refine DrawG.fl rfl (ev_no (wantS_not' rfl rfl hc41)) rfl ?_
        refine DrawG.fl rfl (ev_no (wantS_not' rfl rfl hc41)) rfl ?_
        refine DrawG.fl rfl (ev_no (wantS_not' rfl rfl hc41)) rfl ?_
        refine DrawG.fl rfl (ev_no (wantS_not' rfl rfl hc41)) rfl ?_
        refine DrawG.fl rfl (ev_no (wantS_not' rfl rfl hc41)) rfl ?_
        refine DrawG.fl rfl (ev_no (wantS_not' rfl rfl hc41)) rfl ?_
        refine DrawG.fl rfl (ev_no (wantS_not' rfl rfl hc41)) rfl ?_
        refine DrawG.fl rfl (ev_no (wantS_not' rfl rfl hc41)) rfl ?_
        refine DrawG.fl rfl (ev_no (wantS_not' rfl rfl hc41)) rfl ?_
        refine DrawG.fl rfl (ev_no (wantS_not' rfl rfl hc41)) rfl ?_
        refine DrawG.fl rfl (ev_no (wantS_not' rfl rfl hc41)) rfl ?_
        refine DrawG.fl rfl (ev_no (wantS_not' rfl rfl hc41)) rfl ?_
        refine DrawG.fl rfl (ev_no (wantS_not' rfl rfl hc41)) rfl ?_
        refine DrawG.fl rfl (ev_no (wantS_not' rfl rfl hc41)) rfl ?_
        refine DrawG.fl rfl (ev_no (wantS_not' rfl rfl hc41)) rfl ?_
        refine DrawG.no rfl (wantS_not' rfl rfl hc41) rfl (st_cons rfl (ev_no (wantS_not' rfl rfl hc41)) rfl rfl rfl (st_cons rfl (ev_no (wantS_not' rfl rfl hc41)) rfl rfl rfl (st_cons rfl (ev_no (wantS_not' rfl rfl hc41)) rfl rfl rfl (st_cons rfl (ev_no (wantS_not' rfl rfl hc41)) rfl rfl rfl (st_cons rfl (ev_no (wantS_not' rfl rfl hc41)) rfl rfl rfl (st_cons rfl (ev_no (wantS_not' rfl rfl hc41)) rfl rfl rfl (st_cons rfl (ev_no (wantS_not' rfl rfl hc41)) rfl rfl rfl (st_cons rfl (ev_no (wantS_not' rfl rfl hc41)) rfl rfl rfl (st_cons rfl (ev_no (wantS_not' rfl rfl hc41)) rfl rfl rfl (st_cons rfl (ev_no (wantS_not' rfl rfl hc41)) rfl rfl rfl (st_cons rfl (ev_no (wantS_not' rfl rfl hc41)) rfl rfl rfl (st_cons rfl (ev_no (wantS_not' rfl rfl hc41)) rfl rfl rfl (st_cons rfl (ev_no (wantS_not' rfl rfl hc41)) rfl rfl rfl (st_cons rfl (ev_no (wantS_not' rfl rfl hc41)) rfl rfl rfl (st_cons rfl (ev_no (wantS_not' rfl rfl hc41)) rfl rfl rfl (st_cons rfl (ev_no (wantS_not' rfl rfl hc41)) rfl rfl rfl (st_cons rfl (ev_no (wantS_not' rfl rfl hc41)) rfl rfl rfl (st_cons rfl (ev_no (wantS_not' rfl rfl hc41)) rfl rfl rfl (st_cons rfl (ev_no (wantS_not' rfl rfl hc41)) rfl rfl rfl (st_cons rfl (ev_no (wantS_not' rfl rfl hc41)) rfl rfl rfl (st_cons rfl (ev_no (wantS_not' rfl rfl hc41)) rfl rfl rfl (st_cons rfl (ev_no (wantS_not' rfl rfl hc41)) rfl rfl rfl (st_cons rfl (ev_no (wantS_not' rfl rfl hc41)) rfl rfl rfl (st_cons rfl (ev_no (wantS_not' rfl rfl hc41)) rfl rfl rfl (st_cons rfl (ev_no (wantS_not' rfl rfl hc41)) rfl rfl rfl (st_cons rfl (ev_no (wantS_not' rfl rfl hc41)) rfl rfl rfl (st_cons rfl (ev_no (wantS_not' rfl rfl hc41)) rfl rfl rfl (st_cons rfl (ev_no (wantS_not' rfl rfl hc41)) rfl rfl rfl (st_cons rfl (ev_no (wantS_not' rfl rfl hc41)) rfl rfl rfl (st_cons rfl (ev_no (wantS_not' rfl rfl hc41)) rfl rfl rfl (st_cons rfl (ev_no (wantS_not' rfl rfl hc41)) rfl rfl rfl (st_cons rfl (ev_no (wantS_not' rfl rfl hc41)) rfl rfl rfl (st_cons rfl (ev_no (wantS_not' rfl rfl hc41)) rfl rfl rfl (st_cons rfl (ev_no (wantS_not' rfl rfl hc41)) rfl rfl rfl (st_cons rfl (ev_no (wantS_not' rfl rfl hc41)) rfl rfl rfl (st_cons rfl (ev_no (wantS_not' rfl rfl hc41)) rfl rfl rfl (st_cons rfl (ev_no (wantS_not' rfl rfl hc41)) rfl rfl rfl (st_cons rfl (ev_no (wantS_not' rfl rfl hc41)) rfl rfl rfl st_nil)))))))))))))))))))))))))))))))))))))) ?_
        refine DrawG.no rfl (wantS_not' rfl rfl hc41) rfl st_nil ?_
        refine DrawG.fl rfl (ev_ex wantS_none (ex_pickF' rfl hc41 rfl rfl)) rfl ?_
        refine DrawG.val rfl wantS_none (ex_assign rfl) rfl st_nil ?_
        refine DrawG.sync ?_
        refine DrawG.nil ?_
        refine Run.inBlock (Run.region ?_)
        exact Run.pick [0, 1, 2, 9, 10, 11, 12, 13] (ref09_Fits_4_ok F (ref09_Fits_3 F hd2 N) ih v0 v1 v2 v10 false v12 v13 l33 sv0 sv2 s33 _ _ _ hv0 hv2 hH h)
    · have h := bif_f hc40 h
      refine Run.condF' rfl hc40 ?_
      refine Run.exit rfl (Run.inBlock (Run.region ?_))
      refine Run.opG wantS_none (ex_move rfl) rfl ?_
      refine Run.opG wantS_none (ex_add rfl rfl) rfl ?_
      refine Run.opG wantS_none (ex_assign rfl) rfl ?_
      refine Run.opsEnd (Run.inLoop ?_)
      exact Run.pick [0, 1, 2, 9, 10, 11, 12] (hhd2 v0 v1 v2 v10 v11 (w64 (v12 + (1 : Int))) l33 sv0 sv2 s33 _ _ _ hv0 hv2 hH h)

def ref09_Fits_5 (F : Nat) (hd1 : (List S_api_Site) → Int → (List S_api_Arrival) → Int → (List Int) → Option ((List Int) × Int)) (v0 : (List S_api_Site)) (v1 : Int) (v2 : (List S_api_Arrival)) (v10 : Int) (l67 : (List Int)) : Option ((List Int) × Int) :=
  hd1 v0 v1 v2 (w64 (v10 + (1 : Int))) l67

theorem ref09_Fits_5_ok (F : Nat) (hd1 : (List S_api_Site) → Int → (List S_api_Arrival) → Int → (List Int) → Option ((List Int) × Int)) (hhd1 : ∀ (v0 : (List S_api_Site)) (v1 : Int) (v2 : (List S_api_Arrival)) (v10 : Int) (l33 : (List Int)) (sv0 sv2 s33 : SV) (Fr : Rd) (M : Mem) (r : (List Int) × Int) (hv0 : Slc Fr 10 (FlatR enc105) sv0 v0) (hv2 : Slc Fr 3 (FlatR enc67) sv2 v2) (hH : Has Fr M [.vec 3 1 l33.length s33 (l33.flatMap enc3)]), hd1 v0 v1 v2 v10 l33 = some r → Run Tryz.prog ⟨⟨23, [], none⟩, []⟩ 92 (ref09_Fits_post r) [(0, sv0), (1, (.int .i64 v1)), (2, sv2), (9, s33), (10, (.int .i64 v10))] [codeC Tryz.prog 23 [1, 1, 1, 1, 0, 1, 0, 0], loopC Tryz.prog 23 [1, 1, 1, 1, 0, 1, 0, 0], .inBlock 0, codeC Tryz.prog 23 [1, 1, 1, 1, 1]] M) : ∀ (v0 : (List S_api_Site)) (v1 : Int) (v2 : (List S_api_Arrival)) (v10 : Int) (l67 : (List Int)) (sv0 sv2 s67 : SV) (Fr : Rd) (M : Mem) (r : (List Int) × Int) (hv0 : Slc Fr 10 (FlatR enc105) sv0 v0) (hv2 : Slc Fr 3 (FlatR enc67) sv2 v2) (hH : Has Fr M [.vec 3 1 l67.length s67 (l67.flatMap enc3)]), ref09_Fits_5 F hd1 v0 v1 v2 v10 l67 = some r → Run Tryz.prog ⟨⟨23, [], none⟩, []⟩ 92 (ref09_Fits_post r) [(0, sv0), (1, (.int .i64 v1)), (2, sv2), (9, s67), (10, (.int .i64 v10))] [itemC Tryz.prog 23 [1, 1, 1, 1, 0, 1, 0, 0, 1, 1] 0, loopC Tryz.prog 23 [1, 1, 1, 1, 0, 1, 0, 0], .inBlock 0, codeC Tryz.prog 23 [1, 1, 1, 1, 1]] M := by
  intro v0 v1 v2 v10 l67 sv0 sv2 s67 Fr M r hv0 hv2 hH h
  rw [ref09_Fits_5] at h
  refine Run.opG wantS_none (ex_move rfl) rfl ?_
  refine Run.opG wantS_none (ex_add rfl rfl) rfl ?_
  refine Run.opG wantS_none (ex_assign rfl) rfl ?_
  refine Run.opsEnd (Run.inLoop ?_)
  exact Run.pick [0, 1, 2, 9, 10] (hhd1 v0 v1 v2 (w64 (v10 + (1 : Int))) l67 sv0 sv2 s67 _ _ _ hv0 hv2 hH h)

def ref09_Fits_2 (F : Nat) (hd1 : (List S_api_Site) → Int → (List S_api_Arrival) → Int → (List Int) → Option ((List Int) × Int)) : Nat → (List S_api_Site) → Int → (List S_api_Arrival) → Int → Bool → Int → (List Int) → Option ((List Int) × Int)
  | 0, _, _, _, _, _, _, _ => none
  | N + 1, v0, v1, v2, v10, v11, v12, l33 =>
    bif (decide (v12 < (v2.length : Int))) then
      ref09_Fits_3 F (ref09_Fits_2 F hd1 N) F v0 v1 v2 v10 v11 v12 (0 : Int) l33
    else
      bif v11 then
        bnd (apd 8 l33 ([v10] : List Int)) fun l66 =>
        ref09_Fits_5 F hd1 v0 v1 v2 v10 l66
      else
        ref09_Fits_5 F hd1 v0 v1 v2 v10 l33

theorem ref09_Fits_2_ok (F : Nat) (hd1 : (List S_api_Site) → Int → (List S_api_Arrival) → Int → (List Int) → Option ((List Int) × Int)) (hhd1 : ∀ (v0 : (List S_api_Site)) (v1 : Int) (v2 : (List S_api_Arrival)) (v10 : Int) (l33 : (List Int)) (sv0 sv2 s33 : SV) (Fr : Rd) (M : Mem) (r : (List Int) × Int) (hv0 : Slc Fr 10 (FlatR enc105) sv0 v0) (hv2 : Slc Fr 3 (FlatR enc67) sv2 v2) (hH : Has Fr M [.vec 3 1 l33.length s33 (l33.flatMap enc3)]), hd1 v0 v1 v2 v10 l33 = some r → Run Tryz.prog ⟨⟨23, [], none⟩, []⟩ 92 (ref09_Fits_post r) [(0, sv0), (1, (.int .i64 v1)), (2, sv2), (9, s33), (10, (.int .i64 v10))] [codeC Tryz.prog 23 [1, 1, 1, 1, 0, 1, 0, 0], loopC Tryz.prog 23 [1, 1, 1, 1, 0, 1, 0, 0], .inBlock 0, codeC Tryz.prog 23 [1, 1, 1, 1, 1]] M) : ∀ (N : Nat), ∀ (v0 : (List S_api_Site)) (v1 : Int) (v2 : (List S_api_Arrival)) (v10 : Int) (v11 : Bool) (v12 : Int) (l33 : (List Int)) (sv0 sv2 s33 : SV) (Fr : Rd) (M : Mem) (r : (List Int) × Int) (hv0 : Slc Fr 10 (FlatR enc105) sv0 v0) (hv2 : Slc Fr 3 (FlatR enc67) sv2 v2) (hH : Has Fr M [.vec 3 1 l33.length s33 (l33.flatMap enc3)]), ref09_Fits_2 F hd1 N v0 v1 v2 v10 v11 v12 l33 = some r → Run Tryz.prog ⟨⟨23, [], none⟩, []⟩ 92 (ref09_Fits_post r) [(0, sv0), (1, (.int .i64 v1)), (2, sv2), (9, s33), (10, (.int .i64 v10)), (11, (.bool v11)), (12, (.int .i64 v12))] [codeC Tryz.prog 23 [1, 1, 1, 1, 0, 1, 0, 0, 1, 0, 0, 1, 0, 1, 0, 0], loopC Tryz.prog 23 [1, 1, 1, 1, 0, 1, 0, 0, 1, 0, 0, 1, 0, 1, 0, 0], .inBlock 2, codeC Tryz.prog 23 [1, 1, 1, 1, 0, 1, 0, 0, 1, 0, 0, 1, 1], .inBlock 1, codeC Tryz.prog 23 [1, 1, 1, 1, 0, 1, 0, 0, 1, 1], loopC Tryz.prog 23 [1, 1, 1, 1, 0, 1, 0, 0], .inBlock 0, codeC Tryz.prog 23 [1, 1, 1, 1, 1]] M := by
  intro N
  induction N with
  | zero =>
    intro v0 v1 v2 v10 v11 v12 l33 sv0 sv2 s33 Fr M r hv0 hv2 hH h
    simp [ref09_Fits_2] at h
  | succ N ih =>
    intro v0 v1 v2 v10 v11 v12 l33 sv0 sv2 s33 Fr M r hv0 hv2 hH h
    rw [ref09_Fits_2] at h
    refine Run.seq (Run.seq (Run.region ?_))
    refine Run.opG wantS_none (ex_move rfl) rfl ?_
    refine Run.opG wantS_none (ex_move rfl) rfl ?_
    refine Run.opG wantS_none (ex_len' rfl hv2 lenk35) rfl ?_
    refine Run.opG wantS_none (ex_lss rfl rfl) rfl ?_
    refine Run.opsEnd ?_
    rcases btf ((decide (v12 < (v2.length : Int)))) with hc39 | hc39
    · have h := bif_t hc39 h
      refine Run.condT' rfl hc39 ?_
      refine Run.skip (Run.seq (Run.block (Run.seq (Run.region ?_))))
      refine Run.opG wantS_none (ex_assign rfl) rfl ?_
      refine Run.opsEnd (Run.block (Run.loop ?_))
      exact Run.pick [0, 1, 2, 9, 10, 11, 12, 13] (ref09_Fits_3_ok F (ref09_Fits_2 F hd1 N) ih F v0 v1 v2 v10 v11 v12 (0 : Int) l33 sv0 sv2 s33 _ _ _ hv0 hv2 hH h)
    · have h := bif_f hc39 h
      refine Run.condF' rfl hc39 ?_
      refine Run.exit rfl (Run.seq (Run.region ?_))
      refine Run.opG wantS_none (ex_move rfl) rfl ?_
      refine Run.opsEnd ?_
      rcases btf (v11) with hc60 | hc60
      · have h := bif_t hc60 h
        refine Run.condT' rfl hc60 ?_
        refine Run.region ?_
        refine Run.opG wantS_none (ex_move rfl) rfl ?_
        refine Run.opG wantS_none (ex_move rfl) rfl ?_
        refine Run.opX wantS_none rfl (ExG.built (enc := enc3) (l := ([v10] : List Int)) (z := 1) rfl elt36 rfl rfl rfl enc3_len hH) ?_
        rintro s62 M63 (hH63 : Has Fr M63 [.vec 3 1 ([v10] : List Int).length s62 (([v10] : List Int).flatMap enc3), .vec 3 1 l33.length s33 (l33.flatMap enc3)])
        obtain ⟨l66, hl66, h⟩ := bnd_some h
        refine Run.opX wantS_none rfl (ExG.append rfl rfl hH63 (i := 1) rfl enc3_len rfl enc3_ones appt36_36 rfl (len_slc (hH63.slc (i := 0) rfl enc3_len)) (first_slc (hH63.slc (i := 0) rfl enc3_len) (rdLe_rdRow _) enc3_len) hl66) ?_
        rintro s66 M68 (hH68 : Has Fr M68 [.vec 3 1 ([v10] : List Int).length s62 (([v10] : List Int).flatMap enc3), .vec 3 1 l66.length s66 (l66.flatMap enc3)])
        refine Run.opG wantS_none (ex_assign rfl) rfl ?_
        refine Run.opsEnd (Run.inBlock (Run.region ?_))
        exact Run.pick [0, 1, 2, 9, 10] (ref09_Fits_5_ok F hd1 hhd1 v0 v1 v2 v10 l66 sv0 sv2 s66 _ _ _ hv0 hv2 (hH68.pick [1] rfl rfl) h)
      · have h := bif_f hc60 h
        refine Run.condF' rfl hc60 ?_
        refine Run.skip (Run.inBlock (Run.region ?_))
        exact Run.pick [0, 1, 2, 9, 10] (ref09_Fits_5_ok F hd1 hhd1 v0 v1 v2 v10 l33 sv0 sv2 s33 _ _ _ hv0 hv2 hH h)

def ref09_Fits_1 (F : Nat) : Nat → (List S_api_Site) → Int → (List S_api_Arrival) → Int → (List Int) → Option ((List Int) × Int)
  | 0, _, _, _, _, _ => none
  | N + 1, v0, v1, v2, v10, l33 =>
    bnd (ref09_cells F v1) fun r36 =>
    bif (decide (v10 < r36)) then
      ref09_Fits_2 F (ref09_Fits_1 F N) F v0 v1 v2 v10 true (0 : Int) l33
    else
      some (l33, (0 : Int))

theorem ref09_Fits_1_ok (F : Nat) : ∀ (N : Nat), ∀ (v0 : (List S_api_Site)) (v1 : Int) (v2 : (List S_api_Arrival)) (v10 : Int) (l33 : (List Int)) (sv0 sv2 s33 : SV) (Fr : Rd) (M : Mem) (r : (List Int) × Int) (hv0 : Slc Fr 10 (FlatR enc105) sv0 v0) (hv2 : Slc Fr 3 (FlatR enc67) sv2 v2) (hH : Has Fr M [.vec 3 1 l33.length s33 (l33.flatMap enc3)]), ref09_Fits_1 F N v0 v1 v2 v10 l33 = some r → Run Tryz.prog ⟨⟨23, [], none⟩, []⟩ 92 (ref09_Fits_post r) [(0, sv0), (1, (.int .i64 v1)), (2, sv2), (9, s33), (10, (.int .i64 v10))] [codeC Tryz.prog 23 [1, 1, 1, 1, 0, 1, 0, 0], loopC Tryz.prog 23 [1, 1, 1, 1, 0, 1, 0, 0], .inBlock 0, codeC Tryz.prog 23 [1, 1, 1, 1, 1]] M := by
  intro N
  induction N with
  | zero =>
    intro v0 v1 v2 v10 l33 sv0 sv2 s33 Fr M r hv0 hv2 hH h
    simp [ref09_Fits_1] at h
  | succ N ih =>
    intro v0 v1 v2 v10 l33 sv0 sv2 s33 Fr M r hv0 hv2 hH h
    rw [ref09_Fits_1] at h
    refine Run.seq (Run.seq (Run.region ?_))
    refine Run.opG wantS_none (ex_move rfl) rfl ?_
    refine Run.opG wantS_none (ex_move rfl) rfl ?_
    obtain ⟨r36, hr36, h⟩ := bnd_some h
    refine Run.callP wantS_none (ex_call rfl mkk50 cal50) rfl (ref09_cells_ok F v1 _ _ hr36) ?_
    refine Run.opG wantS_none (ex_lss rfl rfl) rfl ?_
    refine Run.opsEnd ?_
    rcases btf ((decide (v10 < r36))) with hc38 | hc38
    · have h := bif_t hc38 h
      refine Run.condT' rfl hc38 ?_
      refine Run.skip (Run.seq (Run.block (Run.seq (Run.region ?_))))
      refine Run.opG wantS_none (ex_assign rfl) rfl ?_
      refine Run.opsEnd (Run.seq (Run.seq (Run.region ?_)))
      refine Run.opG wantS_none (ex_assign rfl) rfl ?_
      refine Run.opsEnd (Run.block (Run.loop ?_))
      exact Run.pick [0, 1, 2, 9, 10, 11, 12] (ref09_Fits_2_ok F (ref09_Fits_1 F N) ih F v0 v1 v2 v10 true (0 : Int) l33 sv0 sv2 s33 _ _ _ hv0 hv2 hH h)
    · have h := bif_f hc38 h
      refine Run.condF' rfl hc38 ?_
      refine Run.exit rfl (Run.seq (Run.region ?_))
      refine Run.opG wantS_none (ex_move rfl) rfl ?_
      refine Run.opG wantS_none (ex_assign rfl) rfl ?_
      refine Run.opG wantS_none (ex_assign rfl) rfl ?_
      refine Run.opsEnd ?_
      cases h
      exact Run.ret Tryz.func23 rfl (res_tmp rfl (res_tmp rfl res_nil)) ⟨_, rfl, (hH.pick [0] rfl rfl).upF (none_le _)⟩

def ref09_Fits (F : Nat) (a0 : (List S_api_Site)) (a1 : Int) (a2 : (List S_api_Arrival)) : Option ((List Int) × Int) :=
  bnd (ref09_placed F a0 a1 (0 : Int)) fun r22 =>
  bif (!(r22 == (0 : Int))) then
    some (([] : List Int), r22)
  else
    bnd (ref09_arrivals F a0 a2) fun r28 =>
    bif (!r28) then
      some (([] : List Int), (92 : Int))
    else
      ref09_Fits_1 F F a0 a1 a2 (0 : Int) ([] : List Int)

theorem ref09_Fits_ok (F : Nat) (a0 : (List S_api_Site)) (a1 : Int) (a2 : (List S_api_Arrival)) (s0 s1 : SV) (r : (List Int) × Int) (M : Mem) (hs0 : Slc (rd M) 10 (FlatR enc105) s0 a0) (hs1 : Slc (rd M) 3 (FlatR enc67) s1 a2) (h : ref09_Fits F a0 a1 a2 = some r) : CallsM Tryz.prog 23 [s0, (.int .i64 a1), s1] M (fun s M' => ∃ q1, s = (.tuple [q1, (.int .i64 r.2)]) ∧ New M M' [.vec 3 1 r.1.length q1 (r.1.flatMap enc3)]) := by
  refine CallsM.fresh (Q := ref09_Fits_post r) Tryz.func23 rfl rfl ?_ (by rintro s Me ⟨q1, rfl, hx⟩ ha hw; exact ⟨_, rfl, New.of rfl hx ha hw⟩)
  rw [ref09_Fits] at h
  replace hs0 := hs0.mono (rdLe_frozen M) (fun _ _ h => h)
  replace hs1 := hs1.mono (rdLe_frozen M) (fun _ _ h => h)
  have hH := Has.nil (frozen M)
  refine Run.seq (Run.region ?_)
  refine Run.opG wantS_none (ex_assign rfl) rfl ?_
  refine Run.opG wantS_none (ex_assign rfl) rfl ?_
  refine Run.opsEnd (Run.seq (Run.seq (Run.region ?_)))
  refine Run.opG wantS_none (ex_move rfl) rfl ?_
  refine Run.opG wantS_none (ex_move rfl) rfl ?_
  obtain ⟨r22, hr22, h⟩ := bnd_some h
  refine Run.callP wantS_none (ex_call rfl mkk68 cal68) rfl (ref09_placed_ok F a0 a1 (0 : Int) s0 _ _ (hH.slcF hs0) hr22) ?_
  refine Run.opG wantS_none (ex_assign rfl) rfl ?_
  refine Run.opsEnd (Run.seq (Run.region ?_))
  refine Run.opG wantS_none (ex_move rfl) rfl ?_
  refine Run.opG wantS_none (ex_neq rfl rfl) rfl ?_
  refine Run.opsEnd ?_
  rcases btf ((!(r22 == (0 : Int)))) with hc24 | hc24
  · have h := bif_t hc24 h
    refine Run.condT' rfl hc24 ?_
    refine Run.seq (Run.region ?_)
    refine Run.opG wantS_none (ex_move rfl) rfl ?_
    refine Run.opG wantS_none (ex_assign rfl) rfl ?_
    refine Run.opG wantS_none (ex_assign rfl) rfl ?_
    refine Run.opsEnd ?_
    have hH26 : Has (ro (frozen M)) (frozen M) [.vec 3 1 ([] : List Int).length .nils (([] : List Int).flatMap enc3)] := hH.nils 3 1
    cases h
    exact Run.ret Tryz.func23 rfl (res_tmp rfl (res_tmp rfl res_nil)) ⟨_, rfl, (hH26.pick [0] rfl rfl).upF (none_le _)⟩
  · have h := bif_f hc24 h
    refine Run.condF' rfl hc24 ?_
    refine Run.skip (Run.seq (Run.seq (Run.region ?_)))
    refine Run.opG wantS_none (ex_move rfl) rfl ?_
    refine Run.opG wantS_none (ex_move rfl) rfl ?_
    obtain ⟨r28, hr28, h⟩ := bnd_some h
    refine Run.callP wantS_none (ex_call rfl mkk73 cal73) rfl (ref09_arrivals_ok F a0 a2 s0 s1 _ _ (hH.slcF hs0) (hH.slcF hs1) hr28) ?_
    refine Run.opG wantS_none (ex_not rfl) rfl ?_
    refine Run.opsEnd ?_
    rcases btf ((!r28)) with hc30 | hc30
    · have h := bif_t hc30 h
      refine Run.condT' rfl hc30 ?_
      refine Run.seq (Run.region ?_)
      refine Run.opG wantS_none (ex_assign rfl) rfl ?_
      refine Run.opG wantS_none (ex_assign rfl) rfl ?_
      refine Run.opsEnd ?_
      have hH32 : Has (ro (frozen M)) (frozen M) [.vec 3 1 ([] : List Int).length .nils (([] : List Int).flatMap enc3)] := hH.nils 3 1
      cases h
      exact Run.ret Tryz.func23 rfl (res_tmp rfl (res_tmp rfl res_nil)) ⟨_, rfl, (hH32.pick [0] rfl rfl).upF (none_le _)⟩
    · have h := bif_f hc30 h
      refine Run.condF' rfl hc30 ?_
      refine Run.skip (Run.seq (Run.region ?_))
      refine Run.opG wantS_none (ex_assign rfl) rfl ?_
      refine Run.opsEnd (Run.seq (Run.seq (Run.region ?_)))
      refine Run.opG wantS_none (ex_assign rfl) rfl ?_
      refine Run.opsEnd (Run.block (Run.loop ?_))
      have hH34 : Has (ro (frozen M)) (frozen M) [.vec 3 1 ([] : List Int).length .nils (([] : List Int).flatMap enc3)] := hH.nils 3 1
      exact Run.pick [0, 1, 2, 9, 10] (ref09_Fits_1_ok F F a0 a1 a2 (0 : Int) ([] : List Int) s0 s1 .nils _ _ _ hs0 hs1 hH34 h)

theorem mkk23 : makeK Tryz.prog 23 = none := by kernel_rfl
theorem cal23 : callable Tryz.prog 23 = true := by kernel_rfl
theorem mkk18 : makeK Tryz.prog 18 = none := by kernel_rfl
theorem cal18 : callable Tryz.prog 18 = true := by kernel_rfl
abbrev law09_SkyRings_post (r : Bool) : SV → Mem → Prop := fun s _ => s = (.bool r)

def law09_SkyRings_3 (F : Nat) (v80 : Bool) : Option (Bool) :=
  some v80

theorem law09_SkyRings_3_ok (F : Nat) : ∀ (v80 : Bool) (Fr : Rd) (M : Mem) (r : Bool) (hH : Has Fr M [tb0, tb1, tb2]), law09_SkyRings_3 F v80 = some r → Run Tryz.prog ⟨⟨4, [], none⟩, []⟩ 81 (law09_SkyRings_post r) [(80, (.bool v80))] [itemC Tryz.prog 4 [1, 1, 1, 1, 1, 1, 0] 11, codeC Tryz.prog 4 [1, 1, 1, 1, 1, 1, 1]] M := by
  intro v80 Fr M r hH h
  rw [law09_SkyRings_3] at h
  refine Run.opG wantS_none (ex_assign rfl) rfl ?_
  refine Run.opsEnd ?_
  cases h
  exact Run.ret Tryz.func4 rfl (res_tmp rfl res_nil) rfl

def law09_SkyRings_2 (F : Nat) (v77 : Bool) : Option (Bool) :=
  bif v77 then
    bnd (works F) fun r77 =>
    law09_SkyRings_3 F r77
  else
    law09_SkyRings_3 F false

theorem law09_SkyRings_2_ok (F : Nat) : ∀ (v77 : Bool) (Fr : Rd) (M : Mem) (r : Bool) (hH : Has Fr M [tb0, tb1, tb2]), law09_SkyRings_2 F v77 = some r → Run Tryz.prog ⟨⟨4, [], none⟩, []⟩ 81 (law09_SkyRings_post r) [(77, (.bool v77))] [itemC Tryz.prog 4 [1, 1, 1, 1, 1, 1, 0] 8, codeC Tryz.prog 4 [1, 1, 1, 1, 1, 1, 1]] M := by
  intro v77 Fr M r hH h
  rw [law09_SkyRings_2] at h
  refine Run.opG wantS_none (ex_move rfl) rfl ?_
  rcases btf (v77) with hc75 | hc75
  · have h := bif_t hc75 h
    obtain ⟨r77, hr77, h⟩ := bnd_some h
    refine Run.callP (wantS_yes' rfl rfl hc75) (ex_call rfl mkk18 cal18) rfl (works_ok F r77 _ hH (List.mem_of_getElem? (i := 0) rfl) (List.mem_of_getElem? (i := 1) rfl) (List.mem_of_getElem? (i := 2) rfl) hr77) ?_
    refine Run.opG wantS_none (ex_pickT' rfl hc75 rfl rfl) rfl ?_
    exact Run.pick [80] (law09_SkyRings_3_ok F r77 _ _ _ hH h)
  · have h := bif_f hc75 h
    refine Run.no (wantS_not' rfl rfl hc75) rfl ?_
    refine Run.opG wantS_none (ex_pickF' rfl hc75 rfl rfl) rfl ?_
    exact Run.pick [80] (law09_SkyRings_3_ok F false _ _ _ hH h)

def law09_SkyRings_1 (F : Nat) (v2 : (List S_api_Arrival)) (v51 : Bool) (c25_0 : (List S_api_Site)) (c25_1 c25_2 : Int) : Option (Bool) :=
  bif v51 then
    some false
  else
    bnd (sky_Fits F c25_0 c25_1 v2) fun r63 =>
    bnd (ref09_Fits F c25_0 c25_1 v2) fun r68 =>
    bnd (ref00_SameInts F r63.1 r68.1) fun r72 =>
    bif r72 then
      law09_SkyRings_2 F (r63.2 == r68.2)
    else
      law09_SkyRings_2 F false

theorem law09_SkyRings_1_ok (F : Nat) : ∀ (v2 : (List S_api_Arrival)) (v51 : Bool) (c25_0 : (List S_api_Site)) (c25_1 c25_2 : Int) (sv2 sc25_0 : SV) (b25 : Pos) (Fr : Rd) (M : Mem) (r : Bool) (hv2 : Slc Fr 3 (FlatR enc67) sv2 v2) (hc25_0 : Slc Fr 10 (FlatR enc105) sc25_0 c25_0) (hH : Has Fr M [.obj b25 (.row 33 .whole [sc25_0, (.int .i64 c25_1), (.int .i64 c25_2)]), tb0, tb1, tb2]), law09_SkyRings_1 F v2 v51 c25_0 c25_1 c25_2 = some r → Run Tryz.prog ⟨⟨4, [], none⟩, []⟩ 81 (law09_SkyRings_post r) [(2, sv2), (3, (.ptr b25 0)), (51, (.bool v51))] [codeC Tryz.prog 4 [1, 1, 1, 0, 1], codeC Tryz.prog 4 [1, 1, 1, 1]] M := by
  intro v2 v51 c25_0 c25_1 c25_2 sv2 sc25_0 b25 Fr M r hv2 hc25_0 hH h
  rw [law09_SkyRings_1] at h
  rcases btf (v51) with hc60 | hc60
  · have h := bif_t hc60 h
    refine Run.condT' rfl hc60 ?_
    refine Run.seq (Run.region ?_)
    refine Run.opG wantS_none (ex_assign rfl) rfl ?_
    refine Run.opsEnd ?_
    cases h
    exact Run.ret Tryz.func4 rfl (res_tmp rfl res_nil) rfl
  · have h := bif_f hc60 h
    refine Run.condF' rfl hc60 ?_
    refine Run.skip (Run.seq (Run.region ?_))
    refine Run.opG wantS_none (ex_fieldAddr rfl off33_0) rfl ?_
    refine Run.opG wantS_none (ex_load1 rfl (hH.cells (i := 0) rfl 0 rfl) rdLe_rfl agg31) rfl ?_
    refine Run.opG wantS_none (ex_fieldAddr rfl off33_1) rfl ?_
    refine Run.opG wantS_none (ex_load1 rfl (hH.cells (i := 0) rfl 1 rfl) rdLe_rfl agg3) rfl ?_
    refine Run.opG wantS_none (ex_move rfl) rfl ?_
    obtain ⟨r63, hr63, h⟩ := bnd_some h
    refine Run.callX wantS_none (ex_call rfl mkk22 cal22) rfl (sky_Fits_ok F c25_0 c25_1 v2 sc25_0 sv2 _ _ (hH.slcF hc25_0) (hH.slcF hv2) hr63) ?_
    rintro _ M65 ⟨s63_0, rfl, hN63⟩
    have hH65 : Has Fr M65 [.vec 3 1 r63.1.length s63_0 (r63.1.flatMap enc3), .obj b25 (.row 33 .whole [sc25_0, (.int .i64 c25_1), (.int .i64 c25_2)]), tb0, tb1, tb2] := hN63.1 _ _ hH
    refine Run.opG wantS_none (ex_move rfl) rfl ?_
    refine Run.opG wantS_none (ex_extract rfl rfl) rfl ?_
    refine Run.opG wantS_none (ex_extract rfl rfl) rfl ?_
    refine Run.opG wantS_none (ex_assign rfl) rfl ?_
    refine Run.opG wantS_none (ex_assign rfl) rfl ?_
    refine Run.opsEnd (Run.seq (Run.region ?_))
    refine Run.opG wantS_none (ex_fieldAddr rfl off33_0) rfl ?_
    refine Run.opG wantS_none (ex_load1 rfl (hH65.cells (i := 1) rfl 0 rfl) rdLe_rfl agg31) rfl ?_
    refine Run.opG wantS_none (ex_fieldAddr rfl off33_1) rfl ?_
    refine Run.opG wantS_none (ex_load1 rfl (hH65.cells (i := 1) rfl 1 rfl) rdLe_rfl agg3) rfl ?_
    refine Run.opG wantS_none (ex_move rfl) rfl ?_
    obtain ⟨r68, hr68, h⟩ := bnd_some h
    refine Run.callX wantS_none (ex_call rfl mkk23 cal23) rfl (ref09_Fits_ok F c25_0 c25_1 v2 sc25_0 sv2 _ _ (hH65.slcF hc25_0) (hH65.slcF hv2) hr68) ?_
    rintro _ M70 ⟨s68_0, rfl, hN68⟩
    have hH70 : Has Fr M70 [.vec 3 1 r68.1.length s68_0 (r68.1.flatMap enc3), .vec 3 1 r63.1.length s63_0 (r63.1.flatMap enc3), .obj b25 (.row 33 .whole [sc25_0, (.int .i64 c25_1), (.int .i64 c25_2)]), tb0, tb1, tb2] := hN68.1 _ _ hH65
    refine Run.opG wantS_none (ex_move rfl) rfl ?_
    refine Run.opG wantS_none (ex_extract rfl rfl) rfl ?_
    refine Run.opG wantS_none (ex_extract rfl rfl) rfl ?_
    refine Run.opG wantS_none (ex_assign rfl) rfl ?_
    refine Run.opG wantS_none (ex_assign rfl) rfl ?_
    refine Run.opsEnd (Run.seq (Run.region ?_))
    refine Run.opG wantS_none (ex_move rfl) rfl ?_
    refine Run.opG wantS_none (ex_move rfl) rfl ?_
    obtain ⟨r72, hr72, h⟩ := bnd_some h
    refine Run.callP wantS_none (ex_call rfl mkk21 cal21) rfl (ref00_SameInts_ok F r63.1 r68.1 s63_0 s68_0 _ _ (hH70.slc (i := 1) rfl enc3_len) (hH70.slc (i := 0) rfl enc3_len) hr72) ?_
    refine Run.opG wantS_none (ex_move rfl) rfl ?_
    rcases btf (r72) with hc74 | hc74
    · have h := bif_t hc74 h
      refine Run.opG (wantS_yes' rfl rfl hc74) (ex_move rfl) rfl ?_
      refine Run.opG (wantS_yes' rfl rfl hc74) (ex_move rfl) rfl ?_
      refine Run.opG (wantS_yes' rfl rfl hc74) (ex_eql rfl rfl) rfl ?_
      refine Run.opG wantS_none (ex_pickT' rfl hc74 rfl rfl) rfl ?_
      exact Run.pick [77] (law09_SkyRings_2_ok F (r63.2 == r68.2) _ _ _ (hH70.pick [3, 4, 5] rfl rfl) h)
    · have h := bif_f hc74 h
      refine Run.no (wantS_not' rfl rfl hc74) rfl ?_
      refine Run.no (wantS_not' rfl rfl hc74) rfl ?_
      refine Run.no (wantS_not' rfl rfl hc74) rfl ?_
      refine Run.opG wantS_none (ex_pickF' rfl hc74 rfl rfl) rfl ?_
      exact Run.pick [77] (law09_SkyRings_2_ok F false _ _ _ (hH70.pick [3, 4, 5] rfl rfl) h)

def law09_SkyRings (F : Nat) (a0 : S_ringdownlaw09_Net) (a1 : S__4_int) (a2 : (List S_api_Arrival)) : Option (Bool) :=
  bnd (sky_Ring F a0.L a0.N a1.e0 a1.e1 a1.e2 a1.e3) fun r40 =>
  bnd (ref09_Ring F a0.L a0.N a1.e0 a1.e1 a1.e2 a1.e3) fun r53 =>
  bnd (ref00_SameInts F r40.1 r53.1) fun r57 =>
  bif (!r57) then
    law09_SkyRings_1 F a2 true a0.L a0.N a0.Cell
  else
    law09_SkyRings_1 F a2 (!(r40.2 == r53.2)) a0.L a0.N a0.Cell

theorem law09_SkyRings_run (F : Nat) (a0 : S_ringdownlaw09_Net) (a1 : S__4_int) (a2 : (List S_api_Arrival)) (s0 s1 : SV) (r : Bool) (M : Mem) (hs0 : Slc (rd M) 10 (FlatR enc105) s0 a0.L) (hs1 : Slc (rd M) 3 (FlatR enc67) s1 a2) (hfx : FixIn M fixes) (h : law09_SkyRings F a0 a1 a2 = some r) : Run Tryz.prog (fx0 4) 81 (law09_SkyRings_post r) [(0, (.agg [s0, (.int .i64 a0.N), (.int .i64 a0.Cell)])), (1, (.agg [(.int .i64 a1.e0), (.int .i64 a1.e1), (.int .i64 a1.e2), (.int .i64 a1.e3)])), (2, s1)] [codeC Tryz.prog 4 []] (frozen M) := by
  rw [law09_SkyRings] at h
  replace hs0 := hs0.mono (rdLe_frozen M) (fun _ _ h => h)
  replace hs1 := hs1.mono (rdLe_frozen M) (fun _ _ h => h)
  have hH : Has (ro (frozen M)) (frozen M) [tb0, tb1, tb2] := Has.ofFix hfx.frozen
  refine Run.seq (Run.region ?_)
  refine Run.opX wantS_none rfl (ExG.box rfl rfl hH) ?_
  rintro _ M26 ⟨b25, rfl, hH26⟩
  refine Run.opX wantS_none rfl (ExG.box rfl rfl hH26) ?_
  rintro _ M29 ⟨b28, rfl, hH29⟩
  refine Run.opG wantS_none (ex_assign rfl) rfl ?_
  refine Run.opsEnd (Run.seq (Run.region ?_))
  refine Run.opG wantS_none (ex_fieldAddr rfl off33_0) rfl ?_
  refine Run.opG wantS_none (ex_load1 rfl (hH29.cells (i := 1) rfl 0 rfl) rdLe_rfl agg31) rfl ?_
  refine Run.opG wantS_none (ex_fieldAddr rfl off33_1) rfl ?_
  refine Run.opG wantS_none (ex_load1 rfl (hH29.cells (i := 1) rfl 1 rfl) rdLe_rfl agg3) rfl ?_
  refine Run.opG wantS_none (ex_elX rfl rfl (arr_place (j := 0) rfl els34)) rfl ?_
  refine Run.opG wantS_none (ex_load1 rfl (hH29.cells (i := 0) rfl 0 rfl) rdLe_rfl agg3) rfl ?_
  refine Run.opG wantS_none (ex_elX rfl rfl (arr_place (j := 1) rfl els34)) rfl ?_
  refine Run.opG wantS_none (ex_load1 rfl (hH29.cells (i := 0) rfl 1 rfl) rdLe_rfl agg3) rfl ?_
  refine Run.opG wantS_none (ex_elX rfl rfl (arr_place (j := 2) rfl els34)) rfl ?_
  refine Run.opG wantS_none (ex_load1 rfl (hH29.cells (i := 0) rfl 2 rfl) rdLe_rfl agg3) rfl ?_
  refine Run.opG wantS_none (ex_elX rfl rfl (arr_place (j := 3) rfl els34)) rfl ?_
  refine Run.opG wantS_none (ex_load1 rfl (hH29.cells (i := 0) rfl 3 rfl) rdLe_rfl agg3) rfl ?_
  obtain ⟨r40, hr40, h⟩ := bnd_some h
  refine Run.callX wantS_none (ex_call rfl mkk19 cal19) rfl (sky_Ring_ok F a0.L a0.N a1.e0 a1.e1 a1.e2 a1.e3 s0 _ _ (hH29.slcF hs0) hr40) ?_
  rintro _ M42 ⟨s40_0, rfl, hN40⟩
  have hH42 : Has (ro (frozen M)) M42 [.vec 3 1 r40.1.length s40_0 (r40.1.flatMap enc3), .obj b28 (.row 34 .whole [(.int .i64 a1.e0), (.int .i64 a1.e1), (.int .i64 a1.e2), (.int .i64 a1.e3)]), .obj b25 (.row 33 .whole [s0, (.int .i64 a0.N), (.int .i64 a0.Cell)]), tb0, tb1, tb2] := hN40.1 _ _ hH29
  refine Run.opG wantS_none (ex_move rfl) rfl ?_
  refine Run.opG wantS_none (ex_extract rfl rfl) rfl ?_
  refine Run.opG wantS_none (ex_extract rfl rfl) rfl ?_
  refine Run.opG wantS_none (ex_assign rfl) rfl ?_
  refine Run.opG wantS_none (ex_assign rfl) rfl ?_
  refine Run.opsEnd (Run.seq (Run.region ?_))
  refine Run.opG wantS_none (ex_fieldAddr rfl off33_0) rfl ?_
  refine Run.opG wantS_none (ex_load1 rfl (hH42.cells (i := 2) rfl 0 rfl) rdLe_rfl agg31) rfl ?_
  refine Run.opG wantS_none (ex_fieldAddr rfl off33_1) rfl ?_
  refine Run.opG wantS_none (ex_load1 rfl (hH42.cells (i := 2) rfl 1 rfl) rdLe_rfl agg3) rfl ?_
  refine Run.opG wantS_none (ex_elX rfl rfl (arr_place (j := 0) rfl els34)) rfl ?_
  refine Run.opG wantS_none (ex_load1 rfl (hH42.cells (i := 1) rfl 0 rfl) rdLe_rfl agg3) rfl ?_
  refine Run.opG wantS_none (ex_elX rfl rfl (arr_place (j := 1) rfl els34)) rfl ?_
  refine Run.opG wantS_none (ex_load1 rfl (hH42.cells (i := 1) rfl 1 rfl) rdLe_rfl agg3) rfl ?_
  refine Run.opG wantS_none (ex_elX rfl rfl (arr_place (j := 2) rfl els34)) rfl ?_
  refine Run.opG wantS_none (ex_load1 rfl (hH42.cells (i := 1) rfl 2 rfl) rdLe_rfl agg3) rfl ?_
  refine Run.opG wantS_none (ex_elX rfl rfl (arr_place (j := 3) rfl els34)) rfl ?_
  refine Run.opG wantS_none (ex_load1 rfl (hH42.cells (i := 1) rfl 3 rfl) rdLe_rfl agg3) rfl ?_
  obtain ⟨r53, hr53, h⟩ := bnd_some h
  refine Run.callX wantS_none (ex_call rfl mkk20 cal20) rfl (ref09_Ring_ok F a0.L a0.N a1.e0 a1.e1 a1.e2 a1.e3 s0 _ _ (hH42.slcF hs0) hr53) ?_
  rintro _ M55 ⟨s53_0, rfl, hN53⟩
  have hH55 : Has (ro (frozen M)) M55 [.vec 3 1 r53.1.length s53_0 (r53.1.flatMap enc3), .vec 3 1 r40.1.length s40_0 (r40.1.flatMap enc3), .obj b28 (.row 34 .whole [(.int .i64 a1.e0), (.int .i64 a1.e1), (.int .i64 a1.e2), (.int .i64 a1.e3)]), .obj b25 (.row 33 .whole [s0, (.int .i64 a0.N), (.int .i64 a0.Cell)]), tb0, tb1, tb2] := hN53.1 _ _ hH42
  refine Run.opG wantS_none (ex_move rfl) rfl ?_
  refine Run.opG wantS_none (ex_extract rfl rfl) rfl ?_
  refine Run.opG wantS_none (ex_extract rfl rfl) rfl ?_
  refine Run.opG wantS_none (ex_assign rfl) rfl ?_
  refine Run.opG wantS_none (ex_assign rfl) rfl ?_
  refine Run.opsEnd (Run.seq (Run.seq (Run.region ?_)))
  refine Run.opG wantS_none (ex_move rfl) rfl ?_
  refine Run.opG wantS_none (ex_move rfl) rfl ?_
  obtain ⟨r57, hr57, h⟩ := bnd_some h
  refine Run.callP wantS_none (ex_call rfl mkk21 cal21) rfl (ref00_SameInts_ok F r40.1 r53.1 s40_0 s53_0 _ _ (hH55.slc (i := 1) rfl enc3_len) (hH55.slc (i := 0) rfl enc3_len) hr57) ?_
  refine Run.opG wantS_none (ex_not rfl) rfl ?_
  refine Run.opG wantS_none (ex_move rfl) rfl ?_
  rcases btf ((!r57)) with hc59 | hc59
  · have h := bif_t hc59 h
    refine Run.no (wantS_not' rfl rfl hc59) rfl ?_
    refine Run.no (wantS_not' rfl rfl hc59) rfl ?_
    refine Run.no (wantS_not' rfl rfl hc59) rfl ?_
    refine Run.opG wantS_none (ex_pickT' rfl hc59 rfl rfl) rfl ?_
    refine Run.opsEnd ?_
    exact Run.pick [2, 3, 51] (law09_SkyRings_1_ok F a2 true a0.L a0.N a0.Cell s1 s0 b25 _ _ _ hs1 hs0 (hH55.pick [3, 4, 5, 6] rfl rfl) h)
  · have h := bif_f hc59 h
    refine Run.opG (wantS_yes' rfl rfl hc59) (ex_move rfl) rfl ?_
    refine Run.opG (wantS_yes' rfl rfl hc59) (ex_move rfl) rfl ?_
    refine Run.opG (wantS_yes' rfl rfl hc59) (ex_neq rfl rfl) rfl ?_
    refine Run.opG wantS_none (ex_pickF' rfl hc59 rfl rfl) rfl ?_
    refine Run.opsEnd ?_
    exact Run.pick [2, 3, 51] (law09_SkyRings_1_ok F a2 (!(r40.2 == r53.2)) a0.L a0.N a0.Cell s1 s0 b25 _ _ _ hs1 hs0 (hH55.pick [3, 4, 5, 6] rfl rfl) h)

end Go.Ev.SkyRings
