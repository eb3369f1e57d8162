/- Plain functions that say what functions of the program come to, and proofs of it, written by a program of the verifier's own. -/
import Derived.Test.YtkmmplbbefijaaaGreatDoorSkyAllRingsPlain
namespace Go.Ev.SkyAllRings
open Go Go.Ev Go.Proofs
set_option maxRecDepth 100000
set_option linter.unusedVariables false

abbrev sky_ratio_up_post (r : Int) : SV → Mem → Prop := fun s _ => s = (.int .i64 r)

def sky_ratio_up_1 (F : Nat) : Nat → Int → Int → S_sky_ratio → Option (Int)
  | 0, _, _, _ => none
  | N + 1, v5, v6, c22 =>
    bif (decide (v5 < v6)) then
      bif (!(decide ((w64 (c22.top * c22.top)) ≤ (w64 ((w64 ((w64 (Int.fdiv (IntKind.wrap .u64 (w64 (v5 + v6))) (2 ^ (min 1 (IntKind.bits .u64))))) * (w64 (Int.fdiv (IntKind.wrap .u64 (w64 (v5 + v6))) (2 ^ (min 1 (IntKind.bits .u64))))))) * c22.under))))) then
        (sky_ratio_up_1 F N) (w64 ((w64 (Int.fdiv (IntKind.wrap .u64 (w64 (v5 + v6))) (2 ^ (min 1 (IntKind.bits .u64))))) + (1 : Int))) v6 c22
      else
        (sky_ratio_up_1 F N) v5 (w64 (Int.fdiv (IntKind.wrap .u64 (w64 (v5 + v6))) (2 ^ (min 1 (IntKind.bits .u64))))) c22
    else
      some v5

theorem sky_ratio_up_1_ok (F : Nat) : ∀ (N : Nat), ∀ (v5 v6 : Int) (c22 : S_sky_ratio) (b22 : Pos) (Fr : Rd) (M : Mem) (r : Int) (hH : Has Fr M [.obj b22 (.row 96 .whole [(.int .i64 c22.top), (.int .i64 c22.under)])]), sky_ratio_up_1 F N v5 v6 c22 = some r → Run Tryz.prog ⟨⟨133, [], none⟩, [.mk ⟨113, [], none⟩ 18 (treeOf []) [itemC Tryz.prog 113 [1, 1, 0] 3, codeC Tryz.prog 113 [1, 1, 1]]]⟩ 26 (sky_ratio_up_post r) [(1, (.fn (.func 155) [] [(.ptr b22 0)])), (5, (.int .i64 v5)), (6, (.int .i64 v6))] [codeC Tryz.prog 133 [1, 1, 0, 0, 0], loopC Tryz.prog 133 [1, 1, 0, 0, 0], .inBlock 0, codeC Tryz.prog 133 [1, 1, 1]] M := by
  intro N
  induction N with
  | zero =>
    intro v5 v6 c22 b22 Fr M r hH h
    simp [sky_ratio_up_1] at h
  | succ N ih =>
    intro v5 v6 c22 b22 Fr M r hH h
    rw [sky_ratio_up_1] at h
    refine Run.seq (Run.seq (Run.region ?_))
    refine Run.opG wantS_none (ex_move rfl) rfl ?_
    refine Run.opG wantS_none (ex_move rfl) rfl ?_
    refine Run.opG wantS_none (ex_lss rfl rfl) rfl ?_
    refine Run.opsEnd ?_
    rcases btf ((decide (v5 < v6))) with hc28 | hc28
    · have h := bif_t hc28 h
      refine Run.condT' rfl hc28 ?_
      refine Run.skip (Run.block (Run.seq (Run.region ?_)))
      refine Run.opG wantS_none (ex_move rfl) rfl ?_
      refine Run.opG wantS_none (ex_move rfl) rfl ?_
      refine Run.opG wantS_none (ex_add rfl rfl) rfl ?_
      refine Run.opG wantS_none (ex_conv rfl uvk3_202 cvk3_202) rfl ?_
      refine Run.opG wantS_none (ex_shr (j := 1) rfl rfl) rfl ?_
      refine Run.opG wantS_none (ex_conv rfl uvk202_3 cvk202_3) rfl ?_
      refine Run.opG wantS_none (ex_assign rfl) rfl ?_
      refine Run.opsEnd (Run.seq (Run.region ?_))
      refine Run.opG wantS_none (ex_move rfl) rfl ?_
      refine Run.opG wantS_none (ex_move rfl) rfl ?_
      refine Run.enter wantS_none (ex_closure rfl rfl mkk155 cal155) Tryz.func155 rfl rfl ?_
      refine Run.seq (Run.region ?_)
      refine Run.opG wantS_none (ex_assign rfl) rfl ?_
      refine Run.opsEnd (Run.seq (Run.region ?_))
      refine Run.opG wantS_none (ex_move rfl) rfl ?_
      refine Run.opG wantS_none (ex_move rfl) rfl ?_
      refine Run.opG wantS_none (ex_mul rfl rfl) rfl ?_
      refine Run.opG wantS_none (ex_fieldAddr rfl off96_1) rfl ?_
      refine Run.opG wantS_none (ex_load1 rfl (hH.cells (i := 0) rfl 1 rfl) rdLe_rfl agg3) rfl ?_
      refine Run.opG wantS_none (ex_mul rfl rfl) rfl ?_
      refine Run.opG wantS_none (ex_fieldAddr rfl off96_0) rfl ?_
      refine Run.opG wantS_none (ex_load1 rfl (hH.cells (i := 0) rfl 0 rfl) rdLe_rfl agg3) rfl ?_
      refine Run.opG wantS_none (ex_fieldAddr rfl off96_0) rfl ?_
      refine Run.opG wantS_none (ex_load1 rfl (hH.cells (i := 0) rfl 0 rfl) rdLe_rfl agg3) rfl ?_
      refine Run.opG wantS_none (ex_mul rfl rfl) rfl ?_
      refine Run.opG wantS_none (ex_geq rfl rfl) rfl ?_
      refine Run.opG wantS_none (ex_assign rfl) rfl ?_
      refine Run.opsEnd ?_
      refine Run.retTo Tryz.func155 rfl (res_tmp rfl res_nil) rfl ?_
      refine Run.opG wantS_none (ex_not rfl) rfl ?_
      refine Run.opsEnd ?_
      rcases btf ((!(decide ((w64 (c22.top * c22.top)) ≤ (w64 ((w64 ((w64 (Int.fdiv (IntKind.wrap .u64 (w64 (v5 + v6))) (2 ^ (min 1 (IntKind.bits .u64))))) * (w64 (Int.fdiv (IntKind.wrap .u64 (w64 (v5 + v6))) (2 ^ (min 1 (IntKind.bits .u64))))))) * c22.under)))))) with hc29 | hc29
      · have h := bif_t hc29 h
        refine Run.condT' rfl hc29 ?_
        refine Run.region ?_
        refine Run.opG wantS_none (ex_move rfl) rfl ?_
        refine Run.opG wantS_none (ex_add rfl rfl) rfl ?_
        refine Run.opG wantS_none (ex_assign rfl) rfl ?_
        refine Run.opsEnd (Run.inBlock (Run.inLoop ?_))
        exact Run.low (.cons (fle_pick [] rfl) .nil) (Run.pick [1, 5, 6] (ih (w64 ((w64 (Int.fdiv (IntKind.wrap .u64 (w64 (v5 + v6))) (2 ^ (min 1 (IntKind.bits .u64))))) + (1 : Int))) v6 c22 b22 _ _ _ hH h))
      · have h := bif_f hc29 h
        refine Run.condF' rfl hc29 ?_
        refine Run.region ?_
        refine Run.opG wantS_none (ex_move rfl) rfl ?_
        refine Run.opG wantS_none (ex_assign rfl) rfl ?_
        refine Run.opsEnd (Run.inBlock (Run.inLoop ?_))
        exact Run.low (.cons (fle_pick [] rfl) .nil) (Run.pick [1, 5, 6] (ih v5 (w64 (Int.fdiv (IntKind.wrap .u64 (w64 (v5 + v6))) (2 ^ (min 1 (IntKind.bits .u64))))) c22 b22 _ _ _ hH h))
    · have h := bif_f hc28 h
      refine Run.condF' rfl hc28 ?_
      refine Run.exit rfl (Run.seq (Run.region ?_))
      refine Run.opG wantS_none (ex_move rfl) rfl ?_
      refine Run.opG wantS_none (ex_assign rfl) rfl ?_
      refine Run.opsEnd ?_
      refine Run.retTo Tryz.func133 rfl (res_tmp rfl res_nil) rfl ?_
      refine Run.opG wantS_none (ex_assign rfl) rfl ?_
      refine Run.opsEnd ?_
      cases h
      exact Run.ret Tryz.func113 rfl (res_tmp rfl res_nil) rfl

def sky_ratio_up (F : Nat) (a0 : S_sky_ratio) : Option (Int) :=
  bif (decide (a0.top < (0 : Int))) then
    bnd (sky_ratio_down F (S_sky_ratio.mk (w64 (-a0.top)) a0.under)) fun r26 =>
    some (w64 (-r26))
  else
    sky_ratio_up_1 F F (0 : Int) a0.top a0

theorem sky_ratio_up_ok (F : Nat) (a0 : S_sky_ratio) (r : Int) (M : Mem) (h : sky_ratio_up F a0 = some r) : CallsM Tryz.prog 113 [(.agg [(.int .i64 a0.top), (.int .i64 a0.under)])] M (fun s M' => s = (.int .i64 r) ∧ M' = M) := by
  refine CallsM.plain Tryz.func113 rfl rfl rfl (show Run _ _ _ (sky_ratio_up_post r) _ _ _ from ?_)
  rw [sky_ratio_up] at h
  have hH := Has.nil (frozen M)
  refine Run.seq (Run.region ?_)
  refine Run.opX wantS_none rfl (ExG.box rfl rfl hH) ?_
  rintro _ M23 ⟨b22, rfl, hH23⟩
  refine Run.opG wantS_none (ex_assign rfl) rfl ?_
  refine Run.opsEnd (Run.seq (Run.seq (Run.region ?_)))
  refine Run.opG wantS_none (ex_fieldAddr rfl off96_0) rfl ?_
  refine Run.opG wantS_none (ex_load1 rfl (hH23.cells (i := 0) rfl 0 rfl) rdLe_rfl agg3) rfl ?_
  refine Run.opG wantS_none (ex_lss rfl rfl) rfl ?_
  refine Run.opsEnd ?_
  rcases btf ((decide (a0.top < (0 : Int)))) with hc24 | hc24
  · have h := bif_t hc24 h
    refine Run.condT' rfl hc24 ?_
    refine Run.seq (Run.region ?_)
    refine Run.opG wantS_none (ex_fieldAddr rfl off96_0) rfl ?_
    refine Run.opG wantS_none (ex_load1 rfl (hH23.cells (i := 0) rfl 0 rfl) rdLe_rfl agg3) rfl ?_
    refine Run.opG wantS_none (ex_neg rfl) rfl ?_
    refine Run.opG wantS_none (ex_fieldAddr rfl off96_1) rfl ?_
    refine Run.opG wantS_none (ex_load1 rfl (hH23.cells (i := 0) rfl 1 rfl) rdLe_rfl agg3) rfl ?_
    refine Run.opG wantS_none (ex_build (r := [(.int .i64 (w64 (-a0.top))), (.int .i64 a0.under)]) rfl zer96 pls96 rfl) rfl ?_
    obtain ⟨r26, hr26, h⟩ := bnd_some h
    refine Run.callP wantS_none (ex_call rfl mkk97 cal97) rfl (sky_ratio_down_ok F (S_sky_ratio.mk (w64 (-a0.top)) a0.under) _ _ hr26) ?_
    refine Run.opG wantS_none (ex_neg rfl) rfl ?_
    refine Run.opG wantS_none (ex_assign rfl) rfl ?_
    refine Run.opsEnd ?_
    cases h
    exact Run.ret Tryz.func113 rfl (res_tmp rfl res_nil) rfl
  · have h := bif_f hc24 h
    refine Run.condF' rfl hc24 ?_
    refine Run.skip (Run.seq (Run.region ?_))
    refine Run.opG wantS_none (ex_fieldAddr rfl off96_0) rfl ?_
    refine Run.opG wantS_none (ex_load1 rfl (hH23.cells (i := 0) rfl 0 rfl) rdLe_rfl agg3) rfl ?_
    refine Run.opG wantS_none (ex_makeFunc rfl rfl) rfl ?_
    refine Run.enter wantS_none (ex_call rfl mkk133 cal133) Tryz.func133 rfl rfl ?_
    refine Run.seq (Run.region ?_)
    refine Run.opG wantS_none (ex_assign rfl) rfl ?_
    refine Run.opsEnd (Run.seq (Run.region ?_))
    refine Run.opG wantS_none (ex_move rfl) rfl ?_
    refine Run.opG wantS_none (ex_assign rfl) rfl ?_
    refine Run.opG wantS_none (ex_assign rfl) rfl ?_
    refine Run.opsEnd (Run.seq (Run.block (Run.loop ?_)))
    exact Run.low (.cons (fle_pick [] rfl) .nil) (Run.pick [1, 5, 6] (sky_ratio_up_1_ok F F (0 : Int) a0.top a0 b22 _ _ _ hH23 h))

abbrev sky_ratio_isAbout_post (r : Bool) : SV → Mem → Prop := fun s _ => s = (.bool r)

def sky_ratio_isAbout_1 (F : Nat) (v20 : Bool) : Option (Bool) :=
  some v20

theorem sky_ratio_isAbout_1_ok (F : Nat) : ∀ (v20 : Bool) (Fr : Rd) (M : Mem) (r : Bool) (hH : Has Fr M []), sky_ratio_isAbout_1 F v20 = some r → Run Tryz.prog ⟨⟨66, [], none⟩, []⟩ 21 (sky_ratio_isAbout_post r) [(20, (.bool v20))] [itemC Tryz.prog 66 [1, 0] 14, codeC Tryz.prog 66 [1, 1]] M := by
  intro v20 Fr M r hH h
  rw [sky_ratio_isAbout_1] at h
  refine Run.opG wantS_none (ex_assign rfl) rfl ?_
  refine Run.opsEnd ?_
  cases h
  exact Run.ret Tryz.func66 rfl (res_tmp rfl res_nil) rfl

def sky_ratio_isAbout (F : Nat) (a0 : S_sky_ratio) (a1 a2 : Int) : Option (Bool) :=
  bnd (sky_ratio_down F a0) fun r25 =>
  bif (decide ((w64 (a1 - a2)) ≤ r25)) then
    bnd (sky_ratio_up F a0) fun r29 =>
    sky_ratio_isAbout_1 F (decide (r29 ≤ (w64 (a1 + a2))))
  else
    sky_ratio_isAbout_1 F false

theorem sky_ratio_isAbout_ok (F : Nat) (a0 : S_sky_ratio) (a1 a2 : Int) (r : Bool) (M : Mem) (h : sky_ratio_isAbout F a0 a1 a2 = some r) : CallsM Tryz.prog 66 [(.agg [(.int .i64 a0.top), (.int .i64 a0.under)]), (.int .i64 a1), (.int .i64 a2)] M (fun s M' => s = (.bool r) ∧ M' = M) := by
  refine CallsM.plain Tryz.func66 rfl rfl rfl (show Run _ _ _ (sky_ratio_isAbout_post r) _ _ _ from ?_)
  rw [sky_ratio_isAbout] at h
  have hH := Has.nil (frozen M)
  refine Run.seq (Run.region ?_)
  refine Run.opX wantS_none rfl (ExG.box rfl rfl hH) ?_
  rintro _ M23 ⟨b22, rfl, hH23⟩
  refine Run.opG wantS_none (ex_assign rfl) rfl ?_
  refine Run.opsEnd (Run.seq (Run.region ?_))
  refine Run.opG wantS_none (ex_move rfl) rfl ?_
  refine Run.opG wantS_none (ex_move rfl) rfl ?_
  refine Run.opG wantS_none (ex_sub rfl rfl) rfl ?_
  refine Run.opG wantS_none (ex_loadA rfl (hH23.cells (i := 0) rfl 0 rfl) rdLe_rfl agg96 rfl rfl rfl) rfl ?_
  obtain ⟨r25, hr25, h⟩ := bnd_some h
  refine Run.callP wantS_none (ex_call rfl mkk97 cal97) rfl (sky_ratio_down_ok F a0 _ _ hr25) ?_
  refine Run.opG wantS_none (ex_leq rfl rfl) rfl ?_
  refine Run.opG wantS_none (ex_move rfl) rfl ?_
  rcases btf ((decide ((w64 (a1 - a2)) ≤ r25))) with hc27 | hc27
  · have h := bif_t hc27 h
    refine Run.opG (wantS_yes' rfl rfl hc27) (ex_loadA rfl (hH23.cells (i := 0) rfl 0 rfl) rdLe_rfl agg96 rfl rfl rfl) rfl ?_
    obtain ⟨r29, hr29, h⟩ := bnd_some h
    refine Run.callP (wantS_yes' rfl rfl hc27) (ex_call rfl mkk113 cal113) rfl (sky_ratio_up_ok F a0 _ _ hr29) ?_
    refine Run.opG (wantS_yes' rfl rfl hc27) (ex_move rfl) rfl ?_
    refine Run.opG (wantS_yes' rfl rfl hc27) (ex_move rfl) rfl ?_
    refine Run.opG (wantS_yes' rfl rfl hc27) (ex_add rfl rfl) rfl ?_
    refine Run.opG (wantS_yes' rfl rfl hc27) (ex_leq rfl rfl) rfl ?_
    refine Run.opG wantS_none (ex_pickT' rfl hc27 rfl rfl) rfl ?_
    exact Run.pick [20] (sky_ratio_isAbout_1_ok F (decide (r29 ≤ (w64 (a1 + a2)))) _ _ _ (hH23.pick [] rfl rfl) h)
  · have h := bif_f hc27 h
    refine Run.no (wantS_not' rfl rfl hc27) rfl ?_
    refine Run.no (wantS_not' rfl rfl hc27) rfl ?_
    refine Run.no (wantS_not' rfl rfl hc27) rfl ?_
    refine Run.no (wantS_not' rfl rfl hc27) rfl ?_
    refine Run.no (wantS_not' rfl rfl hc27) rfl ?_
    refine Run.no (wantS_not' rfl rfl hc27) rfl ?_
    refine Run.opG wantS_none (ex_pickF' rfl hc27 rfl rfl) rfl ?_
    exact Run.pick [20] (sky_ratio_isAbout_1_ok F false _ _ _ (hH23.pick [] rfl rfl) h)

theorem mkk66 : makeK Tryz.prog 66 = none := by kernel_rfl
theorem cal66 : callable Tryz.prog 66 = true := by kernel_rfl
abbrev sky_fit_post (r : Bool) : SV → Mem → Prop := fun s _ => s = (.bool r)

def sky_fit_2 (F : Nat) (hd1 : (List S_sky_site) → (List S_api_Arrival) → (List S_api_Arrival) → Int → Int → S__3_int → Option (Bool)) : Nat → (List S_sky_site) → (List S_api_Arrival) → (List S_api_Arrival) → Int → Int → (List S_api_Arrival) → Int → Int → S__3_int → S_api_Arrival → Option (Bool)
  | 0, _, _, _, _, _, _, _, _, _, _ => none
  | N + 1, v0, v1, v12, v13, v14, v21, v22, v23, c22, c28 =>
    bif (decide (v23 < v22)) then
      bnd (idx v21 v23) fun x35 =>
      bnd (idx v0 x35.Site) fun x40 =>
      bnd (idx v0 c28.Site) fun x42 =>
      bnd (sky_place_difference F x40.place x42.place c22) fun r44 =>
      bnd (sky_ratio_isAbout F r44 (w64 (c28.Time - x35.Time)) (w64 (x35.Slack + c28.Slack))) fun r50 =>
      bif (!r50) then
        some false
      else
        (sky_fit_2 F hd1 N) v0 v1 v12 v13 v14 v21 v22 (w64 (v23 + (1 : Int))) c22 c28
    else
      hd1 v0 v1 v12 v13 (w64 (v14 + (1 : Int))) c22

theorem sky_fit_2_ok (F : Nat) (hd1 : (List S_sky_site) → (List S_api_Arrival) → (List S_api_Arrival) → Int → Int → S__3_int → Option (Bool)) (hhd1 : ∀ (v0 : (List S_sky_site)) (v1 v12 : (List S_api_Arrival)) (v13 v14 : Int) (c22 : S__3_int) (sv0 sv1 sv12 : SV) (b22 : Pos) (Fr : Rd) (M : Mem) (r : Bool) (hv0 : Slc Fr 9 (FlatR enc99) sv0 v0) (hv1 : Slc Fr 3 (FlatR enc67) sv1 v1) (hv12 : Slc Fr 3 (FlatR enc67) sv12 v12) (hH : Has Fr M [.obj b22 (.row 85 .whole [(.int .i64 c22.e0), (.int .i64 c22.e1), (.int .i64 c22.e2)])]), hd1 v0 v1 v12 v13 v14 c22 = some r → Run Tryz.prog ⟨⟨72, [], none⟩, []⟩ 56 (sky_fit_post r) [(0, sv0), (1, sv1), (5, (.ptr b22 0)), (12, sv12), (13, (.int .i64 v13)), (14, (.int .i64 v14))] [codeC Tryz.prog 72 [1, 0, 1, 0, 0], loopC Tryz.prog 72 [1, 0, 1, 0, 0], .inBlock 0, codeC Tryz.prog 72 [1, 1]] M) : ∀ (N : Nat), ∀ (v0 : (List S_sky_site)) (v1 v12 : (List S_api_Arrival)) (v13 v14 : Int) (v21 : (List S_api_Arrival)) (v22 v23 : Int) (c22 : S__3_int) (c28 : S_api_Arrival) (sv0 sv1 sv12 sv21 : SV) (b22 b28 : Pos) (Fr : Rd) (M : Mem) (r : Bool) (hv0 : Slc Fr 9 (FlatR enc99) sv0 v0) (hv1 : Slc Fr 3 (FlatR enc67) sv1 v1) (hv12 : Slc Fr 3 (FlatR enc67) sv12 v12) (hv21 : Slc Fr 3 (FlatR enc67) sv21 v21) (hH : Has Fr M [.obj b22 (.row 85 .whole [(.int .i64 c22.e0), (.int .i64 c22.e1), (.int .i64 c22.e2)]), .obj b28 (.row 67 .whole [(.int .i64 c28.Site), (.int .i64 c28.Time), (.int .i64 c28.Slack)])]), sky_fit_2 F hd1 N v0 v1 v12 v13 v14 v21 v22 v23 c22 c28 = some r → Run Tryz.prog ⟨⟨72, [], none⟩, []⟩ 56 (sky_fit_post r) [(0, sv0), (1, sv1), (5, (.ptr b22 0)), (8, (.ptr b28 0)), (12, sv12), (13, (.int .i64 v13)), (14, (.int .i64 v14)), (21, sv21), (22, (.int .i64 v22)), (23, (.int .i64 v23))] [codeC Tryz.prog 72 [1, 0, 1, 0, 0, 1, 1, 0, 0, 1, 1, 0, 0], loopC Tryz.prog 72 [1, 0, 1, 0, 0, 1, 1, 0, 0, 1, 1, 0, 0], .inBlock 2, .inBlock 1, codeC Tryz.prog 72 [1, 0, 1, 0, 0, 1, 1, 1], loopC Tryz.prog 72 [1, 0, 1, 0, 0], .inBlock 0, codeC Tryz.prog 72 [1, 1]] M := by
  intro N
  induction N with
  | zero =>
    intro v0 v1 v12 v13 v14 v21 v22 v23 c22 c28 sv0 sv1 sv12 sv21 b22 b28 Fr M r hv0 hv1 hv12 hv21 hH h
    simp [sky_fit_2] at h
  | succ N ih =>
    intro v0 v1 v12 v13 v14 v21 v22 v23 c22 c28 sv0 sv1 sv12 sv21 b22 b28 Fr M r hv0 hv1 hv12 hv21 hH h
    rw [sky_fit_2] at h
    refine Run.seq (Run.region ?_)
    refine Run.opG wantS_none (ex_lss rfl rfl) rfl ?_
    refine Run.opsEnd (Run.seq ?_)
    rcases btf ((decide (v23 < v22))) with hc33 | hc33
    · have h := bif_t hc33 h
      refine Run.condT' rfl hc33 ?_
      refine Run.skip (Run.seq (Run.block (Run.seq (Run.region ?_))))
      obtain ⟨x35, hx35, h⟩ := bnd_some h
      obtain ⟨p35, o35, _, hx35, hp35, rfl⟩ := sl_elem (P := Tryz.prog) (t := 35) (kk := .i64) hv21 hx35 els35
      refine Run.opG wantS_none (ex_elX rfl rfl hx35) rfl ?_
      refine Run.opG wantS_none (ex_loadA rfl (hH.ptrF hp35) rdLe_rfl agg67 rfl rfl rfl) rfl ?_
      refine Run.opX wantS_none rfl (ExG.new (v := fun b => .ptr b 0) (ex_alloc zer67) hH) ?_
      rintro _ M38 ⟨b37, rfl, hH38⟩
      refine Run.opX wantS_none rfl (ExG.storeC (c' := [(.int .i64 x35.Site), (.int .i64 x35.Time), (.int .i64 x35.Slack)]) rfl rfl rfl hH38 (i := 0) rfl sz67 rfl rfl rfl rfl rfl) ?_
      rintro _ M39 ⟨rfl, (hH39 : Has Fr M39 [.obj b37 (.row 67 .whole [(.int .i64 x35.Site), (.int .i64 x35.Time), (.int .i64 x35.Slack)]), .obj b22 (.row 85 .whole [(.int .i64 c22.e0), (.int .i64 c22.e1), (.int .i64 c22.e2)]), .obj b28 (.row 67 .whole [(.int .i64 c28.Site), (.int .i64 c28.Time), (.int .i64 c28.Slack)])])⟩
      refine Run.opsEnd (Run.seq ?_)
      refine Run.pureG noplan72_1_0_1_0_0_1_1_0_0_1_1_0_0_1_1_0_0_1_0 purep72_1_0_1_0_0_1_1_0_0_1_1_0_0_1_1_0_0_1_0 rfl rfl ?_
      refine PureG.val wantS_none (ex_move rfl) rfl ?_
      refine PureG.val wantS_none (ex_fieldAddr rfl off67_0) rfl ?_
      refine PureG.val wantS_none (ex_load1 rfl (hH39.cells (i := 0) rfl 0 rfl) rdLe_rfl agg3) rfl ?_
      obtain ⟨x40, hx40, h⟩ := bnd_some h
      obtain ⟨p40, o40, _, hx40, hp40, rfl⟩ := sl_elem (P := Tryz.prog) (t := 93) (kk := .i64) hv0 hx40 els93
      refine PureG.val wantS_none (ex_elX rfl rfl hx40) rfl ?_
      have hp41 := (hp40.fld (o := 0) rfl)
      refine PureG.val wantS_none (ex_fieldAddr rfl off99_0) rfl ?_
      refine PureG.val wantS_none (ex_loadA rfl (hH39.ptrF hp41) rdLe_rfl agg97 rfl rfl rfl) rfl ?_
      refine PureG.val wantS_none (ex_move rfl) rfl ?_
      refine PureG.val wantS_none (ex_fieldAddr rfl off67_0) rfl ?_
      refine PureG.val wantS_none (ex_load1 rfl (hH39.cells (i := 2) rfl 0 rfl) rdLe_rfl agg3) rfl ?_
      obtain ⟨x42, hx42, h⟩ := bnd_some h
      obtain ⟨p42, o42, _, hx42, hp42, rfl⟩ := sl_elem (P := Tryz.prog) (t := 93) (kk := .i64) hv0 hx42 els93
      refine PureG.val wantS_none (ex_elX rfl rfl hx42) rfl ?_
      have hp43 := (hp42.fld (o := 0) rfl)
      refine PureG.val wantS_none (ex_fieldAddr rfl off99_0) rfl ?_
      refine PureG.val wantS_none (ex_loadA rfl (hH39.ptrF hp43) rdLe_rfl agg97 rfl rfl rfl) rfl ?_
      refine PureG.val wantS_none (ex_loadA rfl (hH39.cells (i := 1) rfl 0 rfl) rdLe_rfl agg85 rfl rfl rfl) rfl ?_
      obtain ⟨r44, hr44, h⟩ := bnd_some h
      refine PureG.callP wantS_none (ex_call rfl mkk65 cal65) rfl (sky_place_difference_ok F x40.place x42.place c22 _ _ hr44) ?_
      refine PureG.new (v := fun b => .ptr b 0) wantS_none (ex_alloc zer96) rfl hH39 ?_
      intro b46 M47 (hH47 : Has Fr M47 [.obj b46 (.row 96 .whole [(.int .i64 0), (.int .i64 0)]), .obj b37 (.row 67 .whole [(.int .i64 x35.Site), (.int .i64 x35.Time), (.int .i64 x35.Slack)]), .obj b22 (.row 85 .whole [(.int .i64 c22.e0), (.int .i64 c22.e1), (.int .i64 c22.e2)]), .obj b28 (.row 67 .whole [(.int .i64 c28.Site), (.int .i64 c28.Time), (.int .i64 c28.Slack)])])
      refine PureG.nil ?_
      refine SeqG.opX wantS_none rfl (ExG.storeC (c' := [(.int .i64 r44.top), (.int .i64 r44.under)]) rfl rfl rfl hH47 (i := 0) rfl sz96 rfl rfl rfl rfl rfl) ?_
      rintro _ M48 ⟨rfl, (hH48 : Has Fr M48 [.obj b46 (.row 96 .whole [(.int .i64 r44.top), (.int .i64 r44.under)]), .obj b37 (.row 67 .whole [(.int .i64 x35.Site), (.int .i64 x35.Time), (.int .i64 x35.Slack)]), .obj b22 (.row 85 .whole [(.int .i64 c22.e0), (.int .i64 c22.e1), (.int .i64 c22.e2)]), .obj b28 (.row 67 .whole [(.int .i64 c28.Site), (.int .i64 c28.Time), (.int .i64 c28.Slack)])])⟩
      refine SeqG.nil ?_
      refine Run.seq (Run.region ?_)
      refine Run.opG wantS_none (ex_loadA rfl (hH48.cells (i := 0) rfl 0 rfl) rdLe_rfl agg96 rfl rfl rfl) rfl ?_
      refine Run.opG wantS_none (ex_fieldAddr rfl off67_1) rfl ?_
      refine Run.opG wantS_none (ex_load1 rfl (hH48.cells (i := 3) rfl 1 rfl) rdLe_rfl agg3) rfl ?_
      refine Run.opG wantS_none (ex_fieldAddr rfl off67_1) rfl ?_
      refine Run.opG wantS_none (ex_load1 rfl (hH48.cells (i := 1) rfl 1 rfl) rdLe_rfl agg3) rfl ?_
      refine Run.opG wantS_none (ex_sub rfl rfl) rfl ?_
      refine Run.opG wantS_none (ex_fieldAddr rfl off67_2) rfl ?_
      refine Run.opG wantS_none (ex_load1 rfl (hH48.cells (i := 1) rfl 2 rfl) rdLe_rfl agg3) rfl ?_
      refine Run.opG wantS_none (ex_fieldAddr rfl off67_2) rfl ?_
      refine Run.opG wantS_none (ex_load1 rfl (hH48.cells (i := 3) rfl 2 rfl) rdLe_rfl agg3) rfl ?_
      refine Run.opG wantS_none (ex_add rfl rfl) rfl ?_
      obtain ⟨r50, hr50, h⟩ := bnd_some h
      refine Run.callP wantS_none (ex_call rfl mkk66 cal66) rfl (sky_ratio_isAbout_ok F r44 (w64 (c28.Time - x35.Time)) (w64 (x35.Slack + c28.Slack)) _ _ hr50) ?_
      refine Run.opG wantS_none (ex_not rfl) rfl ?_
      refine Run.opsEnd ?_
      rcases btf ((!r50)) with hc52 | hc52
      · have h := bif_t hc52 h
        refine Run.condT' rfl hc52 ?_
        refine Run.seq (Run.region ?_)
        refine Run.opG wantS_none (ex_assign rfl) rfl ?_
        refine Run.opsEnd ?_
        cases h
        exact Run.ret Tryz.func72 rfl (res_tmp rfl res_nil) rfl
      · have h := bif_f hc52 h
        refine Run.condF' rfl hc52 ?_
        refine Run.skip (Run.inBlock (Run.region ?_))
        refine Run.opG wantS_none (ex_add rfl rfl) rfl ?_
        refine Run.opG wantS_none (ex_move rfl) rfl ?_
        refine Run.opsEnd (Run.inLoop ?_)
        exact Run.pick [0, 1, 5, 8, 12, 13, 14, 21, 22, 23] (ih v0 v1 v12 v13 v14 v21 v22 (w64 (v23 + (1 : Int))) c22 c28 sv0 sv1 sv12 sv21 b22 b28 _ _ _ hv0 hv1 hv12 hv21 (hH48.pick [2, 3] rfl rfl) h)
    · have h := bif_f hc33 h
      refine Run.condF' rfl hc33 ?_
      refine Run.exit rfl (Run.inBlock (Run.region ?_))
      refine Run.opG wantS_none (ex_add rfl rfl) rfl ?_
      refine Run.opG wantS_none (ex_move rfl) rfl ?_
      refine Run.opsEnd (Run.inLoop ?_)
      exact Run.pick [0, 1, 5, 12, 13, 14] (hhd1 v0 v1 v12 v13 (w64 (v14 + (1 : Int))) c22 sv0 sv1 sv12 b22 _ _ _ hv0 hv1 hv12 (hH.pick [0] rfl rfl) h)

def sky_fit_1 (F : Nat) : Nat → (List S_sky_site) → (List S_api_Arrival) → (List S_api_Arrival) → Int → Int → S__3_int → Option (Bool)
  | 0, _, _, _, _, _, _ => none
  | N + 1, v0, v1, v12, v13, v14, c22 =>
    bif (decide (v14 < v13)) then
      bnd (idx v12 v14) fun x26 =>
      bnd (sub v1 0 v14) fun l32 =>
      sky_fit_2 F (sky_fit_1 F N) F v0 v1 v12 v13 v14 l32 (l32.length : Int) (0 : Int) c22 x26
    else
      some true

theorem sky_fit_1_ok (F : Nat) : ∀ (N : Nat), ∀ (v0 : (List S_sky_site)) (v1 v12 : (List S_api_Arrival)) (v13 v14 : Int) (c22 : S__3_int) (sv0 sv1 sv12 : SV) (b22 : Pos) (Fr : Rd) (M : Mem) (r : Bool) (hv0 : Slc Fr 9 (FlatR enc99) sv0 v0) (hv1 : Slc Fr 3 (FlatR enc67) sv1 v1) (hv12 : Slc Fr 3 (FlatR enc67) sv12 v12) (hH : Has Fr M [.obj b22 (.row 85 .whole [(.int .i64 c22.e0), (.int .i64 c22.e1), (.int .i64 c22.e2)])]), sky_fit_1 F N v0 v1 v12 v13 v14 c22 = some r → Run Tryz.prog ⟨⟨72, [], none⟩, []⟩ 56 (sky_fit_post r) [(0, sv0), (1, sv1), (5, (.ptr b22 0)), (12, sv12), (13, (.int .i64 v13)), (14, (.int .i64 v14))] [codeC Tryz.prog 72 [1, 0, 1, 0, 0], loopC Tryz.prog 72 [1, 0, 1, 0, 0], .inBlock 0, codeC Tryz.prog 72 [1, 1]] M := by
  intro N
  induction N with
  | zero =>
    intro v0 v1 v12 v13 v14 c22 sv0 sv1 sv12 b22 Fr M r hv0 hv1 hv12 hH h
    simp [sky_fit_1] at h
  | succ N ih =>
    intro v0 v1 v12 v13 v14 c22 sv0 sv1 sv12 b22 Fr M r hv0 hv1 hv12 hH h
    rw [sky_fit_1] at h
    refine Run.seq (Run.region ?_)
    refine Run.opG wantS_none (ex_lss rfl rfl) rfl ?_
    refine Run.opsEnd (Run.seq ?_)
    rcases btf ((decide (v14 < v13))) with hc24 | hc24
    · have h := bif_t hc24 h
      refine Run.condT' rfl hc24 ?_
      refine Run.skip (Run.seq (Run.block (Run.seq (Run.region ?_))))
      refine Run.opG wantS_none (ex_move rfl) rfl ?_
      obtain ⟨x26, hx26, h⟩ := bnd_some h
      obtain ⟨p26, o26, _, hx26, hp26, rfl⟩ := sl_elem (P := Tryz.prog) (t := 35) (kk := .i64) hv12 hx26 els35
      refine Run.opG wantS_none (ex_elX rfl rfl hx26) rfl ?_
      refine Run.opG wantS_none (ex_loadA rfl (hH.ptrF hp26) rdLe_rfl agg67 rfl rfl rfl) rfl ?_
      refine Run.opX wantS_none rfl (ExG.new (v := fun b => .ptr b 0) (ex_alloc zer67) hH) ?_
      rintro _ M29 ⟨b28, rfl, hH29⟩
      refine Run.opG wantS_none (ex_assign rfl) rfl ?_
      refine Run.opX wantS_none rfl (ExG.storeC (c' := [(.int .i64 x26.Site), (.int .i64 x26.Time), (.int .i64 x26.Slack)]) rfl rfl rfl hH29 (i := 0) rfl sz67 rfl rfl rfl rfl rfl) ?_
      rintro _ M30 ⟨rfl, (hH30 : Has Fr M30 [.obj b28 (.row 67 .whole [(.int .i64 x26.Site), (.int .i64 x26.Time), (.int .i64 x26.Slack)]), .obj b22 (.row 85 .whole [(.int .i64 c22.e0), (.int .i64 c22.e1), (.int .i64 c22.e2)])])⟩
      refine Run.opsEnd (Run.seq (Run.region ?_))
      refine Run.opG wantS_none (ex_move rfl) rfl ?_
      refine Run.opG wantS_none (ex_move rfl) rfl ?_
      obtain ⟨l32, hl32, h⟩ := bnd_some h
      obtain ⟨s32, hx32, hs32⟩ := sl_subH (P := Tryz.prog) (t := 35) (k0 := .i64) hv1 hl32 slk35
      refine Run.opG wantS_none (ex_slX rfl (argO_none) (argO_some rfl) hx32) rfl ?_
      refine Run.opG wantS_none (ex_len' rfl hs32 lenk35) rfl ?_
      refine Run.opG wantS_none (ex_move rfl) rfl ?_
      refine Run.opsEnd (Run.block (Run.loop ?_))
      exact Run.pick [0, 1, 5, 8, 12, 13, 14, 21, 22, 23] (sky_fit_2_ok F (sky_fit_1 F N) ih F v0 v1 v12 v13 v14 l32 (l32.length : Int) (0 : Int) c22 x26 sv0 sv1 sv12 s32 b22 b28 _ _ _ hv0 hv1 hv12 hs32 (hH30.pick [1, 0] rfl rfl) h)
    · have h := bif_f hc24 h
      refine Run.condF' rfl hc24 ?_
      refine Run.exit rfl (Run.seq (Run.region ?_))
      refine Run.opG wantS_none (ex_assign rfl) rfl ?_
      refine Run.opsEnd ?_
      cases h
      exact Run.ret Tryz.func72 rfl (res_tmp rfl res_nil) rfl

def sky_fit (F : Nat) (a0 : (List S_sky_site)) (a1 : (List S_api_Arrival)) (a2 : S__3_int) : Option (Bool) :=
  sky_fit_1 F F a0 a1 a1 (a1.length : Int) (0 : Int) a2

theorem sky_fit_ok (F : Nat) (a0 : (List S_sky_site)) (a1 : (List S_api_Arrival)) (a2 : S__3_int) (s0 s1 : SV) (r : Bool) (M : Mem) (hs0 : Slc (rd M) 9 (FlatR enc99) s0 a0) (hs1 : Slc (rd M) 3 (FlatR enc67) s1 a1) (h : sky_fit F a0 a1 a2 = some r) : CallsM Tryz.prog 72 [s0, s1, (.agg [(.int .i64 a2.e0), (.int .i64 a2.e1), (.int .i64 a2.e2)])] M (fun s M' => s = (.bool r) ∧ M' = M) := by
  refine CallsM.plain Tryz.func72 rfl rfl rfl (show Run _ _ _ (sky_fit_post r) _ _ _ from ?_)
  rw [sky_fit] at h
  replace hs0 := hs0.mono (rdLe_frozen M) (fun _ _ h => h)
  replace hs1 := hs1.mono (rdLe_frozen M) (fun _ _ h => h)
  have hH := Has.nil (frozen M)
  refine Run.seq (Run.region ?_)
  refine Run.opX wantS_none rfl (ExG.box rfl rfl hH) ?_
  rintro _ M23 ⟨b22, rfl, hH23⟩
  refine Run.opG wantS_none (ex_assign rfl) rfl ?_
  refine Run.opsEnd (Run.seq (Run.seq (Run.region ?_)))
  refine Run.opG wantS_none (ex_move rfl) rfl ?_
  refine Run.opG wantS_none (ex_len' rfl hs1 lenk35) rfl ?_
  refine Run.opG wantS_none (ex_move rfl) rfl ?_
  refine Run.opsEnd (Run.block (Run.loop ?_))
  exact Run.pick [0, 1, 5, 12, 13, 14] (sky_fit_1_ok F F a0 a1 a1 (a1.length : Int) (0 : Int) a2 s0 s1 s1 b22 _ _ _ hs0 hs1 hs1 hH23 h)

theorem mkk72 : makeK Tryz.prog 72 = none := by kernel_rfl
theorem cal72 : callable Tryz.prog 72 = true := by kernel_rfl
theorem agg36 : aggSize Tryz.prog 36 = some none := by kernel_rfl
theorem elt36 : sliceElt Tryz.prog 36 = some (⟨1, 8, [(.int .i64 0)], 3⟩ : Elt) := by kernel_rfl
theorem appt36_36 : appT Tryz.prog 36 36 = some (⟨1, 8, [(.int .i64 0)], 3⟩ : Elt) := by kernel_rfl
theorem sz36 : szOf Tryz.prog 36 = some 1 := by kernel_rfl
abbrev sky_Fits_post (r : (List Int) × Int) : SV → Mem → Prop := fun s Me => ∃ q1, s = (.tuple [q1, (.int .i64 r.2)]) ∧ Has (fun _ => none) Me [.vec 3 1 r.1.length q1 (r.1.flatMap enc3)]

def sky_Fits_1 (F : Nat) : Nat → Int → Int → (List S_api_Arrival) → Int → (List S_sky_site) → (List Int) → Option ((List Int) × Int)
  | 0, _, _, _, _, _, _ => none
  | N + 1, v5, v6, c22_0, c52_0, l39, l59 =>
    bif (decide (v6 < v5)) then
      bnd (sky_grid_direction F c52_0 v6) fun r63 =>
      bnd (sky_fit F l39 c22_0 r63) fun r74 =>
      bif r74 then
        bnd (apd 8 l59 ([v6] : List Int)) fun l82 =>
        (sky_Fits_1 F N) v5 (w64 (v6 + (1 : Int))) c22_0 c52_0 l39 l82
      else
        (sky_Fits_1 F N) v5 (w64 (v6 + (1 : Int))) c22_0 c52_0 l39 l59
    else
      some (l59, (0 : Int))

theorem sky_Fits_1_ok (F : Nat) : ∀ (N : Nat), ∀ (v5 v6 : Int) (c22_0 : (List S_api_Arrival)) (c52_0 : Int) (l39 : (List S_sky_site)) (l59 : (List Int)) (sc22_0 : SV) (b54 b46 b42 : Pos) (s39 : SV) (b22 b49 : Pos) (s59 : SV) (b52 b55 : Pos) (Fr : Rd) (M : Mem) (r : (List Int) × Int) (hc22_0 : Slc Fr 3 (FlatR enc67) sc22_0 c22_0) (hH : Has Fr M [.obj b54 (.loop ⟨.ready, none, 67, 20, treeOf [(3, (.ptr b46 0)), (4, .nils), (5, (.ptr b49 0)), (9, (.fn (.func 156) [] [(.ptr b52 0)]))], [10, 11], (atC Tryz.prog 67 [1, 1, 0, 1, 0, 0]), (atC Tryz.prog 67 [1, 1, 0, 1, 0, 1]), b55⟩), .obj b46 (.row 89 .whole [(.fn (.func 71) [] [(.ptr b42 0), (.ptr b22 0)])]), .obj b42 (.row 93 .whole [s39]), .vec 99 9 l39.length s39 (l39.flatMap enc99), .obj b22 (.row 35 .whole [sc22_0]), .obj b49 (.row 36 .whole [s59]), .vec 3 1 l59.length s59 (l59.flatMap enc3), .obj b52 (.row 81 .whole [(.int .i64 c52_0)]), .obj b55 .defd]), sky_Fits_1 F N v5 v6 c22_0 c52_0 l39 l59 = some r → Run Tryz.prog ⟨⟨156, [], none⟩, [.mk ⟨67, [b55], none⟩ 20 (treeOf [(5, (.ptr b49 0))]) [.inRange b54, .inBlock 0, codeC Tryz.prog 67 [1, 1, 1]], .mk ⟨22, [], none⟩ 28 (treeOf []) [itemC Tryz.prog 22 [1, 1, 1, 0] 2, codeC Tryz.prog 22 [1, 1, 1, 1]]]⟩ 17 (sky_Fits_post r) [(0, (.yield b54)), (1, (.ptr b52 0)), (5, (.int .i64 v5)), (6, (.int .i64 v6))] [codeC Tryz.prog 156 [1, 0, 0], loopC Tryz.prog 156 [1, 0, 0], .inBlock 0] M := by
  intro N
  induction N with
  | zero =>
    intro v5 v6 c22_0 c52_0 l39 l59 sc22_0 b54 b46 b42 s39 b22 b49 s59 b52 b55 Fr M r hc22_0 hH h
    simp [sky_Fits_1] at h
  | succ N ih =>
    intro v5 v6 c22_0 c52_0 l39 l59 sc22_0 b54 b46 b42 s39 b22 b49 s59 b52 b55 Fr M r hc22_0 hH h
    rw [sky_Fits_1] at h
    refine Run.seq (Run.region ?_)
    refine Run.opG wantS_none (ex_lss rfl rfl) rfl ?_
    refine Run.opsEnd (Run.seq ?_)
    rcases btf ((decide (v6 < v5))) with hc61 | hc61
    · have h := bif_t hc61 h
      refine Run.condT' rfl hc61 ?_
      refine Run.skip (Run.seq (Run.block (Run.seq (Run.region ?_))))
      refine Run.opG wantS_none (ex_move rfl) rfl ?_
      refine Run.opG wantS_none (ex_assign rfl) rfl ?_
      refine Run.opsEnd (Run.seq (Run.region ?_))
      refine Run.opG wantS_none (ex_move rfl) rfl ?_
      refine Run.opG wantS_none (ex_move rfl) rfl ?_
      refine Run.opG wantS_none (ex_load1 rfl (hH.cells (i := 7) rfl 0 rfl) rdLe_rfl agg81) rfl ?_
      refine Run.opG wantS_none (ex_move rfl) rfl ?_
      obtain ⟨r63, hr63, h⟩ := bnd_some h
      refine Run.callP wantS_none (ex_call rfl mkk52 cal52) rfl (sky_grid_direction_ok F c52_0 v6 _ _ hr63) ?_
      refine Run.round (e' := [(11, (.agg [(.int .i64 r63.e0), (.int .i64 r63.e1), (.int .i64 r63.e2)])), (10, (.int .i64 v6)), (3, (.ptr b46 0)), (4, .nils), (5, (.ptr b49 0)), (9, (.fn (.func 156) [] [(.ptr b52 0)]))]) wantS_none (ex_yield hH (i := 0) rfl rfl rfl rfl) (hH.loopOf (i := 0) rfl) rfl ?_
      refine Run.seq (Run.region ?_)
      refine Run.opG wantS_none (ex_assign rfl) rfl ?_
      refine Run.opsEnd (Run.region ?_)
      refine Run.opX wantS_none rfl (ExG.new (v := fun b => .ptr b 0) (ex_alloc zer85) hH) ?_
      rintro _ M67 ⟨b66, rfl, hH67⟩
      refine Run.opX wantS_none rfl (ExG.storeC (c' := [(.int .i64 r63.e0), (.int .i64 r63.e1), (.int .i64 r63.e2)]) rfl rfl rfl hH67 (i := 0) rfl sz85 rfl rfl rfl rfl rfl) ?_
      rintro _ M68 ⟨rfl, (hH68 : Has Fr M68 [.obj b66 (.row 85 .whole [(.int .i64 r63.e0), (.int .i64 r63.e1), (.int .i64 r63.e2)]), .obj b54 (.loop ⟨.ready, none, 67, 20, treeOf [(3, (.ptr b46 0)), (4, .nils), (5, (.ptr b49 0)), (9, (.fn (.func 156) [] [(.ptr b52 0)]))], [10, 11], (atC Tryz.prog 67 [1, 1, 0, 1, 0, 0]), (atC Tryz.prog 67 [1, 1, 0, 1, 0, 1]), b55⟩), .obj b46 (.row 89 .whole [(.fn (.func 71) [] [(.ptr b42 0), (.ptr b22 0)])]), .obj b42 (.row 93 .whole [s39]), .vec 99 9 l39.length s39 (l39.flatMap enc99), .obj b22 (.row 35 .whole [sc22_0]), .obj b49 (.row 36 .whole [s59]), .vec 3 1 l59.length s59 (l59.flatMap enc3), .obj b52 (.row 81 .whole [(.int .i64 c52_0)]), .obj b55 .defd])⟩
      refine Run.opsEnd ?_
      refine Run.beginX hH68 (i := 1) rfl rfl ?_
      intro M69 (hH69 : Has Fr M69 [.obj b66 (.row 85 .whole [(.int .i64 r63.e0), (.int .i64 r63.e1), (.int .i64 r63.e2)]), .obj b54 (.loop ⟨.busy, none, 67, 20, treeOf [(3, (.ptr b46 0)), (4, .nils), (5, (.ptr b49 0)), (9, (.fn (.func 156) [] [(.ptr b52 0)]))], [10, 11], (atC Tryz.prog 67 [1, 1, 0, 1, 0, 0]), (atC Tryz.prog 67 [1, 1, 0, 1, 0, 1]), b55⟩), .obj b46 (.row 89 .whole [(.fn (.func 71) [] [(.ptr b42 0), (.ptr b22 0)])]), .obj b42 (.row 93 .whole [s39]), .vec 99 9 l39.length s39 (l39.flatMap enc99), .obj b22 (.row 35 .whole [sc22_0]), .obj b49 (.row 36 .whole [s59]), .vec 3 1 l59.length s59 (l59.flatMap enc3), .obj b52 (.row 81 .whole [(.int .i64 c52_0)]), .obj b55 .defd])
      refine Run.block (Run.seq (Run.region ?_))
      refine Run.opG wantS_none (ex_load1 rfl (hH69.cells (i := 2) rfl 0 rfl) rdLe_rfl agg89) rfl ?_
      refine Run.opG wantS_none (ex_loadA rfl (hH69.cells (i := 0) rfl 0 rfl) rdLe_rfl agg85 rfl rfl rfl) rfl ?_
      refine Run.enter wantS_none (ex_closure rfl rfl mkk71 cal71) Tryz.func71 rfl rfl ?_
      refine Run.seq (Run.region ?_)
      refine Run.opX wantS_none rfl (ExG.box rfl rfl hH69) ?_
      rintro _ M72 ⟨b71, rfl, hH72⟩
      refine Run.opG wantS_none (ex_assign rfl) rfl ?_
      refine Run.opsEnd (Run.seq (Run.region ?_))
      refine Run.opG wantS_none (ex_load1 rfl (hH72.cells (i := 4) rfl 0 rfl) rdLe_rfl agg93) rfl ?_
      refine Run.opG wantS_none (ex_load1 rfl (hH72.cells (i := 6) rfl 0 rfl) rdLe_rfl agg35) rfl ?_
      refine Run.opG wantS_none (ex_loadA rfl (hH72.cells (i := 0) rfl 0 rfl) rdLe_rfl agg85 rfl rfl rfl) rfl ?_
      obtain ⟨r74, hr74, h⟩ := bnd_some h
      refine Run.callP wantS_none (ex_call rfl mkk72 cal72) rfl (sky_fit_ok F l39 c22_0 r63 s39 sc22_0 _ _ (hH72.slc (i := 5) rfl enc99_len) (hH72.slcF hc22_0) hr74) ?_
      refine Run.opG wantS_none (ex_assign rfl) rfl ?_
      refine Run.opsEnd ?_
      refine Run.retTo Tryz.func71 rfl (res_tmp rfl res_nil) rfl ?_
      refine Run.opsEnd ?_
      rcases btf (r74) with hc76 | hc76
      · have h := bif_t hc76 h
        refine Run.condT' rfl hc76 ?_
        refine Run.region ?_
        refine Run.opG wantS_none (ex_load1 rfl (hH72.cells (i := 7) rfl 0 rfl) rdLe_rfl agg36) rfl ?_
        refine Run.opG wantS_none (ex_move rfl) rfl ?_
        refine Run.opX wantS_none rfl (ExG.built (enc := enc3) (l := ([v6] : List Int)) (z := 1) rfl elt36 rfl rfl rfl enc3_len hH72) ?_
        rintro s78 M79 (hH79 : Has Fr M79 [.vec 3 1 ([v6] : List Int).length s78 (([v6] : List Int).flatMap enc3), .obj b71 (.row 85 .whole [(.int .i64 r63.e0), (.int .i64 r63.e1), (.int .i64 r63.e2)]), .obj b66 (.row 85 .whole [(.int .i64 r63.e0), (.int .i64 r63.e1), (.int .i64 r63.e2)]), .obj b54 (.loop ⟨.busy, none, 67, 20, treeOf [(3, (.ptr b46 0)), (4, .nils), (5, (.ptr b49 0)), (9, (.fn (.func 156) [] [(.ptr b52 0)]))], [10, 11], (atC Tryz.prog 67 [1, 1, 0, 1, 0, 0]), (atC Tryz.prog 67 [1, 1, 0, 1, 0, 1]), b55⟩), .obj b46 (.row 89 .whole [(.fn (.func 71) [] [(.ptr b42 0), (.ptr b22 0)])]), .obj b42 (.row 93 .whole [s39]), .vec 99 9 l39.length s39 (l39.flatMap enc99), .obj b22 (.row 35 .whole [sc22_0]), .obj b49 (.row 36 .whole [s59]), .vec 3 1 l59.length s59 (l59.flatMap enc3), .obj b52 (.row 81 .whole [(.int .i64 c52_0)]), .obj b55 .defd])
        obtain ⟨l82, hl82, h⟩ := bnd_some h
        refine Run.opX wantS_none rfl (ExG.append rfl rfl hH79 (i := 9) rfl enc3_len rfl enc3_ones appt36_36 rfl (len_slc (hH79.slc (i := 0) rfl enc3_len)) (first_slc (hH79.slc (i := 0) rfl enc3_len) (rdLe_rdRow _) enc3_len) hl82) ?_
        rintro s82 M84 (hH84 : Has Fr M84 [.vec 3 1 ([v6] : List Int).length s78 (([v6] : List Int).flatMap enc3), .obj b71 (.row 85 .whole [(.int .i64 r63.e0), (.int .i64 r63.e1), (.int .i64 r63.e2)]), .obj b66 (.row 85 .whole [(.int .i64 r63.e0), (.int .i64 r63.e1), (.int .i64 r63.e2)]), .obj b54 (.loop ⟨.busy, none, 67, 20, treeOf [(3, (.ptr b46 0)), (4, .nils), (5, (.ptr b49 0)), (9, (.fn (.func 156) [] [(.ptr b52 0)]))], [10, 11], (atC Tryz.prog 67 [1, 1, 0, 1, 0, 0]), (atC Tryz.prog 67 [1, 1, 0, 1, 0, 1]), b55⟩), .obj b46 (.row 89 .whole [(.fn (.func 71) [] [(.ptr b42 0), (.ptr b22 0)])]), .obj b42 (.row 93 .whole [s39]), .vec 99 9 l39.length s39 (l39.flatMap enc99), .obj b22 (.row 35 .whole [sc22_0]), .obj b49 (.row 36 .whole [s59]), .vec 3 1 l82.length s82 (l82.flatMap enc3), .obj b52 (.row 81 .whole [(.int .i64 c52_0)]), .obj b55 .defd])
        refine Run.opX wantS_none rfl (ExG.storeC (c' := [s82]) rfl rfl (cells_one (vec_one hH84 (i := 9) rfl)) hH84 (i := 8) rfl sz36 rfl rfl rfl (ones_cons (vec_one hH84 (i := 9) rfl) ones_nil) rfl) ?_
        rintro _ M85 ⟨rfl, (hH85 : Has Fr M85 [.vec 3 1 ([v6] : List Int).length s78 (([v6] : List Int).flatMap enc3), .obj b71 (.row 85 .whole [(.int .i64 r63.e0), (.int .i64 r63.e1), (.int .i64 r63.e2)]), .obj b66 (.row 85 .whole [(.int .i64 r63.e0), (.int .i64 r63.e1), (.int .i64 r63.e2)]), .obj b54 (.loop ⟨.busy, none, 67, 20, treeOf [(3, (.ptr b46 0)), (4, .nils), (5, (.ptr b49 0)), (9, (.fn (.func 156) [] [(.ptr b52 0)]))], [10, 11], (atC Tryz.prog 67 [1, 1, 0, 1, 0, 0]), (atC Tryz.prog 67 [1, 1, 0, 1, 0, 1]), b55⟩), .obj b46 (.row 89 .whole [(.fn (.func 71) [] [(.ptr b42 0), (.ptr b22 0)])]), .obj b42 (.row 93 .whole [s39]), .vec 99 9 l39.length s39 (l39.flatMap enc99), .obj b22 (.row 35 .whole [sc22_0]), .obj b49 (.row 36 .whole [s82]), .vec 3 1 l82.length s82 (l82.flatMap enc3), .obj b52 (.row 81 .whole [(.int .i64 c52_0)]), .obj b55 .defd])⟩
        refine Run.opsEnd (Run.inBlock ?_)
        refine Run.roundEndX hH85 (i := 3) rfl rfl ?_
        intro M86 (hH86 : Has Fr M86 [.vec 3 1 ([v6] : List Int).length s78 (([v6] : List Int).flatMap enc3), .obj b71 (.row 85 .whole [(.int .i64 r63.e0), (.int .i64 r63.e1), (.int .i64 r63.e2)]), .obj b66 (.row 85 .whole [(.int .i64 r63.e0), (.int .i64 r63.e1), (.int .i64 r63.e2)]), .obj b54 (.loop ⟨.ready, none, 67, 20, treeOf [(3, (.ptr b46 0)), (4, .nils), (5, (.ptr b49 0)), (9, (.fn (.func 156) [] [(.ptr b52 0)]))], [10, 11], (atC Tryz.prog 67 [1, 1, 0, 1, 0, 0]), (atC Tryz.prog 67 [1, 1, 0, 1, 0, 1]), b55⟩), .obj b46 (.row 89 .whole [(.fn (.func 71) [] [(.ptr b42 0), (.ptr b22 0)])]), .obj b42 (.row 93 .whole [s39]), .vec 99 9 l39.length s39 (l39.flatMap enc99), .obj b22 (.row 35 .whole [sc22_0]), .obj b49 (.row 36 .whole [s82]), .vec 3 1 l82.length s82 (l82.flatMap enc3), .obj b52 (.row 81 .whole [(.int .i64 c52_0)]), .obj b55 .defd])
        refine Run.opG wantS_none (ex_not rfl) rfl ?_
        refine Run.opsEnd ?_
        refine Run.condF' rfl (bnot_f rfl) ?_
        refine Run.skip (Run.inBlock (Run.region ?_))
        refine Run.opG wantS_none (ex_add rfl rfl) rfl ?_
        refine Run.opG wantS_none (ex_move rfl) rfl ?_
        refine Run.opsEnd (Run.inLoop ?_)
        exact Run.low (.cons (fle_pick [5] rfl) (.cons (fle_pick [] rfl) .nil)) (Run.pick [0, 1, 5, 6] (ih v5 (w64 (v6 + (1 : Int))) c22_0 c52_0 l39 l82 sc22_0 b54 b46 b42 s39 b22 b49 s82 b52 b55 _ _ _ hc22_0 (hH86.pick [3, 4, 5, 6, 7, 8, 9, 10, 11] rfl rfl) h))
      · have h := bif_f hc76 h
        refine Run.condF' rfl hc76 ?_
        refine Run.skip (Run.inBlock ?_)
        refine Run.roundEndX hH72 (i := 2) rfl rfl ?_
        intro M87 (hH87 : Has Fr M87 [.obj b71 (.row 85 .whole [(.int .i64 r63.e0), (.int .i64 r63.e1), (.int .i64 r63.e2)]), .obj b66 (.row 85 .whole [(.int .i64 r63.e0), (.int .i64 r63.e1), (.int .i64 r63.e2)]), .obj b54 (.loop ⟨.ready, none, 67, 20, treeOf [(3, (.ptr b46 0)), (4, .nils), (5, (.ptr b49 0)), (9, (.fn (.func 156) [] [(.ptr b52 0)]))], [10, 11], (atC Tryz.prog 67 [1, 1, 0, 1, 0, 0]), (atC Tryz.prog 67 [1, 1, 0, 1, 0, 1]), b55⟩), .obj b46 (.row 89 .whole [(.fn (.func 71) [] [(.ptr b42 0), (.ptr b22 0)])]), .obj b42 (.row 93 .whole [s39]), .vec 99 9 l39.length s39 (l39.flatMap enc99), .obj b22 (.row 35 .whole [sc22_0]), .obj b49 (.row 36 .whole [s59]), .vec 3 1 l59.length s59 (l59.flatMap enc3), .obj b52 (.row 81 .whole [(.int .i64 c52_0)]), .obj b55 .defd])
        refine Run.opG wantS_none (ex_not rfl) rfl ?_
        refine Run.opsEnd ?_
        refine Run.condF' rfl (bnot_f rfl) ?_
        refine Run.skip (Run.inBlock (Run.region ?_))
        refine Run.opG wantS_none (ex_add rfl rfl) rfl ?_
        refine Run.opG wantS_none (ex_move rfl) rfl ?_
        refine Run.opsEnd (Run.inLoop ?_)
        exact Run.low (.cons (fle_pick [5] rfl) (.cons (fle_pick [] rfl) .nil)) (Run.pick [0, 1, 5, 6] (ih v5 (w64 (v6 + (1 : Int))) c22_0 c52_0 l39 l59 sc22_0 b54 b46 b42 s39 b22 b49 s59 b52 b55 _ _ _ hc22_0 (hH87.pick [2, 3, 4, 5, 6, 7, 8, 9, 10] rfl rfl) h))
    · have h := bif_f hc61 h
      refine Run.condF' rfl hc61 ?_
      refine Run.exit rfl ?_
      refine Run.fallRange Tryz.func156 rfl res_nil ?_
      refine Run.endX hH (i := 0) rfl (fun hc => by cases hc) ?_
      intro M88 (hH88 : Has Fr M88 [.obj b54 (.loop ⟨.exhausted, none, 67, 20, treeOf [(3, (.ptr b46 0)), (4, .nils), (5, (.ptr b49 0)), (9, (.fn (.func 156) [] [(.ptr b52 0)]))], [10, 11], (atC Tryz.prog 67 [1, 1, 0, 1, 0, 0]), (atC Tryz.prog 67 [1, 1, 0, 1, 0, 1]), b55⟩), .obj b46 (.row 89 .whole [(.fn (.func 71) [] [(.ptr b42 0), (.ptr b22 0)])]), .obj b42 (.row 93 .whole [s39]), .vec 99 9 l39.length s39 (l39.flatMap enc99), .obj b22 (.row 35 .whole [sc22_0]), .obj b49 (.row 36 .whole [s59]), .vec 3 1 l59.length s59 (l59.flatMap enc3), .obj b52 (.row 81 .whole [(.int .i64 c52_0)]), .obj b55 .defd])
      refine Run.inBlock (Run.seq (Run.region ?_))
      refine Run.opG wantS_none (ex_load1 rfl (hH88.cells (i := 5) rfl 0 rfl) rdLe_rfl agg36) rfl ?_
      refine Run.opG wantS_none (ex_assign rfl) rfl ?_
      refine Run.opsEnd ?_
      obtain ⟨hH89x, hS89⟩ := hH88.shut (i := 8) (ds := []) rfl
      have hH89 : Has Fr (setT M88 b55 none) [.obj b54 (.loop ⟨.exhausted, none, 67, 20, treeOf [(3, (.ptr b46 0)), (4, .nils), (5, (.ptr b49 0)), (9, (.fn (.func 156) [] [(.ptr b52 0)]))], [10, 11], (atC Tryz.prog 67 [1, 1, 0, 1, 0, 0]), (atC Tryz.prog 67 [1, 1, 0, 1, 0, 1]), b55⟩), .obj b46 (.row 89 .whole [(.fn (.func 71) [] [(.ptr b42 0), (.ptr b22 0)])]), .obj b42 (.row 93 .whole [s39]), .vec 99 9 l39.length s39 (l39.flatMap enc99), .obj b22 (.row 35 .whole [sc22_0]), .obj b49 (.row 36 .whole [s59]), .vec 3 1 l59.length s59 (l59.flatMap enc3), .obj b52 (.row 81 .whole [(.int .i64 c52_0)]), .vec 0 0 0 .nils []] := hH89x
      refine Run.retTo Tryz.func67 (hS89 _ rfl) (res_tmp rfl res_nil) rfl ?_
      refine Run.opG wantS_none (ex_assign rfl) rfl ?_
      refine Run.opG wantS_none (ex_assign rfl) rfl ?_
      refine Run.opsEnd ?_
      cases h
      exact Run.ret Tryz.func22 rfl (res_tmp rfl (res_tmp rfl res_nil)) ⟨_, rfl, (hH89.pick [6] rfl rfl).upF (none_le _)⟩

def sky_Fits (F : Nat) (a0 : (List S_api_Site)) (a1 : Int) (a2 : (List S_api_Arrival)) : Option ((List Int) × Int) :=
  bnd (sky_checkNetGrid F a0 a1) fun r25 =>
  bif (!(r25 == (0 : Int))) then
    some (([] : List Int), r25)
  else
    bnd (sky_areArrivals F a2 (a0.length : Int)) fun r31 =>
    bif (!r31) then
      some (([] : List Int), (92 : Int))
    else
      bnd (sky_sitesOf F a0) fun r38 =>
      bnd (sky_grid_cells F a1) fun r57 =>
      sky_Fits_1 F F r57 (0 : Int) a2 a1 r38 ([] : List Int)

theorem sky_Fits_ok (F : Nat) (a0 : (List S_api_Site)) (a1 : Int) (a2 : (List S_api_Arrival)) (s0 s1 : SV) (r : (List Int) × Int) (M : Mem) (hs0 : Slc (rd M) 10 (FlatR enc105) s0 a0) (hs1 : Slc (rd M) 3 (FlatR enc67) s1 a2) (h : sky_Fits F a0 a1 a2 = some r) : CallsM Tryz.prog 22 [s0, (.int .i64 a1), s1] M (fun s M' => ∃ q1, s = (.tuple [q1, (.int .i64 r.2)]) ∧ New M M' [.vec 3 1 r.1.length q1 (r.1.flatMap enc3)]) := by
  refine CallsM.fresh (Q := sky_Fits_post r) Tryz.func22 rfl rfl ?_ (by rintro s Me ⟨q1, rfl, hx⟩ ha hw; exact ⟨_, rfl, New.of rfl hx ha hw⟩)
  rw [sky_Fits] at h
  replace hs0 := hs0.mono (rdLe_frozen M) (fun _ _ h => h)
  replace hs1 := hs1.mono (rdLe_frozen M) (fun _ _ h => h)
  have hH := Has.nil (frozen M)
  refine Run.seq (Run.region ?_)
  refine Run.opX wantS_none rfl (ExG.box rfl (cells_one (slc_one hs1)) hH) ?_
  rintro _ M23 ⟨b22, rfl, hH23⟩
  refine Run.opG wantS_none (ex_assign rfl) rfl ?_
  refine Run.opG wantS_none (ex_assign rfl) rfl ?_
  refine Run.opsEnd (Run.seq (Run.seq (Run.region ?_)))
  refine Run.opG wantS_none (ex_move rfl) rfl ?_
  refine Run.opG wantS_none (ex_move rfl) rfl ?_
  obtain ⟨r25, hr25, h⟩ := bnd_some h
  refine Run.callP wantS_none (ex_call rfl mkk59 cal59) rfl (sky_checkNetGrid_ok F a0 a1 s0 _ _ (hH23.slcF hs0) hr25) ?_
  refine Run.opG wantS_none (ex_assign rfl) rfl ?_
  refine Run.opsEnd (Run.block (Run.seq (Run.region ?_)))
  refine Run.opG wantS_none (ex_move rfl) rfl ?_
  refine Run.opG wantS_none (ex_neq rfl rfl) rfl ?_
  refine Run.opG wantS_none (ex_assign rfl) rfl ?_
  refine Run.opsEnd ?_
  rcases btf ((!(r25 == (0 : Int)))) with hc27 | hc27
  · have h := bif_t hc27 h
    refine Run.condT' rfl hc27 ?_
    refine Run.seq (Run.region ?_)
    refine Run.opG wantS_none (ex_move rfl) rfl ?_
    refine Run.opG wantS_none (ex_assign rfl) rfl ?_
    refine Run.opG wantS_none (ex_assign rfl) rfl ?_
    refine Run.opsEnd ?_
    have hH29 : Has (ro (frozen M)) M23 [.vec 3 1 ([] : List Int).length .nils (([] : List Int).flatMap enc3), .obj b22 (.row 35 .whole [s1])] := hH23.nils 3 1
    cases h
    exact Run.ret Tryz.func22 rfl (res_tmp rfl (res_tmp rfl res_nil)) ⟨_, rfl, (hH29.pick [0] rfl rfl).upF (none_le _)⟩
  · have h := bif_f hc27 h
    refine Run.condF' rfl hc27 ?_
    refine Run.seq (Run.region ?_)
    refine Run.opG wantS_none (ex_load1 rfl (hH23.cells (i := 0) rfl 0 rfl) rdLe_rfl agg35) rfl ?_
    refine Run.opG wantS_none (ex_move rfl) rfl ?_
    refine Run.opG wantS_none (ex_len' rfl hs0 lenk31) rfl ?_
    obtain ⟨r31, hr31, h⟩ := bnd_some h
    refine Run.callP wantS_none (ex_call rfl mkk70 cal70) rfl (sky_areArrivals_ok F a2 (a0.length : Int) s1 _ _ (hH23.slcF hs1) hr31) ?_
    refine Run.opG wantS_none (ex_not rfl) rfl ?_
    refine Run.opG wantS_none (ex_assign rfl) rfl ?_
    refine Run.opsEnd ?_
    rcases btf ((!r31)) with hc33 | hc33
    · have h := bif_t hc33 h
      refine Run.condT' rfl hc33 ?_
      refine Run.seq (Run.region ?_)
      refine Run.opG wantS_none (ex_assign rfl) rfl ?_
      refine Run.opG wantS_none (ex_assign rfl) rfl ?_
      refine Run.opsEnd ?_
      have hH35 : Has (ro (frozen M)) M23 [.vec 3 1 ([] : List Int).length .nils (([] : List Int).flatMap enc3), .obj b22 (.row 35 .whole [s1])] := hH23.nils 3 1
      cases h
      exact Run.ret Tryz.func22 rfl (res_tmp rfl (res_tmp rfl res_nil)) ⟨_, rfl, (hH35.pick [0] rfl rfl).upF (none_le _)⟩
    · have h := bif_f hc33 h
      refine Run.condF' rfl hc33 ?_
      refine Run.skip (Run.inBlock (Run.seq (Run.region ?_)))
      refine Run.opG wantS_none (ex_move rfl) rfl ?_
      obtain ⟨r38, hr38, h⟩ := bnd_some h
      refine Run.callX wantS_none (ex_call rfl mkk63 cal63) rfl (sky_sitesOf_ok F a0 s0 _ _ (hH23.slcF hs0) hr38) ?_
      rintro s38_0 M40 ⟨_, rfl, hN38⟩
      have hH40 : Has (ro (frozen M)) M40 [.vec 99 9 r38.length s38_0 (r38.flatMap enc99), .obj b22 (.row 35 .whole [s1])] := hN38.1 _ _ hH23
      refine Run.opX wantS_none rfl (ExG.new (v := fun b => .ptr b 0) (ex_alloc zer93) hH40) ?_
      rintro _ M43 ⟨b42, rfl, hH43⟩
      refine Run.opX wantS_none rfl (ExG.storeC (c' := [s38_0]) rfl rfl (cells_one (vec_one hH43 (i := 1) rfl)) hH43 (i := 0) rfl sz93 rfl rfl rfl (ones_cons (vec_one hH43 (i := 1) rfl) ones_nil) rfl) ?_
      rintro _ M44 ⟨rfl, (hH44 : Has (ro (frozen M)) M44 [.obj b42 (.row 93 .whole [s38_0]), .vec 99 9 r38.length s38_0 (r38.flatMap enc99), .obj b22 (.row 35 .whole [s1])])⟩
      refine Run.opsEnd (Run.seq (Run.region ?_))
      refine Run.opG wantS_none (ex_move rfl) rfl ?_
      refine Run.opG wantS_none (ex_makeFunc rfl rfl) rfl ?_
      refine Run.enter wantS_none (ex_call rfl mkk67 cal67) Tryz.func67 rfl rfl ?_
      refine Run.seq (Run.region ?_)
      refine Run.opX wantS_none rfl (ExG.box rfl rfl hH44) ?_
      rintro _ M47 ⟨b46, rfl, hH47⟩
      refine Run.opG wantS_none (ex_assign rfl) rfl ?_
      refine Run.opsEnd (Run.seq (Run.region ?_))
      refine Run.opX wantS_none rfl (ExG.new (v := fun b => .ptr b 0) (ex_alloc zer36) hH47) ?_
      rintro _ M50 ⟨b49, rfl, hH50⟩
      refine Run.opsEnd (Run.seq (Run.seq (Run.region ?_)))
      refine Run.opG wantS_none (ex_move rfl) rfl ?_
      refine Run.enter wantS_none (ex_call rfl mkk114 cal114) Tryz.func114 rfl rfl ?_
      refine Run.seq (Run.region ?_)
      refine Run.opX wantS_none rfl (ExG.box rfl rfl hH50) ?_
      rintro _ M53 ⟨b52, rfl, hH53⟩
      refine Run.opG wantS_none (ex_assign rfl) rfl ?_
      refine Run.opsEnd (Run.seq (Run.region ?_))
      refine Run.opG wantS_none (ex_makeFunc rfl rfl) rfl ?_
      refine Run.opG wantS_none (ex_assign rfl) rfl ?_
      refine Run.opsEnd ?_
      refine Run.retTo Tryz.func114 rfl (res_tmp rfl res_nil) rfl ?_
      refine Run.opsEnd (Run.block ?_)
      refine Run.pick [3, 4, 5, 9] ?_
      refine Run.rangeX rfl cal156 Tryz.func156 rfl rfl hH53 ?_
      intro b55 b54 M54 (hH54 : Has (ro (frozen M)) M54 [.obj b54 (.loop ⟨.ready, none, 67, 20, treeOf [(3, (.ptr b46 0)), (4, .nils), (5, (.ptr b49 0)), (9, (.fn (.func 156) [] [(.ptr b52 0)]))], [10, 11], (atC Tryz.prog 67 [1, 1, 0, 1, 0, 0]), (atC Tryz.prog 67 [1, 1, 0, 1, 0, 1]), b55⟩), .obj b55 .defd, .obj b52 (.row 81 .whole [(.int .i64 a1)]), .obj b49 (.row 36 .whole [.nils]), .obj b46 (.row 89 .whole [(.fn (.func 71) [] [(.ptr b42 0), (.ptr b22 0)])]), .obj b42 (.row 93 .whole [s38_0]), .vec 99 9 r38.length s38_0 (r38.flatMap enc99), .obj b22 (.row 35 .whole [s1])])
      refine Run.seq (Run.region ?_)
      refine Run.opG wantS_none (ex_load1 rfl (hH54.cells (i := 2) rfl 0 rfl) rdLe_rfl agg81) rfl ?_
      obtain ⟨r57, hr57, h⟩ := bnd_some h
      refine Run.callP wantS_none (ex_call rfl mkk49 cal49) rfl (sky_grid_cells_ok F a1 _ _ hr57) ?_
      refine Run.opG wantS_none (ex_move rfl) rfl ?_
      refine Run.opsEnd (Run.block (Run.loop ?_))
      have hH60 : Has (ro (frozen M)) M54 [.vec 3 1 ([] : List Int).length .nils (([] : List Int).flatMap enc3), .obj b54 (.loop ⟨.ready, none, 67, 20, treeOf [(3, (.ptr b46 0)), (4, .nils), (5, (.ptr b49 0)), (9, (.fn (.func 156) [] [(.ptr b52 0)]))], [10, 11], (atC Tryz.prog 67 [1, 1, 0, 1, 0, 0]), (atC Tryz.prog 67 [1, 1, 0, 1, 0, 1]), b55⟩), .obj b55 .defd, .obj b52 (.row 81 .whole [(.int .i64 a1)]), .obj b49 (.row 36 .whole [.nils]), .obj b46 (.row 89 .whole [(.fn (.func 71) [] [(.ptr b42 0), (.ptr b22 0)])]), .obj b42 (.row 93 .whole [s38_0]), .vec 99 9 r38.length s38_0 (r38.flatMap enc99), .obj b22 (.row 35 .whole [s1])] := hH54.nils 3 1
      exact Run.low (.cons (fle_pick [5] rfl) (.cons (fle_pick [] rfl) .nil)) (Run.pick [0, 1, 5, 6] (sky_Fits_1_ok F F r57 (0 : Int) a2 a1 r38 ([] : List Int) s1 b54 b46 b42 s38_0 b22 b49 .nils b52 b55 _ _ _ hs1 (hH60.pick [1, 5, 6, 7, 8, 4, 0, 3, 2] rfl rfl) h))

theorem mkk22 : makeK Tryz.prog 22 = none := by kernel_rfl
theorem cal22 : callable Tryz.prog 22 = true := by kernel_rfl
theorem lenk36 : lenK Tryz.prog 36 = some .sl := by kernel_rfl
theorem mkk18 : makeK Tryz.prog 18 = none := by kernel_rfl
theorem cal18 : callable Tryz.prog 18 = true := by kernel_rfl
abbrev sky_Cells_post (r : Int × Int) : SV → Mem → Prop := fun s _ => s = (.tuple [(.int .i64 r.1), (.int .i64 r.2)])

def sky_Cells (F : Nat) (a0 : Int) : Option (Int × Int) :=
  bnd (sky_checkGrid F a0) fun r22 =>
  bif (!(r22 == (0 : Int))) then
    some ((0 : Int), r22)
  else
    bnd (sky_grid_cells F a0) fun r26 =>
    some (r26, (0 : Int))

theorem sky_Cells_ok (F : Nat) (a0 : Int) (r : Int × Int) (M : Mem) (h : sky_Cells F a0 = some r) : CallsM Tryz.prog 12 [(.int .i64 a0)] M (fun s M' => s = (.tuple [(.int .i64 r.1), (.int .i64 r.2)]) ∧ M' = M) := by
  refine CallsM.plain Tryz.func12 rfl rfl rfl (show Run _ _ _ (sky_Cells_post r) _ _ _ from ?_)
  rw [sky_Cells] at h
  have hH := Has.nil (frozen M)
  refine Run.seq (Run.region ?_)
  refine Run.opG wantS_none (ex_assign rfl) rfl ?_
  refine Run.opG wantS_none (ex_assign rfl) rfl ?_
  refine Run.opsEnd (Run.seq (Run.seq (Run.region ?_)))
  refine Run.opG wantS_none (ex_move rfl) rfl ?_
  obtain ⟨r22, hr22, h⟩ := bnd_some h
  refine Run.callP wantS_none (ex_call rfl mkk48 cal48) rfl (sky_checkGrid_ok F a0 _ _ hr22) ?_
  refine Run.opG wantS_none (ex_assign rfl) rfl ?_
  refine Run.opsEnd (Run.seq (Run.region ?_))
  refine Run.opG wantS_none (ex_move rfl) rfl ?_
  refine Run.opG wantS_none (ex_neq rfl rfl) rfl ?_
  refine Run.opsEnd ?_
  rcases btf ((!(r22 == (0 : Int)))) with hc24 | hc24
  · have h := bif_t hc24 h
    refine Run.condT' rfl hc24 ?_
    refine Run.seq (Run.region ?_)
    refine Run.opG wantS_none (ex_move rfl) rfl ?_
    refine Run.opG wantS_none (ex_assign rfl) rfl ?_
    refine Run.opG wantS_none (ex_assign rfl) rfl ?_
    refine Run.opsEnd ?_
    cases h
    exact Run.ret Tryz.func12 rfl (res_tmp rfl (res_tmp rfl res_nil)) rfl
  · have h := bif_f hc24 h
    refine Run.condF' rfl hc24 ?_
    refine Run.skip (Run.seq (Run.region ?_))
    refine Run.opG wantS_none (ex_move rfl) rfl ?_
    obtain ⟨r26, hr26, h⟩ := bnd_some h
    refine Run.callP wantS_none (ex_call rfl mkk49 cal49) rfl (sky_grid_cells_ok F a0 _ _ hr26) ?_
    refine Run.opG wantS_none (ex_assign rfl) rfl ?_
    refine Run.opG wantS_none (ex_assign rfl) rfl ?_
    refine Run.opsEnd ?_
    cases h
    exact Run.ret Tryz.func12 rfl (res_tmp rfl (res_tmp rfl res_nil)) rfl

theorem mkk12 : makeK Tryz.prog 12 = none := by kernel_rfl
theorem cal12 : callable Tryz.prog 12 = true := by kernel_rfl
abbrev sky_isBetween_post (r : Bool) : SV → Mem → Prop := fun s _ => s = (.bool r)

def sky_isBetween_2 (F : Nat) (v21 : Bool) : Option (Bool) :=
  some v21

theorem sky_isBetween_2_ok (F : Nat) : ∀ (v21 : Bool) (Fr : Rd) (M : Mem) (r : Bool) (hH : Has Fr M []), sky_isBetween_2 F v21 = some r → Run Tryz.prog ⟨⟨60, [], none⟩, []⟩ 22 (sky_isBetween_post r) [(21, (.bool v21))] [itemC Tryz.prog 60 [1, 0] 15, codeC Tryz.prog 60 [1, 1]] M := by
  intro v21 Fr M r hH h
  rw [sky_isBetween_2] at h
  refine Run.opG wantS_none (ex_assign rfl) rfl ?_
  refine Run.opsEnd ?_
  cases h
  exact Run.ret Tryz.func60 rfl (res_tmp rfl res_nil) rfl

def sky_isBetween_1 (F : Nat) (v0 v1 : Int) (v16 : Bool) : Option (Bool) :=
  bif v16 then
    sky_isBetween_2 F (!(v0 == v1))
  else
    sky_isBetween_2 F false

theorem sky_isBetween_1_ok (F : Nat) : ∀ (v0 v1 : Int) (v16 : Bool) (Fr : Rd) (M : Mem) (r : Bool) (hH : Has Fr M []), sky_isBetween_1 F v0 v1 v16 = some r → Run Tryz.prog ⟨⟨60, [], none⟩, []⟩ 22 (sky_isBetween_post r) [(0, (.int .i64 v0)), (1, (.int .i64 v1)), (16, (.bool v16))] [itemC Tryz.prog 60 [1, 0] 10, codeC Tryz.prog 60 [1, 1]] M := by
  intro v0 v1 v16 Fr M r hH h
  rw [sky_isBetween_1] at h
  refine Run.opG wantS_none (ex_move rfl) rfl ?_
  rcases btf (v16) with hc28 | hc28
  · have h := bif_t hc28 h
    refine Run.opG (wantS_yes' rfl rfl hc28) (ex_move rfl) rfl ?_
    refine Run.opG (wantS_yes' rfl rfl hc28) (ex_move rfl) rfl ?_
    refine Run.opG (wantS_yes' rfl rfl hc28) (ex_neq rfl rfl) rfl ?_
    refine Run.opG wantS_none (ex_pickT' rfl hc28 rfl rfl) rfl ?_
    exact Run.pick [21] (sky_isBetween_2_ok F (!(v0 == v1)) _ _ _ hH h)
  · have h := bif_f hc28 h
    refine Run.no (wantS_not' rfl rfl hc28) rfl ?_
    refine Run.no (wantS_not' rfl rfl hc28) rfl ?_
    refine Run.no (wantS_not' rfl rfl hc28) rfl ?_
    refine Run.opG wantS_none (ex_pickF' rfl hc28 rfl rfl) rfl ?_
    exact Run.pick [21] (sky_isBetween_2_ok F false _ _ _ hH h)

def sky_isBetween (F : Nat) (a0 a1 a2 : Int) : Option (Bool) :=
  bnd (sky_isFrom F (0 : Int) a0 (w64 (a2 - (1 : Int)))) fun r22 =>
  bif r22 then
    bnd (sky_isFrom F (0 : Int) a1 (w64 (a2 - (1 : Int)))) fun r26 =>
    sky_isBetween_1 F a0 a1 r26
  else
    sky_isBetween_1 F a0 a1 false

theorem sky_isBetween_ok (F : Nat) (a0 a1 a2 : Int) (r : Bool) (M : Mem) (h : sky_isBetween F a0 a1 a2 = some r) : CallsM Tryz.prog 60 [(.int .i64 a0), (.int .i64 a1), (.int .i64 a2)] M (fun s M' => s = (.bool r) ∧ M' = M) := by
  refine CallsM.plain Tryz.func60 rfl rfl rfl (show Run _ _ _ (sky_isBetween_post r) _ _ _ from ?_)
  rw [sky_isBetween] at h
  have hH := Has.nil (frozen M)
  refine Run.seq (Run.region ?_)
  refine Run.opG wantS_none (ex_assign rfl) rfl ?_
  refine Run.opsEnd (Run.seq (Run.region ?_))
  refine Run.opG wantS_none (ex_move rfl) rfl ?_
  refine Run.opG wantS_none (ex_move rfl) rfl ?_
  refine Run.opG wantS_none (ex_sub rfl rfl) rfl ?_
  obtain ⟨r22, hr22, h⟩ := bnd_some h
  refine Run.callP wantS_none (ex_call rfl mkk62 cal62) rfl (sky_isFrom_ok F (0 : Int) a0 (w64 (a2 - (1 : Int))) _ _ hr22) ?_
  refine Run.opG wantS_none (ex_move rfl) rfl ?_
  rcases btf (r22) with hc24 | hc24
  · have h := bif_t hc24 h
    refine Run.opG (wantS_yes' rfl rfl hc24) (ex_move rfl) rfl ?_
    refine Run.opG (wantS_yes' rfl rfl hc24) (ex_move rfl) rfl ?_
    refine Run.opG (wantS_yes' rfl rfl hc24) (ex_sub rfl rfl) rfl ?_
    obtain ⟨r26, hr26, h⟩ := bnd_some h
    refine Run.callP (wantS_yes' rfl rfl hc24) (ex_call rfl mkk62 cal62) rfl (sky_isFrom_ok F (0 : Int) a1 (w64 (a2 - (1 : Int))) _ _ hr26) ?_
    refine Run.opG wantS_none (ex_pickT' rfl hc24 rfl rfl) rfl ?_
    exact Run.pick [0, 1, 16] (sky_isBetween_1_ok F a0 a1 r26 _ _ _ hH h)
  · have h := bif_f hc24 h
    refine Run.no (wantS_not' rfl rfl hc24) rfl ?_
    refine Run.no (wantS_not' rfl rfl hc24) rfl ?_
    refine Run.no (wantS_not' rfl rfl hc24) rfl ?_
    refine Run.no (wantS_not' rfl rfl hc24) rfl ?_
    refine Run.opG wantS_none (ex_pickF' rfl hc24 rfl rfl) rfl ?_
    exact Run.pick [0, 1, 16] (sky_isBetween_1_ok F a0 a1 false _ _ _ hH h)

theorem mkk60 : makeK Tryz.prog 60 = none := by kernel_rfl
theorem cal60 : callable Tryz.prog 60 = true := by kernel_rfl
theorem mkk64 : makeK Tryz.prog 64 = none := by kernel_rfl
theorem cal64 : callable Tryz.prog 64 = true := by kernel_rfl
theorem plan64_1_0 : planOf Tryz.prog (opsC (atC Tryz.prog 64 [1, 0])) = some [.fl 0, .fl 1, .fl 2, .fl 3, .fl 4, .fl 5, .fl 6, .fl 7, .fl 8, .fl 9, .fl 10, .fl 12, .fl 13, .an 11 [13, 12], .an 14 [], .fl 15, .sync] := by kernel_rfl
abbrev sky_Ring_post (r : (List Int) × Int) : SV → Mem → Prop := fun s Me => ∃ q1, s = (.tuple [q1, (.int .i64 r.2)]) ∧ Has (fun _ => none) Me [.vec 3 1 r.1.length q1 (r.1.flatMap enc3)]

def sky_Ring_3 (F : Nat) : Nat → Int → Int → Int → Int → Int → Int → Int → (List S_sky_site) → (List Int) → Option ((List Int) × Int)
  | 0, _, _, _, _, _, _, _, _, _ => none
  | N + 1, v5, v6, c22_0, c25_0, c28_0, c31_0, c63_0, l50, l70 =>
    bif (decide (v6 < v5)) then
      bnd (sky_grid_direction F c63_0 v6) fun r74 =>
      bnd (idx l50 c22_0) fun x84 =>
      bnd (idx l50 c25_0) fun x85 =>
      bnd (sky_place_difference F x84.place x85.place r74) fun r86 =>
      bnd (sky_ratio_isAbout F r86 c28_0 c31_0) fun r88 =>
      bif r88 then
        bnd (apd 8 l70 ([v6] : List Int)) fun l96 =>
        (sky_Ring_3 F N) v5 (w64 (v6 + (1 : Int))) c22_0 c25_0 c28_0 c31_0 c63_0 l50 l96
      else
        (sky_Ring_3 F N) v5 (w64 (v6 + (1 : Int))) c22_0 c25_0 c28_0 c31_0 c63_0 l50 l70
    else
      some (l70, (0 : Int))

theorem sky_Ring_3_ok (F : Nat) : ∀ (N : Nat), ∀ (v5 v6 c22_0 c25_0 c28_0 c31_0 c63_0 : Int) (l50 : (List S_sky_site)) (l70 : (List Int)) (b65 b57 b53 : Pos) (s50 : SV) (b22 b25 b28 b31 b60 : Pos) (s70 : SV) (b63 b66 : Pos) (Fr : Rd) (M : Mem) (r : (List Int) × Int) (hH : Has Fr M [.obj b65 (.loop ⟨.ready, none, 67, 20, treeOf [(3, (.ptr b57 0)), (4, .nils), (5, (.ptr b60 0)), (9, (.fn (.func 156) [] [(.ptr b63 0)]))], [10, 11], (atC Tryz.prog 67 [1, 1, 0, 1, 0, 0]), (atC Tryz.prog 67 [1, 1, 0, 1, 0, 1]), b66⟩), .obj b57 (.row 89 .whole [(.fn (.func 64) [] [(.ptr b53 0), (.ptr b22 0), (.ptr b25 0), (.ptr b28 0), (.ptr b31 0)])]), .obj b53 (.row 93 .whole [s50]), .vec 99 9 l50.length s50 (l50.flatMap enc99), .obj b22 (.row 3 .whole [(.int .i64 c22_0)]), .obj b25 (.row 3 .whole [(.int .i64 c25_0)]), .obj b28 (.row 3 .whole [(.int .i64 c28_0)]), .obj b31 (.row 3 .whole [(.int .i64 c31_0)]), .obj b60 (.row 36 .whole [s70]), .vec 3 1 l70.length s70 (l70.flatMap enc3), .obj b63 (.row 81 .whole [(.int .i64 c63_0)]), .obj b66 .defd]), sky_Ring_3 F N v5 v6 c22_0 c25_0 c28_0 c31_0 c63_0 l50 l70 = some r → Run Tryz.prog ⟨⟨156, [], none⟩, [.mk ⟨67, [b66], none⟩ 20 (treeOf [(5, (.ptr b60 0))]) [.inRange b65, .inBlock 0, codeC Tryz.prog 67 [1, 1, 1]], .mk ⟨19, [], none⟩ 47 (treeOf []) [itemC Tryz.prog 19 [1, 1, 1, 1, 0] 2, codeC Tryz.prog 19 [1, 1, 1, 1, 1]]]⟩ 17 (sky_Ring_post r) [(0, (.yield b65)), (1, (.ptr b63 0)), (5, (.int .i64 v5)), (6, (.int .i64 v6))] [codeC Tryz.prog 156 [1, 0, 0], loopC Tryz.prog 156 [1, 0, 0], .inBlock 0] M := by
  intro N
  induction N with
  | zero =>
    intro v5 v6 c22_0 c25_0 c28_0 c31_0 c63_0 l50 l70 b65 b57 b53 s50 b22 b25 b28 b31 b60 s70 b63 b66 Fr M r hH h
    simp [sky_Ring_3] at h
  | succ N ih =>
    intro v5 v6 c22_0 c25_0 c28_0 c31_0 c63_0 l50 l70 b65 b57 b53 s50 b22 b25 b28 b31 b60 s70 b63 b66 Fr M r hH h
    rw [sky_Ring_3] at h
    refine Run.seq (Run.region ?_)
    refine Run.opG wantS_none (ex_lss rfl rfl) rfl ?_
    refine Run.opsEnd (Run.seq ?_)
    rcases btf ((decide (v6 < v5))) with hc72 | hc72
    · have h := bif_t hc72 h
      refine Run.condT' rfl hc72 ?_
      refine Run.skip (Run.seq (Run.block (Run.seq (Run.region ?_))))
      refine Run.opG wantS_none (ex_move rfl) rfl ?_
      refine Run.opG wantS_none (ex_assign rfl) rfl ?_
      refine Run.opsEnd (Run.seq (Run.region ?_))
      refine Run.opG wantS_none (ex_move rfl) rfl ?_
      refine Run.opG wantS_none (ex_move rfl) rfl ?_
      refine Run.opG wantS_none (ex_load1 rfl (hH.cells (i := 10) rfl 0 rfl) rdLe_rfl agg81) rfl ?_
      refine Run.opG wantS_none (ex_move rfl) rfl ?_
      obtain ⟨r74, hr74, h⟩ := bnd_some h
      refine Run.callP wantS_none (ex_call rfl mkk52 cal52) rfl (sky_grid_direction_ok F c63_0 v6 _ _ hr74) ?_
      refine Run.round (e' := [(11, (.agg [(.int .i64 r74.e0), (.int .i64 r74.e1), (.int .i64 r74.e2)])), (10, (.int .i64 v6)), (3, (.ptr b57 0)), (4, .nils), (5, (.ptr b60 0)), (9, (.fn (.func 156) [] [(.ptr b63 0)]))]) wantS_none (ex_yield hH (i := 0) rfl rfl rfl rfl) (hH.loopOf (i := 0) rfl) rfl ?_
      refine Run.seq (Run.region ?_)
      refine Run.opG wantS_none (ex_assign rfl) rfl ?_
      refine Run.opsEnd (Run.region ?_)
      refine Run.opX wantS_none rfl (ExG.new (v := fun b => .ptr b 0) (ex_alloc zer85) hH) ?_
      rintro _ M78 ⟨b77, rfl, hH78⟩
      refine Run.opX wantS_none rfl (ExG.storeC (c' := [(.int .i64 r74.e0), (.int .i64 r74.e1), (.int .i64 r74.e2)]) rfl rfl rfl hH78 (i := 0) rfl sz85 rfl rfl rfl rfl rfl) ?_
      rintro _ M79 ⟨rfl, (hH79 : Has Fr M79 [.obj b77 (.row 85 .whole [(.int .i64 r74.e0), (.int .i64 r74.e1), (.int .i64 r74.e2)]), .obj b65 (.loop ⟨.ready, none, 67, 20, treeOf [(3, (.ptr b57 0)), (4, .nils), (5, (.ptr b60 0)), (9, (.fn (.func 156) [] [(.ptr b63 0)]))], [10, 11], (atC Tryz.prog 67 [1, 1, 0, 1, 0, 0]), (atC Tryz.prog 67 [1, 1, 0, 1, 0, 1]), b66⟩), .obj b57 (.row 89 .whole [(.fn (.func 64) [] [(.ptr b53 0), (.ptr b22 0), (.ptr b25 0), (.ptr b28 0), (.ptr b31 0)])]), .obj b53 (.row 93 .whole [s50]), .vec 99 9 l50.length s50 (l50.flatMap enc99), .obj b22 (.row 3 .whole [(.int .i64 c22_0)]), .obj b25 (.row 3 .whole [(.int .i64 c25_0)]), .obj b28 (.row 3 .whole [(.int .i64 c28_0)]), .obj b31 (.row 3 .whole [(.int .i64 c31_0)]), .obj b60 (.row 36 .whole [s70]), .vec 3 1 l70.length s70 (l70.flatMap enc3), .obj b63 (.row 81 .whole [(.int .i64 c63_0)]), .obj b66 .defd])⟩
      refine Run.opsEnd ?_
      refine Run.beginX hH79 (i := 1) rfl rfl ?_
      intro M80 (hH80 : Has Fr M80 [.obj b77 (.row 85 .whole [(.int .i64 r74.e0), (.int .i64 r74.e1), (.int .i64 r74.e2)]), .obj b65 (.loop ⟨.busy, none, 67, 20, treeOf [(3, (.ptr b57 0)), (4, .nils), (5, (.ptr b60 0)), (9, (.fn (.func 156) [] [(.ptr b63 0)]))], [10, 11], (atC Tryz.prog 67 [1, 1, 0, 1, 0, 0]), (atC Tryz.prog 67 [1, 1, 0, 1, 0, 1]), b66⟩), .obj b57 (.row 89 .whole [(.fn (.func 64) [] [(.ptr b53 0), (.ptr b22 0), (.ptr b25 0), (.ptr b28 0), (.ptr b31 0)])]), .obj b53 (.row 93 .whole [s50]), .vec 99 9 l50.length s50 (l50.flatMap enc99), .obj b22 (.row 3 .whole [(.int .i64 c22_0)]), .obj b25 (.row 3 .whole [(.int .i64 c25_0)]), .obj b28 (.row 3 .whole [(.int .i64 c28_0)]), .obj b31 (.row 3 .whole [(.int .i64 c31_0)]), .obj b60 (.row 36 .whole [s70]), .vec 3 1 l70.length s70 (l70.flatMap enc3), .obj b63 (.row 81 .whole [(.int .i64 c63_0)]), .obj b66 .defd])
      refine Run.block (Run.seq (Run.region ?_))
      refine Run.opG wantS_none (ex_load1 rfl (hH80.cells (i := 2) rfl 0 rfl) rdLe_rfl agg89) rfl ?_
      refine Run.opG wantS_none (ex_loadA rfl (hH80.cells (i := 0) rfl 0 rfl) rdLe_rfl agg85 rfl rfl rfl) rfl ?_
      refine Run.enter wantS_none (ex_closure rfl rfl mkk64 cal64) Tryz.func64 rfl rfl ?_
      refine Run.seq (Run.region ?_)
      refine Run.opX wantS_none rfl (ExG.box rfl rfl hH80) ?_
      rintro _ M83 ⟨b82, rfl, hH83⟩
      refine Run.opG wantS_none (ex_assign rfl) rfl ?_
      refine Run.opsEnd (Run.seq ?_)
      refine Run.drawG plan64_1_0 ?_
      refine DrawG.fl rfl (ev_ex wantS_none (ex_load1 rfl (hH83.cells (i := 4) rfl 0 rfl) rdLe_rfl agg93)) rfl ?_
      refine DrawG.fl rfl (ev_ex wantS_none (ex_load1 rfl (hH83.cells (i := 6) rfl 0 rfl) rdLe_rfl agg3)) rfl ?_
      obtain ⟨x84, hx84, h⟩ := bnd_some h
      obtain ⟨p84, o84, hb84, hx84, he84⟩ := vec_elem (P := Tryz.prog) (t := 93) (kk := .i64) hH83 (i := 5) rfl hx84 els93
      refine DrawG.fl rfl (ev_ex wantS_none (ex_elX rfl rfl hx84)) rfl ?_
      refine DrawG.fl rfl (ev_ex wantS_none (ex_fieldAddr rfl off99_0)) rfl ?_
      refine DrawG.fl rfl (ev_ex wantS_none (ex_loadA rfl ((hH83.at (enc := enc99) (a := x84) (i := 5) rfl hb84 he84 enc99_len).fld (o := 0) rfl) rdLe_rfl agg97 rfl rfl rfl)) rfl ?_
      refine DrawG.fl rfl (ev_ex wantS_none (ex_load1 rfl (hH83.cells (i := 4) rfl 0 rfl) rdLe_rfl agg93)) rfl ?_
      refine DrawG.fl rfl (ev_ex wantS_none (ex_load1 rfl (hH83.cells (i := 7) rfl 0 rfl) rdLe_rfl agg3)) rfl ?_
      obtain ⟨x85, hx85, h⟩ := bnd_some h
      obtain ⟨p85, o85, hb85, hx85, he85⟩ := vec_elem (P := Tryz.prog) (t := 93) (kk := .i64) hH83 (i := 5) rfl hx85 els93
      refine DrawG.fl rfl (ev_ex wantS_none (ex_elX rfl rfl hx85)) rfl ?_
      refine DrawG.fl rfl (ev_ex wantS_none (ex_fieldAddr rfl off99_0)) rfl ?_
      refine DrawG.fl rfl (ev_ex wantS_none (ex_loadA rfl ((hH83.at (enc := enc99) (a := x85) (i := 5) rfl hb85 he85 enc99_len).fld (o := 0) rfl) rdLe_rfl agg97 rfl rfl rfl)) rfl ?_
      refine DrawG.fl rfl (ev_ex wantS_none (ex_loadA rfl (hH83.cells (i := 0) rfl 0 rfl) rdLe_rfl agg85 rfl rfl rfl)) rfl ?_
      refine DrawG.fl rfl (ev_ex wantS_none (ex_load1 rfl (hH83.cells (i := 8) rfl 0 rfl) rdLe_rfl agg3)) rfl ?_
      refine DrawG.fl rfl (ev_ex wantS_none (ex_load1 rfl (hH83.cells (i := 9) rfl 0 rfl) rdLe_rfl agg3)) rfl ?_
      obtain ⟨r86, hr86, h⟩ := bnd_some h
      refine DrawG.callP rfl wantS_none (ex_call rfl mkk65 cal65) rfl (sky_place_difference_ok F x84.place x85.place r74 _ _ hr86) (st_cons rfl (ev_ex wantS_none (ex_load1 rfl (hH83.cells (i := 9) rfl 0 rfl) rdLe_rfl agg3)) rfl rfl rfl (st_cons rfl (ev_ex wantS_none (ex_load1 rfl (hH83.cells (i := 8) rfl 0 rfl) rdLe_rfl agg3)) rfl rfl rfl st_nil)) ?_
      obtain ⟨r88, hr88, h⟩ := bnd_some h
      refine DrawG.callP rfl wantS_none (ex_call rfl mkk66 cal66) rfl (sky_ratio_isAbout_ok F r86 c28_0 c31_0 _ _ hr88) st_nil ?_
      refine DrawG.fl rfl (ev_ex wantS_none (ex_assign rfl)) rfl ?_
      refine DrawG.sync ?_
      refine DrawG.nil ?_
      refine Run.retTo Tryz.func64 rfl (res_tmp rfl res_nil) rfl ?_
      refine Run.opsEnd ?_
      rcases btf (r88) with hc90 | hc90
      · have h := bif_t hc90 h
        refine Run.condT' rfl hc90 ?_
        refine Run.region ?_
        refine Run.opG wantS_none (ex_load1 rfl (hH83.cells (i := 10) rfl 0 rfl) rdLe_rfl agg36) rfl ?_
        refine Run.opG wantS_none (ex_move rfl) rfl ?_
        refine Run.opX wantS_none rfl (ExG.built (enc := enc3) (l := ([v6] : List Int)) (z := 1) rfl elt36 rfl rfl rfl enc3_len hH83) ?_
        rintro s92 M93 (hH93 : Has Fr M93 [.vec 3 1 ([v6] : List Int).length s92 (([v6] : List Int).flatMap enc3), .obj b82 (.row 85 .whole [(.int .i64 r74.e0), (.int .i64 r74.e1), (.int .i64 r74.e2)]), .obj b77 (.row 85 .whole [(.int .i64 r74.e0), (.int .i64 r74.e1), (.int .i64 r74.e2)]), .obj b65 (.loop ⟨.busy, none, 67, 20, treeOf [(3, (.ptr b57 0)), (4, .nils), (5, (.ptr b60 0)), (9, (.fn (.func 156) [] [(.ptr b63 0)]))], [10, 11], (atC Tryz.prog 67 [1, 1, 0, 1, 0, 0]), (atC Tryz.prog 67 [1, 1, 0, 1, 0, 1]), b66⟩), .obj b57 (.row 89 .whole [(.fn (.func 64) [] [(.ptr b53 0), (.ptr b22 0), (.ptr b25 0), (.ptr b28 0), (.ptr b31 0)])]), .obj b53 (.row 93 .whole [s50]), .vec 99 9 l50.length s50 (l50.flatMap enc99), .obj b22 (.row 3 .whole [(.int .i64 c22_0)]), .obj b25 (.row 3 .whole [(.int .i64 c25_0)]), .obj b28 (.row 3 .whole [(.int .i64 c28_0)]), .obj b31 (.row 3 .whole [(.int .i64 c31_0)]), .obj b60 (.row 36 .whole [s70]), .vec 3 1 l70.length s70 (l70.flatMap enc3), .obj b63 (.row 81 .whole [(.int .i64 c63_0)]), .obj b66 .defd])
        obtain ⟨l96, hl96, h⟩ := bnd_some h
        refine Run.opX wantS_none rfl (ExG.append rfl rfl hH93 (i := 12) rfl enc3_len rfl enc3_ones appt36_36 rfl (len_slc (hH93.slc (i := 0) rfl enc3_len)) (first_slc (hH93.slc (i := 0) rfl enc3_len) (rdLe_rdRow _) enc3_len) hl96) ?_
        rintro s96 M98 (hH98 : Has Fr M98 [.vec 3 1 ([v6] : List Int).length s92 (([v6] : List Int).flatMap enc3), .obj b82 (.row 85 .whole [(.int .i64 r74.e0), (.int .i64 r74.e1), (.int .i64 r74.e2)]), .obj b77 (.row 85 .whole [(.int .i64 r74.e0), (.int .i64 r74.e1), (.int .i64 r74.e2)]), .obj b65 (.loop ⟨.busy, none, 67, 20, treeOf [(3, (.ptr b57 0)), (4, .nils), (5, (.ptr b60 0)), (9, (.fn (.func 156) [] [(.ptr b63 0)]))], [10, 11], (atC Tryz.prog 67 [1, 1, 0, 1, 0, 0]), (atC Tryz.prog 67 [1, 1, 0, 1, 0, 1]), b66⟩), .obj b57 (.row 89 .whole [(.fn (.func 64) [] [(.ptr b53 0), (.ptr b22 0), (.ptr b25 0), (.ptr b28 0), (.ptr b31 0)])]), .obj b53 (.row 93 .whole [s50]), .vec 99 9 l50.length s50 (l50.flatMap enc99), .obj b22 (.row 3 .whole [(.int .i64 c22_0)]), .obj b25 (.row 3 .whole [(.int .i64 c25_0)]), .obj b28 (.row 3 .whole [(.int .i64 c28_0)]), .obj b31 (.row 3 .whole [(.int .i64 c31_0)]), .obj b60 (.row 36 .whole [s70]), .vec 3 1 l96.length s96 (l96.flatMap enc3), .obj b63 (.row 81 .whole [(.int .i64 c63_0)]), .obj b66 .defd])
        refine Run.opX wantS_none rfl (ExG.storeC (c' := [s96]) rfl rfl (cells_one (vec_one hH98 (i := 12) rfl)) hH98 (i := 11) rfl sz36 rfl rfl rfl (ones_cons (vec_one hH98 (i := 12) rfl) ones_nil) rfl) ?_
        rintro _ M99 ⟨rfl, (hH99 : Has Fr M99 [.vec 3 1 ([v6] : List Int).length s92 (([v6] : List Int).flatMap enc3), .obj b82 (.row 85 .whole [(.int .i64 r74.e0), (.int .i64 r74.e1), (.int .i64 r74.e2)]), .obj b77 (.row 85 .whole [(.int .i64 r74.e0), (.int .i64 r74.e1), (.int .i64 r74.e2)]), .obj b65 (.loop ⟨.busy, none, 67, 20, treeOf [(3, (.ptr b57 0)), (4, .nils), (5, (.ptr b60 0)), (9, (.fn (.func 156) [] [(.ptr b63 0)]))], [10, 11], (atC Tryz.prog 67 [1, 1, 0, 1, 0, 0]), (atC Tryz.prog 67 [1, 1, 0, 1, 0, 1]), b66⟩), .obj b57 (.row 89 .whole [(.fn (.func 64) [] [(.ptr b53 0), (.ptr b22 0), (.ptr b25 0), (.ptr b28 0), (.ptr b31 0)])]), .obj b53 (.row 93 .whole [s50]), .vec 99 9 l50.length s50 (l50.flatMap enc99), .obj b22 (.row 3 .whole [(.int .i64 c22_0)]), .obj b25 (.row 3 .whole [(.int .i64 c25_0)]), .obj b28 (.row 3 .whole [(.int .i64 c28_0)]), .obj b31 (.row 3 .whole [(.int .i64 c31_0)]), .obj b60 (.row 36 .whole [s96]), .vec 3 1 l96.length s96 (l96.flatMap enc3), .obj b63 (.row 81 .whole [(.int .i64 c63_0)]), .obj b66 .defd])⟩
        refine Run.opsEnd (Run.inBlock ?_)
        refine Run.roundEndX hH99 (i := 3) rfl rfl ?_
        intro M100 (hH100 : Has Fr M100 [.vec 3 1 ([v6] : List Int).length s92 (([v6] : List Int).flatMap enc3), .obj b82 (.row 85 .whole [(.int .i64 r74.e0), (.int .i64 r74.e1), (.int .i64 r74.e2)]), .obj b77 (.row 85 .whole [(.int .i64 r74.e0), (.int .i64 r74.e1), (.int .i64 r74.e2)]), .obj b65 (.loop ⟨.ready, none, 67, 20, treeOf [(3, (.ptr b57 0)), (4, .nils), (5, (.ptr b60 0)), (9, (.fn (.func 156) [] [(.ptr b63 0)]))], [10, 11], (atC Tryz.prog 67 [1, 1, 0, 1, 0, 0]), (atC Tryz.prog 67 [1, 1, 0, 1, 0, 1]), b66⟩), .obj b57 (.row 89 .whole [(.fn (.func 64) [] [(.ptr b53 0), (.ptr b22 0), (.ptr b25 0), (.ptr b28 0), (.ptr b31 0)])]), .obj b53 (.row 93 .whole [s50]), .vec 99 9 l50.length s50 (l50.flatMap enc99), .obj b22 (.row 3 .whole [(.int .i64 c22_0)]), .obj b25 (.row 3 .whole [(.int .i64 c25_0)]), .obj b28 (.row 3 .whole [(.int .i64 c28_0)]), .obj b31 (.row 3 .whole [(.int .i64 c31_0)]), .obj b60 (.row 36 .whole [s96]), .vec 3 1 l96.length s96 (l96.flatMap enc3), .obj b63 (.row 81 .whole [(.int .i64 c63_0)]), .obj b66 .defd])
        refine Run.opG wantS_none (ex_not rfl) rfl ?_
        refine Run.opsEnd ?_
        refine Run.condF' rfl (bnot_f rfl) ?_
        refine Run.skip (Run.inBlock (Run.region ?_))
        refine Run.opG wantS_none (ex_add rfl rfl) rfl ?_
        refine Run.opG wantS_none (ex_move rfl) rfl ?_
        refine Run.opsEnd (Run.inLoop ?_)
        exact Run.low (.cons (fle_pick [5] rfl) (.cons (fle_pick [] rfl) .nil)) (Run.pick [0, 1, 5, 6] (ih v5 (w64 (v6 + (1 : Int))) c22_0 c25_0 c28_0 c31_0 c63_0 l50 l96 b65 b57 b53 s50 b22 b25 b28 b31 b60 s96 b63 b66 _ _ _ (hH100.pick [3, 4, 5, 6, 7, 8, 9, 10, 11, 12, 13, 14] rfl rfl) h))
      · have h := bif_f hc90 h
        refine Run.condF' rfl hc90 ?_
        refine Run.skip (Run.inBlock ?_)
        refine Run.roundEndX hH83 (i := 2) rfl rfl ?_
        intro M101 (hH101 : Has Fr M101 [.obj b82 (.row 85 .whole [(.int .i64 r74.e0), (.int .i64 r74.e1), (.int .i64 r74.e2)]), .obj b77 (.row 85 .whole [(.int .i64 r74.e0), (.int .i64 r74.e1), (.int .i64 r74.e2)]), .obj b65 (.loop ⟨.ready, none, 67, 20, treeOf [(3, (.ptr b57 0)), (4, .nils), (5, (.ptr b60 0)), (9, (.fn (.func 156) [] [(.ptr b63 0)]))], [10, 11], (atC Tryz.prog 67 [1, 1, 0, 1, 0, 0]), (atC Tryz.prog 67 [1, 1, 0, 1, 0, 1]), b66⟩), .obj b57 (.row 89 .whole [(.fn (.func 64) [] [(.ptr b53 0), (.ptr b22 0), (.ptr b25 0), (.ptr b28 0), (.ptr b31 0)])]), .obj b53 (.row 93 .whole [s50]), .vec 99 9 l50.length s50 (l50.flatMap enc99), .obj b22 (.row 3 .whole [(.int .i64 c22_0)]), .obj b25 (.row 3 .whole [(.int .i64 c25_0)]), .obj b28 (.row 3 .whole [(.int .i64 c28_0)]), .obj b31 (.row 3 .whole [(.int .i64 c31_0)]), .obj b60 (.row 36 .whole [s70]), .vec 3 1 l70.length s70 (l70.flatMap enc3), .obj b63 (.row 81 .whole [(.int .i64 c63_0)]), .obj b66 .defd])
        refine Run.opG wantS_none (ex_not rfl) rfl ?_
        refine Run.opsEnd ?_
        refine Run.condF' rfl (bnot_f rfl) ?_
        refine Run.skip (Run.inBlock (Run.region ?_))
        refine Run.opG wantS_none (ex_add rfl rfl) rfl ?_
        refine Run.opG wantS_none (ex_move rfl) rfl ?_
        refine Run.opsEnd (Run.inLoop ?_)
        exact Run.low (.cons (fle_pick [5] rfl) (.cons (fle_pick [] rfl) .nil)) (Run.pick [0, 1, 5, 6] (ih v5 (w64 (v6 + (1 : Int))) c22_0 c25_0 c28_0 c31_0 c63_0 l50 l70 b65 b57 b53 s50 b22 b25 b28 b31 b60 s70 b63 b66 _ _ _ (hH101.pick [2, 3, 4, 5, 6, 7, 8, 9, 10, 11, 12, 13] rfl rfl) h))
    · have h := bif_f hc72 h
      refine Run.condF' rfl hc72 ?_
      refine Run.exit rfl ?_
      refine Run.fallRange Tryz.func156 rfl res_nil ?_
      refine Run.endX hH (i := 0) rfl (fun hc => by cases hc) ?_
      intro M102 (hH102 : Has Fr M102 [.obj b65 (.loop ⟨.exhausted, none, 67, 20, treeOf [(3, (.ptr b57 0)), (4, .nils), (5, (.ptr b60 0)), (9, (.fn (.func 156) [] [(.ptr b63 0)]))], [10, 11], (atC Tryz.prog 67 [1, 1, 0, 1, 0, 0]), (atC Tryz.prog 67 [1, 1, 0, 1, 0, 1]), b66⟩), .obj b57 (.row 89 .whole [(.fn (.func 64) [] [(.ptr b53 0), (.ptr b22 0), (.ptr b25 0), (.ptr b28 0), (.ptr b31 0)])]), .obj b53 (.row 93 .whole [s50]), .vec 99 9 l50.length s50 (l50.flatMap enc99), .obj b22 (.row 3 .whole [(.int .i64 c22_0)]), .obj b25 (.row 3 .whole [(.int .i64 c25_0)]), .obj b28 (.row 3 .whole [(.int .i64 c28_0)]), .obj b31 (.row 3 .whole [(.int .i64 c31_0)]), .obj b60 (.row 36 .whole [s70]), .vec 3 1 l70.length s70 (l70.flatMap enc3), .obj b63 (.row 81 .whole [(.int .i64 c63_0)]), .obj b66 .defd])
      refine Run.inBlock (Run.seq (Run.region ?_))
      refine Run.opG wantS_none (ex_load1 rfl (hH102.cells (i := 8) rfl 0 rfl) rdLe_rfl agg36) rfl ?_
      refine Run.opG wantS_none (ex_assign rfl) rfl ?_
      refine Run.opsEnd ?_
      obtain ⟨hH103x, hS103⟩ := hH102.shut (i := 11) (ds := []) rfl
      have hH103 : Has Fr (setT M102 b66 none) [.obj b65 (.loop ⟨.exhausted, none, 67, 20, treeOf [(3, (.ptr b57 0)), (4, .nils), (5, (.ptr b60 0)), (9, (.fn (.func 156) [] [(.ptr b63 0)]))], [10, 11], (atC Tryz.prog 67 [1, 1, 0, 1, 0, 0]), (atC Tryz.prog 67 [1, 1, 0, 1, 0, 1]), b66⟩), .obj b57 (.row 89 .whole [(.fn (.func 64) [] [(.ptr b53 0), (.ptr b22 0), (.ptr b25 0), (.ptr b28 0), (.ptr b31 0)])]), .obj b53 (.row 93 .whole [s50]), .vec 99 9 l50.length s50 (l50.flatMap enc99), .obj b22 (.row 3 .whole [(.int .i64 c22_0)]), .obj b25 (.row 3 .whole [(.int .i64 c25_0)]), .obj b28 (.row 3 .whole [(.int .i64 c28_0)]), .obj b31 (.row 3 .whole [(.int .i64 c31_0)]), .obj b60 (.row 36 .whole [s70]), .vec 3 1 l70.length s70 (l70.flatMap enc3), .obj b63 (.row 81 .whole [(.int .i64 c63_0)]), .vec 0 0 0 .nils []] := hH103x
      refine Run.retTo Tryz.func67 (hS103 _ rfl) (res_tmp rfl res_nil) rfl ?_
      refine Run.opG wantS_none (ex_assign rfl) rfl ?_
      refine Run.opG wantS_none (ex_assign rfl) rfl ?_
      refine Run.opsEnd ?_
      cases h
      exact Run.ret Tryz.func19 rfl (res_tmp rfl (res_tmp rfl res_nil)) ⟨_, rfl, (hH103.pick [9] rfl rfl).upF (none_le _)⟩

def sky_Ring_2 (F : Nat) (v0 : (List S_api_Site)) (v1 : Int) (v40 : Bool) (c22_0 c25_0 c28_0 c31_0 : Int) : Option ((List Int) × Int) :=
  bif v40 then
    some (([] : List Int), (92 : Int))
  else
    bnd (sky_sitesOf F v0) fun r49 =>
    bnd (sky_grid_cells F v1) fun r68 =>
    sky_Ring_3 F F r68 (0 : Int) c22_0 c25_0 c28_0 c31_0 v1 r49 ([] : List Int)

theorem sky_Ring_2_ok (F : Nat) : ∀ (v0 : (List S_api_Site)) (v1 : Int) (v40 : Bool) (c22_0 c25_0 c28_0 c31_0 : Int) (sv0 : SV) (b22 b25 b28 b31 : Pos) (Fr : Rd) (M : Mem) (r : (List Int) × Int) (hv0 : Slc Fr 10 (FlatR enc105) sv0 v0) (hH : Has Fr M [.obj b22 (.row 3 .whole [(.int .i64 c22_0)]), .obj b25 (.row 3 .whole [(.int .i64 c25_0)]), .obj b28 (.row 3 .whole [(.int .i64 c28_0)]), .obj b31 (.row 3 .whole [(.int .i64 c31_0)])]), sky_Ring_2 F v0 v1 v40 c22_0 c25_0 c28_0 c31_0 = some r → Run Tryz.prog ⟨⟨19, [], none⟩, []⟩ 47 (sky_Ring_post r) [(0, sv0), (1, (.int .i64 v1)), (8, (.ptr b22 0)), (9, (.ptr b25 0)), (10, (.ptr b28 0)), (11, (.ptr b31 0)), (40, (.bool v40))] [itemC Tryz.prog 19 [1, 0, 1, 0, 1, 1, 0] 16, codeC Tryz.prog 19 [1, 0, 1, 0, 1, 1, 1], .inBlock 0, codeC Tryz.prog 19 [1, 1]] M := by
  intro v0 v1 v40 c22_0 c25_0 c28_0 c31_0 sv0 b22 b25 b28 b31 Fr M r hv0 hH h
  rw [sky_Ring_2] at h
  refine Run.opG wantS_none (ex_assign rfl) rfl ?_
  refine Run.opsEnd ?_
  rcases btf (v40) with hc44 | hc44
  · have h := bif_t hc44 h
    refine Run.condT' rfl hc44 ?_
    refine Run.seq (Run.region ?_)
    refine Run.opG wantS_none (ex_assign rfl) rfl ?_
    refine Run.opG wantS_none (ex_assign rfl) rfl ?_
    refine Run.opsEnd ?_
    have hH46 : Has Fr M [.vec 3 1 ([] : List Int).length .nils (([] : List Int).flatMap enc3), .obj b22 (.row 3 .whole [(.int .i64 c22_0)]), .obj b25 (.row 3 .whole [(.int .i64 c25_0)]), .obj b28 (.row 3 .whole [(.int .i64 c28_0)]), .obj b31 (.row 3 .whole [(.int .i64 c31_0)])] := hH.nils 3 1
    cases h
    exact Run.ret Tryz.func19 rfl (res_tmp rfl (res_tmp rfl res_nil)) ⟨_, rfl, (hH46.pick [0] rfl rfl).upF (none_le _)⟩
  · have h := bif_f hc44 h
    refine Run.condF' rfl hc44 ?_
    refine Run.skip (Run.inBlock (Run.seq (Run.region ?_)))
    refine Run.opG wantS_none (ex_move rfl) rfl ?_
    obtain ⟨r49, hr49, h⟩ := bnd_some h
    refine Run.callX wantS_none (ex_call rfl mkk63 cal63) rfl (sky_sitesOf_ok F v0 sv0 _ _ (hH.slcF hv0) hr49) ?_
    rintro s49_0 M51 ⟨_, rfl, hN49⟩
    have hH51 : Has Fr M51 [.vec 99 9 r49.length s49_0 (r49.flatMap enc99), .obj b22 (.row 3 .whole [(.int .i64 c22_0)]), .obj b25 (.row 3 .whole [(.int .i64 c25_0)]), .obj b28 (.row 3 .whole [(.int .i64 c28_0)]), .obj b31 (.row 3 .whole [(.int .i64 c31_0)])] := hN49.1 _ _ hH
    refine Run.opX wantS_none rfl (ExG.new (v := fun b => .ptr b 0) (ex_alloc zer93) hH51) ?_
    rintro _ M54 ⟨b53, rfl, hH54⟩
    refine Run.opX wantS_none rfl (ExG.storeC (c' := [s49_0]) rfl rfl (cells_one (vec_one hH54 (i := 1) rfl)) hH54 (i := 0) rfl sz93 rfl rfl rfl (ones_cons (vec_one hH54 (i := 1) rfl) ones_nil) rfl) ?_
    rintro _ M55 ⟨rfl, (hH55 : Has Fr M55 [.obj b53 (.row 93 .whole [s49_0]), .vec 99 9 r49.length s49_0 (r49.flatMap enc99), .obj b22 (.row 3 .whole [(.int .i64 c22_0)]), .obj b25 (.row 3 .whole [(.int .i64 c25_0)]), .obj b28 (.row 3 .whole [(.int .i64 c28_0)]), .obj b31 (.row 3 .whole [(.int .i64 c31_0)])])⟩
    refine Run.opsEnd (Run.seq (Run.region ?_))
    refine Run.opG wantS_none (ex_makeFunc rfl rfl) rfl ?_
    refine Run.opG wantS_none (ex_assign rfl) rfl ?_
    refine Run.opsEnd (Run.seq (Run.region ?_))
    refine Run.opG wantS_none (ex_move rfl) rfl ?_
    refine Run.opG wantS_none (ex_move rfl) rfl ?_
    refine Run.enter wantS_none (ex_call rfl mkk67 cal67) Tryz.func67 rfl rfl ?_
    refine Run.seq (Run.region ?_)
    refine Run.opX wantS_none rfl (ExG.box rfl rfl hH55) ?_
    rintro _ M58 ⟨b57, rfl, hH58⟩
    refine Run.opG wantS_none (ex_assign rfl) rfl ?_
    refine Run.opsEnd (Run.seq (Run.region ?_))
    refine Run.opX wantS_none rfl (ExG.new (v := fun b => .ptr b 0) (ex_alloc zer36) hH58) ?_
    rintro _ M61 ⟨b60, rfl, hH61⟩
    refine Run.opsEnd (Run.seq (Run.seq (Run.region ?_)))
    refine Run.opG wantS_none (ex_move rfl) rfl ?_
    refine Run.enter wantS_none (ex_call rfl mkk114 cal114) Tryz.func114 rfl rfl ?_
    refine Run.seq (Run.region ?_)
    refine Run.opX wantS_none rfl (ExG.box rfl rfl hH61) ?_
    rintro _ M64 ⟨b63, rfl, hH64⟩
    refine Run.opG wantS_none (ex_assign rfl) rfl ?_
    refine Run.opsEnd (Run.seq (Run.region ?_))
    refine Run.opG wantS_none (ex_makeFunc rfl rfl) rfl ?_
    refine Run.opG wantS_none (ex_assign rfl) rfl ?_
    refine Run.opsEnd ?_
    refine Run.retTo Tryz.func114 rfl (res_tmp rfl res_nil) rfl ?_
    refine Run.opsEnd (Run.block ?_)
    refine Run.pick [3, 4, 5, 9] ?_
    refine Run.rangeX rfl cal156 Tryz.func156 rfl rfl hH64 ?_
    intro b66 b65 M65 (hH65 : Has Fr M65 [.obj b65 (.loop ⟨.ready, none, 67, 20, treeOf [(3, (.ptr b57 0)), (4, .nils), (5, (.ptr b60 0)), (9, (.fn (.func 156) [] [(.ptr b63 0)]))], [10, 11], (atC Tryz.prog 67 [1, 1, 0, 1, 0, 0]), (atC Tryz.prog 67 [1, 1, 0, 1, 0, 1]), b66⟩), .obj b66 .defd, .obj b63 (.row 81 .whole [(.int .i64 v1)]), .obj b60 (.row 36 .whole [.nils]), .obj b57 (.row 89 .whole [(.fn (.func 64) [] [(.ptr b53 0), (.ptr b22 0), (.ptr b25 0), (.ptr b28 0), (.ptr b31 0)])]), .obj b53 (.row 93 .whole [s49_0]), .vec 99 9 r49.length s49_0 (r49.flatMap enc99), .obj b22 (.row 3 .whole [(.int .i64 c22_0)]), .obj b25 (.row 3 .whole [(.int .i64 c25_0)]), .obj b28 (.row 3 .whole [(.int .i64 c28_0)]), .obj b31 (.row 3 .whole [(.int .i64 c31_0)])])
    refine Run.seq (Run.region ?_)
    refine Run.opG wantS_none (ex_load1 rfl (hH65.cells (i := 2) rfl 0 rfl) rdLe_rfl agg81) rfl ?_
    obtain ⟨r68, hr68, h⟩ := bnd_some h
    refine Run.callP wantS_none (ex_call rfl mkk49 cal49) rfl (sky_grid_cells_ok F v1 _ _ hr68) ?_
    refine Run.opG wantS_none (ex_move rfl) rfl ?_
    refine Run.opsEnd (Run.block (Run.loop ?_))
    have hH71 : Has Fr M65 [.vec 3 1 ([] : List Int).length .nils (([] : List Int).flatMap enc3), .obj b65 (.loop ⟨.ready, none, 67, 20, treeOf [(3, (.ptr b57 0)), (4, .nils), (5, (.ptr b60 0)), (9, (.fn (.func 156) [] [(.ptr b63 0)]))], [10, 11], (atC Tryz.prog 67 [1, 1, 0, 1, 0, 0]), (atC Tryz.prog 67 [1, 1, 0, 1, 0, 1]), b66⟩), .obj b66 .defd, .obj b63 (.row 81 .whole [(.int .i64 v1)]), .obj b60 (.row 36 .whole [.nils]), .obj b57 (.row 89 .whole [(.fn (.func 64) [] [(.ptr b53 0), (.ptr b22 0), (.ptr b25 0), (.ptr b28 0), (.ptr b31 0)])]), .obj b53 (.row 93 .whole [s49_0]), .vec 99 9 r49.length s49_0 (r49.flatMap enc99), .obj b22 (.row 3 .whole [(.int .i64 c22_0)]), .obj b25 (.row 3 .whole [(.int .i64 c25_0)]), .obj b28 (.row 3 .whole [(.int .i64 c28_0)]), .obj b31 (.row 3 .whole [(.int .i64 c31_0)])] := hH65.nils 3 1
    exact Run.low (.cons (fle_pick [5] rfl) (.cons (fle_pick [] rfl) .nil)) (Run.pick [0, 1, 5, 6] (sky_Ring_3_ok F F r68 (0 : Int) c22_0 c25_0 c28_0 c31_0 v1 r49 ([] : List Int) b65 b57 b53 s49_0 b22 b25 b28 b31 b60 .nils b63 b66 _ _ _ (hH71.pick [1, 5, 6, 7, 8, 9, 10, 11, 4, 0, 3, 2] rfl rfl) h))

def sky_Ring_1 (F : Nat) (v0 : (List S_api_Site)) (v1 : Int) (v35 : Bool) (c22_0 c25_0 c28_0 c31_0 : Int) : Option ((List Int) × Int) :=
  bif v35 then
    sky_Ring_2 F v0 v1 true c22_0 c25_0 c28_0 c31_0
  else
    bnd (sky_isFrom F (0 : Int) c31_0 (131072 : Int)) fun r106 =>
    sky_Ring_2 F v0 v1 (!r106) c22_0 c25_0 c28_0 c31_0

theorem sky_Ring_1_ok (F : Nat) : ∀ (v0 : (List S_api_Site)) (v1 : Int) (v35 : Bool) (c22_0 c25_0 c28_0 c31_0 : Int) (sv0 : SV) (b22 b25 b28 b31 : Pos) (Fr : Rd) (M : Mem) (r : (List Int) × Int) (hv0 : Slc Fr 10 (FlatR enc105) sv0 v0) (hH : Has Fr M [.obj b22 (.row 3 .whole [(.int .i64 c22_0)]), .obj b25 (.row 3 .whole [(.int .i64 c25_0)]), .obj b28 (.row 3 .whole [(.int .i64 c28_0)]), .obj b31 (.row 3 .whole [(.int .i64 c31_0)])]), sky_Ring_1 F v0 v1 v35 c22_0 c25_0 c28_0 c31_0 = some r → Run Tryz.prog ⟨⟨19, [], none⟩, []⟩ 47 (sky_Ring_post r) [(0, sv0), (1, (.int .i64 v1)), (8, (.ptr b22 0)), (9, (.ptr b25 0)), (10, (.ptr b28 0)), (11, (.ptr b31 0)), (35, (.bool v35))] [itemC Tryz.prog 19 [1, 0, 1, 0, 1, 1, 0] 11, codeC Tryz.prog 19 [1, 0, 1, 0, 1, 1, 1], .inBlock 0, codeC Tryz.prog 19 [1, 1]] M := by
  intro v0 v1 v35 c22_0 c25_0 c28_0 c31_0 sv0 b22 b25 b28 b31 Fr M r hv0 hH h
  rw [sky_Ring_1] at h
  refine Run.opG wantS_none (ex_move rfl) rfl ?_
  rcases btf (v35) with hc43 | hc43
  · have h := bif_t hc43 h
    refine Run.no (wantS_not' rfl rfl hc43) rfl ?_
    refine Run.no (wantS_not' rfl rfl hc43) rfl ?_
    refine Run.no (wantS_not' rfl rfl hc43) rfl ?_
    refine Run.opG wantS_none (ex_pickT' rfl hc43 rfl rfl) rfl ?_
    exact Run.pick [0, 1, 8, 9, 10, 11, 40] (sky_Ring_2_ok F v0 v1 true c22_0 c25_0 c28_0 c31_0 sv0 b22 b25 b28 b31 _ _ _ hv0 hH h)
  · have h := bif_f hc43 h
    refine Run.opG (wantS_yes' rfl rfl hc43) (ex_load1 rfl (hH.cells (i := 3) rfl 0 rfl) rdLe_rfl agg3) rfl ?_
    obtain ⟨r106, hr106, h⟩ := bnd_some h
    refine Run.callP (wantS_yes' rfl rfl hc43) (ex_call rfl mkk62 cal62) rfl (sky_isFrom_ok F (0 : Int) c31_0 (131072 : Int) _ _ hr106) ?_
    refine Run.opG (wantS_yes' rfl rfl hc43) (ex_not rfl) rfl ?_
    refine Run.opG wantS_none (ex_pickF' rfl hc43 rfl rfl) rfl ?_
    exact Run.pick [0, 1, 8, 9, 10, 11, 40] (sky_Ring_2_ok F v0 v1 (!r106) c22_0 c25_0 c28_0 c31_0 sv0 b22 b25 b28 b31 _ _ _ hv0 hH h)

def sky_Ring (F : Nat) (a0 : (List S_api_Site)) (a1 a2 a3 a4 a5 : Int) : Option ((List Int) × Int) :=
  bnd (sky_checkNetGrid F a0 a1) fun r34 =>
  bif (!(r34 == (0 : Int))) then
    some (([] : List Int), r34)
  else
    bnd (sky_isBetween F a2 a3 (a0.length : Int)) fun r40 =>
    bif (!r40) then
      sky_Ring_1 F a0 a1 true a2 a3 a4 a5
    else
      bnd (sky_isInstant F a4) fun r109 =>
      sky_Ring_1 F a0 a1 (!r109) a2 a3 a4 a5

theorem sky_Ring_ok (F : Nat) (a0 : (List S_api_Site)) (a1 a2 a3 a4 a5 : Int) (s0 : SV) (r : (List Int) × Int) (M : Mem) (hs0 : Slc (rd M) 10 (FlatR enc105) s0 a0) (h : sky_Ring F a0 a1 a2 a3 a4 a5 = some r) : CallsM Tryz.prog 19 [s0, (.int .i64 a1), (.int .i64 a2), (.int .i64 a3), (.int .i64 a4), (.int .i64 a5)] M (fun s M' => ∃ q1, s = (.tuple [q1, (.int .i64 r.2)]) ∧ New M M' [.vec 3 1 r.1.length q1 (r.1.flatMap enc3)]) := by
  refine CallsM.fresh (Q := sky_Ring_post r) Tryz.func19 rfl rfl ?_ (by rintro s Me ⟨q1, rfl, hx⟩ ha hw; exact ⟨_, rfl, New.of rfl hx ha hw⟩)
  rw [sky_Ring] at h
  replace hs0 := hs0.mono (rdLe_frozen M) (fun _ _ h => h)
  have hH := Has.nil (frozen M)
  refine Run.seq (Run.region ?_)
  refine Run.opX wantS_none rfl (ExG.box rfl rfl hH) ?_
  rintro _ M23 ⟨b22, rfl, hH23⟩
  refine Run.opX wantS_none rfl (ExG.box rfl rfl hH23) ?_
  rintro _ M26 ⟨b25, rfl, hH26⟩
  refine Run.opX wantS_none rfl (ExG.box rfl rfl hH26) ?_
  rintro _ M29 ⟨b28, rfl, hH29⟩
  refine Run.opX wantS_none rfl (ExG.box rfl rfl hH29) ?_
  rintro _ M32 ⟨b31, rfl, hH32⟩
  refine Run.opG wantS_none (ex_assign rfl) rfl ?_
  refine Run.opG wantS_none (ex_assign rfl) rfl ?_
  refine Run.opsEnd (Run.seq (Run.seq (Run.region ?_)))
  refine Run.opG wantS_none (ex_move rfl) rfl ?_
  refine Run.opG wantS_none (ex_move rfl) rfl ?_
  obtain ⟨r34, hr34, h⟩ := bnd_some h
  refine Run.callP wantS_none (ex_call rfl mkk59 cal59) rfl (sky_checkNetGrid_ok F a0 a1 s0 _ _ (hH32.slcF hs0) hr34) ?_
  refine Run.opG wantS_none (ex_assign rfl) rfl ?_
  refine Run.opsEnd (Run.block (Run.seq (Run.region ?_)))
  refine Run.opG wantS_none (ex_move rfl) rfl ?_
  refine Run.opG wantS_none (ex_neq rfl rfl) rfl ?_
  refine Run.opG wantS_none (ex_assign rfl) rfl ?_
  refine Run.opsEnd ?_
  rcases btf ((!(r34 == (0 : Int)))) with hc36 | hc36
  · have h := bif_t hc36 h
    refine Run.condT' rfl hc36 ?_
    refine Run.seq (Run.region ?_)
    refine Run.opG wantS_none (ex_move rfl) rfl ?_
    refine Run.opG wantS_none (ex_assign rfl) rfl ?_
    refine Run.opG wantS_none (ex_assign rfl) rfl ?_
    refine Run.opsEnd ?_
    have hH38 : Has (ro (frozen M)) M32 [.vec 3 1 ([] : List Int).length .nils (([] : List Int).flatMap enc3), .obj b31 (.row 3 .whole [(.int .i64 a5)]), .obj b28 (.row 3 .whole [(.int .i64 a4)]), .obj b25 (.row 3 .whole [(.int .i64 a3)]), .obj b22 (.row 3 .whole [(.int .i64 a2)])] := hH32.nils 3 1
    cases h
    exact Run.ret Tryz.func19 rfl (res_tmp rfl (res_tmp rfl res_nil)) ⟨_, rfl, (hH38.pick [0] rfl rfl).upF (none_le _)⟩
  · have h := bif_f hc36 h
    refine Run.condF' rfl hc36 ?_
    refine Run.seq (Run.region ?_)
    refine Run.opG wantS_none (ex_load1 rfl (hH32.cells (i := 3) rfl 0 rfl) rdLe_rfl agg3) rfl ?_
    refine Run.opG wantS_none (ex_load1 rfl (hH32.cells (i := 2) rfl 0 rfl) rdLe_rfl agg3) rfl ?_
    refine Run.opG wantS_none (ex_move rfl) rfl ?_
    refine Run.opG wantS_none (ex_len' rfl hs0 lenk31) rfl ?_
    obtain ⟨r40, hr40, h⟩ := bnd_some h
    refine Run.callP wantS_none (ex_call rfl mkk60 cal60) rfl (sky_isBetween_ok F a2 a3 (a0.length : Int) _ _ hr40) ?_
    refine Run.opG wantS_none (ex_not rfl) rfl ?_
    refine Run.opG wantS_none (ex_move rfl) rfl ?_
    rcases btf ((!r40)) with hc42 | hc42
    · have h := bif_t hc42 h
      refine Run.no (wantS_not' rfl rfl hc42) rfl ?_
      refine Run.no (wantS_not' rfl rfl hc42) rfl ?_
      refine Run.no (wantS_not' rfl rfl hc42) rfl ?_
      refine Run.opG wantS_none (ex_pickT' rfl hc42 rfl rfl) rfl ?_
      exact Run.pick [0, 1, 8, 9, 10, 11, 35] (sky_Ring_1_ok F a0 a1 true a2 a3 a4 a5 s0 b22 b25 b28 b31 _ _ _ hs0 (hH32.pick [3, 2, 1, 0] rfl rfl) h)
    · have h := bif_f hc42 h
      refine Run.opG (wantS_yes' rfl rfl hc42) (ex_load1 rfl (hH32.cells (i := 1) rfl 0 rfl) rdLe_rfl agg3) rfl ?_
      obtain ⟨r109, hr109, h⟩ := bnd_some h
      refine Run.callP (wantS_yes' rfl rfl hc42) (ex_call rfl mkk61 cal61) rfl (sky_isInstant_ok F a4 _ _ hr109) ?_
      refine Run.opG (wantS_yes' rfl rfl hc42) (ex_not rfl) rfl ?_
      refine Run.opG wantS_none (ex_pickF' rfl hc42 rfl rfl) rfl ?_
      exact Run.pick [0, 1, 8, 9, 10, 11, 35] (sky_Ring_1_ok F a0 a1 (!r109) a2 a3 a4 a5 s0 b22 b25 b28 b31 _ _ _ hs0 (hH32.pick [3, 2, 1, 0] rfl rfl) h)

theorem mkk19 : makeK Tryz.prog 19 = none := by kernel_rfl
theorem cal19 : callable Tryz.prog 19 = true := by kernel_rfl
theorem els36 : elems Tryz.prog 36 = some (.sl 1) := by kernel_rfl
theorem plan9_1_1_1_1_1_1_1_0_1_0_0_1_0_0_1_0_0_1_0_0_0 : planOf Tryz.prog (opsC (atC Tryz.prog 9 [1, 1, 1, 1, 1, 1, 1, 0, 1, 0, 0, 1, 0, 0, 1, 0, 0, 1, 0, 0, 0])) = some [.fl 0, .fl 1, .fl 2, .fl 3, .fl 4, .fl 5, .fl 6, .fl 7, .fl 8, .fl 9, .fl 10, .fl 11, .fl 12, .fl 13, .fl 14, .fl 15, .fl 16, .fl 17, .fl 18, .fl 19, .fl 20, .fl 21, .fl 22, .fl 23, .fl 24, .fl 25, .fl 26, .fl 27, .fl 28, .fl 29, .fl 30, .fl 31, .fl 32, .fl 33, .fl 34, .fl 35, .an 36 [], .fl 37, .fl 38, .fl 39, .fl 40, .fl 41, .sync] := by kernel_rfl
abbrev ref00_Find_post (r : Int) : SV → Mem → Prop := fun s _ => s = (.int .i64 r)

def ref00_Find_1 (F : Nat) : Nat → (List Int) → Int → Int → Option (Int)
  | 0, _, _, _ => none
  | N + 1, v0, v1, v5 =>
    bif (decide (v5 < (v0.length : Int))) then
      bnd (idx v0 v5) fun x23 =>
      bif (x23 == v1) then
        some v5
      else
        (ref00_Find_1 F N) v0 v1 (w64 (v5 + (1 : Int)))
    else
      some ((-1) : Int)

theorem ref00_Find_1_ok (F : Nat) : ∀ (N : Nat), ∀ (v0 : (List Int)) (v1 v5 : Int) (sv0 : SV) (Fr : Rd) (M : Mem) (r : Int) (hv0 : Slc Fr 1 (FlatR enc3) sv0 v0) (hH : Has Fr M []), ref00_Find_1 F N v0 v1 v5 = some r → Run Tryz.prog ⟨⟨39, [], none⟩, []⟩ 19 (ref00_Find_post r) [(0, sv0), (1, (.int .i64 v1)), (5, (.int .i64 v5))] [codeC Tryz.prog 39 [1, 0, 1, 0, 0], loopC Tryz.prog 39 [1, 0, 1, 0, 0], .inBlock 0, codeC Tryz.prog 39 [1, 1]] M := by
  intro N
  induction N with
  | zero =>
    intro v0 v1 v5 sv0 Fr M r hv0 hH h
    simp [ref00_Find_1] at h
  | succ N ih =>
    intro v0 v1 v5 sv0 Fr M r hv0 hH h
    rw [ref00_Find_1] at h
    refine Run.seq (Run.seq (Run.region ?_))
    refine Run.opG wantS_none (ex_move rfl) rfl ?_
    refine Run.opG wantS_none (ex_move rfl) rfl ?_
    refine Run.opG wantS_none (ex_len' rfl hv0 lenk36) rfl ?_
    refine Run.opG wantS_none (ex_lss rfl rfl) rfl ?_
    refine Run.opsEnd ?_
    rcases btf ((decide (v5 < (v0.length : Int)))) with hc21 | hc21
    · have h := bif_t hc21 h
      refine Run.condT' rfl hc21 ?_
      refine Run.skip (Run.seq (Run.block (Run.seq (Run.region ?_))))
      refine Run.opG wantS_none (ex_move rfl) rfl ?_
      refine Run.opG wantS_none (ex_move rfl) rfl ?_
      obtain ⟨x23, hx23, h⟩ := bnd_some h
      obtain ⟨p23, o23, _, hx23, hp23, rfl⟩ := sl_elem (P := Tryz.prog) (t := 36) (kk := .i64) hv0 hx23 els36
      refine Run.opG wantS_none (ex_elX rfl rfl hx23) rfl ?_
      refine Run.opG wantS_none (ex_load1 rfl (hH.ptrF hp23) rdLe_rfl agg3) rfl ?_
      refine Run.opG wantS_none (ex_move rfl) rfl ?_
      refine Run.opG wantS_none (ex_eql rfl rfl) rfl ?_
      refine Run.opsEnd ?_
      rcases btf ((x23 == v1)) with hc24 | hc24
      · have h := bif_t hc24 h
        refine Run.condT' rfl hc24 ?_
        refine Run.seq (Run.region ?_)
        refine Run.opG wantS_none (ex_move rfl) rfl ?_
        refine Run.opG wantS_none (ex_assign rfl) rfl ?_
        refine Run.opsEnd ?_
        cases h
        exact Run.ret Tryz.func39 rfl (res_tmp rfl res_nil) rfl
      · have h := bif_f hc24 h
        refine Run.condF' rfl hc24 ?_
        refine Run.skip (Run.inBlock (Run.region ?_))
        refine Run.opG wantS_none (ex_move rfl) rfl ?_
        refine Run.opG wantS_none (ex_add rfl rfl) rfl ?_
        refine Run.opG wantS_none (ex_assign rfl) rfl ?_
        refine Run.opsEnd (Run.inLoop ?_)
        exact Run.pick [0, 1, 5] (ih v0 v1 (w64 (v5 + (1 : Int))) sv0 _ _ _ hv0 hH h)
    · have h := bif_f hc21 h
      refine Run.condF' rfl hc21 ?_
      refine Run.exit rfl (Run.seq (Run.region ?_))
      refine Run.opG wantS_none (ex_assign rfl) rfl ?_
      refine Run.opsEnd ?_
      cases h
      exact Run.ret Tryz.func39 rfl (res_tmp rfl res_nil) rfl

def ref00_Find (F : Nat) (a0 : (List Int)) (a1 : Int) : Option (Int) :=
  ref00_Find_1 F F a0 a1 (0 : Int)

theorem ref00_Find_ok (F : Nat) (a0 : (List Int)) (a1 : Int) (s0 : SV) (r : Int) (M : Mem) (hs0 : Slc (rd M) 1 (FlatR enc3) s0 a0) (h : ref00_Find F a0 a1 = some r) : CallsM Tryz.prog 39 [s0, (.int .i64 a1)] M (fun s M' => s = (.int .i64 r) ∧ M' = M) := by
  refine CallsM.plain Tryz.func39 rfl rfl rfl (show Run _ _ _ (ref00_Find_post r) _ _ _ from ?_)
  rw [ref00_Find] at h
  replace hs0 := hs0.mono (rdLe_frozen M) (fun _ _ h => h)
  have hH := Has.nil (frozen M)
  refine Run.seq (Run.region ?_)
  refine Run.opG wantS_none (ex_assign rfl) rfl ?_
  refine Run.opsEnd (Run.seq (Run.seq (Run.region ?_)))
  refine Run.opG wantS_none (ex_assign rfl) rfl ?_
  refine Run.opsEnd (Run.block (Run.loop ?_))
  exact Run.pick [0, 1, 5] (ref00_Find_1_ok F F a0 a1 (0 : Int) s0 _ _ _ hs0 hH h)

theorem mkk39 : makeK Tryz.prog 39 = none := by kernel_rfl
theorem cal39 : callable Tryz.prog 39 = true := by kernel_rfl
theorem eqk4 : eqK Tryz.prog 4 = some .bool := by kernel_rfl
theorem plan9_1_1_1_1_1_1_1_1_0_1_0_0_1_0_0_0 : planOf Tryz.prog (opsC (atC Tryz.prog 9 [1, 1, 1, 1, 1, 1, 1, 1, 0, 1, 0, 0, 1, 0, 0, 0])) = some [.fl 0, .fl 1, .fl 2, .fl 3, .fl 4, .fl 5, .fl 6, .fl 7, .an 8 [5, 4, 3, 2, 1, 0], .fl 9, .fl 10, .sync] := by kernel_rfl
abbrev law09_SkyAllRings_post (r : Bool) : SV → Mem → Prop := fun s _ => s = (.bool r)

def law09_SkyAllRings_1 (F : Nat) (v32 : Bool) : Option (Bool) :=
  some v32

theorem law09_SkyAllRings_1_ok (F : Nat) : ∀ (v32 : Bool) (Fr : Rd) (M : Mem) (r : Bool) (hH : Has Fr M [tb0, tb1, tb2]), law09_SkyAllRings_1 F v32 = some r → Run Tryz.prog ⟨⟨9, [], none⟩, []⟩ 151 (law09_SkyAllRings_post r) [(32, (.bool v32))] [itemC Tryz.prog 9 [1, 1, 0, 1, 0, 0] 6, codeC Tryz.prog 9 [1, 1, 0, 1, 0, 1], codeC Tryz.prog 9 [1, 1, 1]] M := by
  intro v32 Fr M r hH h
  rw [law09_SkyAllRings_1] at h
  refine Run.opG wantS_none (ex_assign rfl) rfl ?_
  refine Run.opsEnd ?_
  cases h
  exact Run.ret Tryz.func9 rfl (res_tmp rfl res_nil) rfl

def law09_SkyAllRings_4 (F : Nat) (v101 : Bool) : Option (Bool) :=
  some v101

theorem law09_SkyAllRings_4_ok (F : Nat) : ∀ (v101 : Bool) (Fr : Rd) (M : Mem) (r : Bool) (hH : Has Fr M [tb0, tb1, tb2]), law09_SkyAllRings_4 F v101 = some r → Run Tryz.prog ⟨⟨9, [], none⟩, []⟩ 151 (law09_SkyAllRings_post r) [(101, (.bool v101))] [itemC Tryz.prog 9 [1, 1, 1, 1, 1, 1, 1, 0, 1, 0, 0, 1, 0, 0, 1, 0, 0, 1, 0, 0, 1, 0, 1, 0, 0] 6, codeC Tryz.prog 9 [1, 1, 1, 1, 1, 1, 1, 0, 1, 0, 0, 1, 0, 0, 1, 0, 0, 1, 0, 0, 1, 0, 1, 0, 1], codeC Tryz.prog 9 [1, 1, 1, 1, 1, 1, 1, 0, 1, 0, 0, 1, 0, 0, 1, 0, 0, 1, 0, 0, 1, 1], .inBlock 3, codeC Tryz.prog 9 [1, 1, 1, 1, 1, 1, 1, 0, 1, 0, 0, 1, 0, 0, 1, 0, 0, 1, 1], loopC Tryz.prog 9 [1, 1, 1, 1, 1, 1, 1, 0, 1, 0, 0, 1, 0, 0, 1, 0, 0], .inBlock 2, .inBlock 1, codeC Tryz.prog 9 [1, 1, 1, 1, 1, 1, 1, 0, 1, 0, 0, 1, 1], loopC Tryz.prog 9 [1, 1, 1, 1, 1, 1, 1, 0, 1, 0, 0], .inBlock 0, codeC Tryz.prog 9 [1, 1, 1, 1, 1, 1, 1, 1]] M := by
  intro v101 Fr M r hH h
  rw [law09_SkyAllRings_4] at h
  refine Run.opG wantS_none (ex_assign rfl) rfl ?_
  refine Run.opsEnd ?_
  cases h
  exact Run.ret Tryz.func9 rfl (res_tmp rfl res_nil) rfl

def law09_SkyAllRings_6 (F : Nat) (hd5 : (List S_api_Arrival) → Int → Int → Int → Int → Int → (List S_api_Site) → Int → Int → (List Int) → (List Int) → (List Int) → Option (Bool)) (v1 : (List S_api_Arrival)) (v7 v9 v10 v11 v14 : Int) (v124 : Bool) (c25_0 : (List S_api_Site)) (c25_1 c25_2 : Int) (l30 l42 l59 : (List Int)) : Option (Bool) :=
  bif v124 then
    some false
  else
    bnd (idx l59 v14) fun x73 =>
    bnd (idx l42 x73) fun x75 =>
    bnd (inn l42 x73) fun o77 =>
    bnd (upd l42 o77 (w64 (x75 + (1 : Int)))) fun l79 =>
    hd5 v1 v7 v9 v10 v11 (w64 (v14 + (1 : Int))) c25_0 c25_1 c25_2 l30 l79 l59

theorem law09_SkyAllRings_6_ok (F : Nat) (hd5 : (List S_api_Arrival) → Int → Int → Int → Int → Int → (List S_api_Site) → Int → Int → (List Int) → (List Int) → (List Int) → Option (Bool)) (hhd5 : ∀ (v1 : (List S_api_Arrival)) (v7 v9 v10 v11 v14 : Int) (c25_0 : (List S_api_Site)) (c25_1 c25_2 : Int) (l30 l42 l59 : (List Int)) (sv1 sc25_0 : SV) (b25 : Pos) (s30 s42 s59 : SV) (Fr : Rd) (M : Mem) (r : Bool) (hv1 : Slc Fr 3 (FlatR enc67) sv1 v1) (hc25_0 : Slc Fr 10 (FlatR enc105) sc25_0 c25_0) (hH : Has Fr M [.obj b25 (.row 33 .whole [sc25_0, (.int .i64 c25_1), (.int .i64 c25_2)]), .vec 3 1 l30.length s30 (l30.flatMap enc3), .vec 3 1 l42.length s42 (l42.flatMap enc3), .vec 3 1 l59.length s59 (l59.flatMap enc3), tb0, tb1, tb2]), hd5 v1 v7 v9 v10 v11 v14 c25_0 c25_1 c25_2 l30 l42 l59 = some r → Run Tryz.prog ⟨⟨9, [], none⟩, []⟩ 151 (law09_SkyAllRings_post r) [(1, sv1), (2, (.ptr b25 0)), (5, s30), (7, (.int .i64 v7)), (8, s42), (9, (.int .i64 v9)), (10, (.int .i64 v10)), (11, (.int .i64 v11)), (12, s59), (14, (.int .i64 v14))] [codeC Tryz.prog 9 [1, 1, 1, 1, 1, 1, 1, 0, 1, 0, 0, 1, 0, 0, 1, 0, 0, 1, 0, 0, 1, 1, 1, 1, 1, 0, 0], loopC Tryz.prog 9 [1, 1, 1, 1, 1, 1, 1, 0, 1, 0, 0, 1, 0, 0, 1, 0, 0, 1, 0, 0, 1, 1, 1, 1, 1, 0, 0], .inBlock 4, .inBlock 3, codeC Tryz.prog 9 [1, 1, 1, 1, 1, 1, 1, 0, 1, 0, 0, 1, 0, 0, 1, 0, 0, 1, 1], loopC Tryz.prog 9 [1, 1, 1, 1, 1, 1, 1, 0, 1, 0, 0, 1, 0, 0, 1, 0, 0], .inBlock 2, .inBlock 1, codeC Tryz.prog 9 [1, 1, 1, 1, 1, 1, 1, 0, 1, 0, 0, 1, 1], loopC Tryz.prog 9 [1, 1, 1, 1, 1, 1, 1, 0, 1, 0, 0], .inBlock 0, codeC Tryz.prog 9 [1, 1, 1, 1, 1, 1, 1, 1]] M) : ∀ (v1 : (List S_api_Arrival)) (v7 v9 v10 v11 v14 : Int) (v124 : Bool) (c25_0 : (List S_api_Site)) (c25_1 c25_2 : Int) (l30 l42 l59 : (List Int)) (sv1 sc25_0 : SV) (b25 : Pos) (s30 s42 s59 : SV) (Fr : Rd) (M : Mem) (r : Bool) (hv1 : Slc Fr 3 (FlatR enc67) sv1 v1) (hc25_0 : Slc Fr 10 (FlatR enc105) sc25_0 c25_0) (hH : Has Fr M [.obj b25 (.row 33 .whole [sc25_0, (.int .i64 c25_1), (.int .i64 c25_2)]), .vec 3 1 l30.length s30 (l30.flatMap enc3), .vec 3 1 l42.length s42 (l42.flatMap enc3), .vec 3 1 l59.length s59 (l59.flatMap enc3), tb0, tb1, tb2]), law09_SkyAllRings_6 F hd5 v1 v7 v9 v10 v11 v14 v124 c25_0 c25_1 c25_2 l30 l42 l59 = some r → Run Tryz.prog ⟨⟨9, [], none⟩, []⟩ 151 (law09_SkyAllRings_post r) [(1, sv1), (2, (.ptr b25 0)), (5, s30), (7, (.int .i64 v7)), (8, s42), (9, (.int .i64 v9)), (10, (.int .i64 v10)), (11, (.int .i64 v11)), (12, s59), (14, (.int .i64 v14)), (124, (.bool v124))] [codeC Tryz.prog 9 [1, 1, 1, 1, 1, 1, 1, 0, 1, 0, 0, 1, 0, 0, 1, 0, 0, 1, 0, 0, 1, 1, 1, 1, 1, 0, 0, 1, 0, 0, 0, 1], codeC Tryz.prog 9 [1, 1, 1, 1, 1, 1, 1, 0, 1, 0, 0, 1, 0, 0, 1, 0, 0, 1, 0, 0, 1, 1, 1, 1, 1, 0, 0, 1, 0, 0, 1], .inBlock 5, codeC Tryz.prog 9 [1, 1, 1, 1, 1, 1, 1, 0, 1, 0, 0, 1, 0, 0, 1, 0, 0, 1, 0, 0, 1, 1, 1, 1, 1, 0, 0, 1, 1], loopC Tryz.prog 9 [1, 1, 1, 1, 1, 1, 1, 0, 1, 0, 0, 1, 0, 0, 1, 0, 0, 1, 0, 0, 1, 1, 1, 1, 1, 0, 0], .inBlock 4, .inBlock 3, codeC Tryz.prog 9 [1, 1, 1, 1, 1, 1, 1, 0, 1, 0, 0, 1, 0, 0, 1, 0, 0, 1, 1], loopC Tryz.prog 9 [1, 1, 1, 1, 1, 1, 1, 0, 1, 0, 0, 1, 0, 0, 1, 0, 0], .inBlock 2, .inBlock 1, codeC Tryz.prog 9 [1, 1, 1, 1, 1, 1, 1, 0, 1, 0, 0, 1, 1], loopC Tryz.prog 9 [1, 1, 1, 1, 1, 1, 1, 0, 1, 0, 0], .inBlock 0, codeC Tryz.prog 9 [1, 1, 1, 1, 1, 1, 1, 1]] M := by
  intro v1 v7 v9 v10 v11 v14 v124 c25_0 c25_1 c25_2 l30 l42 l59 sv1 sc25_0 b25 s30 s42 s59 Fr M r hv1 hc25_0 hH h
  rw [law09_SkyAllRings_6] at h
  rcases btf (v124) with hc71 | hc71
  · have h := bif_t hc71 h
    refine Run.condT' rfl hc71 ?_
    refine Run.seq (Run.region ?_)
    refine Run.opG wantS_none (ex_assign rfl) rfl ?_
    refine Run.opsEnd ?_
    cases h
    exact Run.ret Tryz.func9 rfl (res_tmp rfl res_nil) rfl
  · have h := bif_f hc71 h
    refine Run.condF' rfl hc71 ?_
    refine Run.skip (Run.region ?_)
    refine Run.opG wantS_none (ex_move rfl) rfl ?_
    refine Run.opG wantS_none (ex_move rfl) rfl ?_
    refine Run.opG wantS_none (ex_move rfl) rfl ?_
    obtain ⟨x73, hx73, h⟩ := bnd_some h
    obtain ⟨p73, o73, hb73, hx73, he73⟩ := vec_elem (P := Tryz.prog) (t := 36) (kk := .i64) hH (i := 3) rfl hx73 els36
    refine Run.opG wantS_none (ex_elX rfl rfl hx73) rfl ?_
    refine Run.opG wantS_none (ex_load1 rfl (hH.at (enc := enc3) (a := x73) (i := 3) rfl hb73 he73 enc3_len) rdLe_rfl agg3) rfl ?_
    obtain ⟨x75, hx75, h⟩ := bnd_some h
    obtain ⟨p75, o75, hb75, hx75, he75⟩ := vec_elem (P := Tryz.prog) (t := 36) (kk := .i64) hH (i := 2) rfl hx75 els36
    refine Run.opG wantS_none (ex_elX rfl rfl hx75) rfl ?_
    refine Run.opG wantS_none (ex_load1 rfl (hH.at (enc := enc3) (a := x75) (i := 2) rfl hb75 he75 enc3_len) rdLe_rfl agg3) rfl ?_
    refine Run.opG wantS_none (ex_add rfl rfl) rfl ?_
    obtain ⟨o77, ho77, h⟩ := bnd_some h
    obtain ⟨p77, hb77, hx77⟩ := vec_place (P := Tryz.prog) (t := 36) (kk := .i64) hH (i := 2) rfl ho77 els36
    refine Run.opG wantS_none (ex_elX rfl rfl hx77) rfl ?_
    obtain ⟨l79, hl79, h⟩ := bnd_some h
    refine Run.opX wantS_none rfl (ExG.storeEl rfl rfl hH (i := 2) rfl hb77 hl79 sz3 rfl enc3_len enc3_ones) ?_
    rintro _ M80 ⟨rfl, (hH80 : Has Fr M80 [.obj b25 (.row 33 .whole [sc25_0, (.int .i64 c25_1), (.int .i64 c25_2)]), .vec 3 1 l30.length s30 (l30.flatMap enc3), .vec 3 1 l79.length s42 (l79.flatMap enc3), .vec 3 1 l59.length s59 (l59.flatMap enc3), tb0, tb1, tb2])⟩
    refine Run.opsEnd (Run.inBlock (Run.region ?_))
    refine Run.opG wantS_none (ex_move rfl) rfl ?_
    refine Run.opG wantS_none (ex_add rfl rfl) rfl ?_
    refine Run.opG wantS_none (ex_assign rfl) rfl ?_
    refine Run.opsEnd (Run.inLoop ?_)
    exact Run.pick [1, 2, 5, 7, 8, 9, 10, 11, 12, 14] (hhd5 v1 v7 v9 v10 v11 (w64 (v14 + (1 : Int))) c25_0 c25_1 c25_2 l30 l79 l59 sv1 sc25_0 b25 s30 s42 s59 _ _ _ hv1 hc25_0 hH80 h)

def law09_SkyAllRings_5 (F : Nat) (hd3 : (List S_api_Arrival) → Int → Int → Int → Int → (List S_api_Site) → Int → Int → (List Int) → (List Int) → Option (Bool)) : Nat → (List S_api_Arrival) → Int → Int → Int → Int → Int → (List S_api_Site) → Int → Int → (List Int) → (List Int) → (List Int) → Option (Bool)
  | 0, _, _, _, _, _, _, _, _, _, _, _, _ => none
  | N + 1, v1, v7, v9, v10, v11, v14, c25_0, c25_1, c25_2, l30, l42, l59 =>
    bif (decide (v14 < (l59.length : Int))) then
      bnd (idx l59 v14) fun x69 =>
      bif (decide (x69 < (0 : Int))) then
        law09_SkyAllRings_6 F (law09_SkyAllRings_5 F hd3 N) v1 v7 v9 v10 v11 v14 true c25_0 c25_1 c25_2 l30 l42 l59
      else
        bnd (idx l59 v14) fun x82 =>
        law09_SkyAllRings_6 F (law09_SkyAllRings_5 F hd3 N) v1 v7 v9 v10 v11 v14 (decide (v7 ≤ x82)) c25_0 c25_1 c25_2 l30 l42 l59
    else
      hd3 v1 v7 v9 v10 (w64 (v11 + (1 : Int))) c25_0 c25_1 c25_2 l30 l42

theorem law09_SkyAllRings_5_ok (F : Nat) (hd3 : (List S_api_Arrival) → Int → Int → Int → Int → (List S_api_Site) → Int → Int → (List Int) → (List Int) → Option (Bool)) (hhd3 : ∀ (v1 : (List S_api_Arrival)) (v7 v9 v10 v11 : Int) (c25_0 : (List S_api_Site)) (c25_1 c25_2 : Int) (l30 l42 : (List Int)) (sv1 sc25_0 : SV) (b25 : Pos) (s30 s42 : SV) (Fr : Rd) (M : Mem) (r : Bool) (hv1 : Slc Fr 3 (FlatR enc67) sv1 v1) (hc25_0 : Slc Fr 10 (FlatR enc105) sc25_0 c25_0) (hH : Has Fr M [.obj b25 (.row 33 .whole [sc25_0, (.int .i64 c25_1), (.int .i64 c25_2)]), .vec 3 1 l30.length s30 (l30.flatMap enc3), .vec 3 1 l42.length s42 (l42.flatMap enc3), tb0, tb1, tb2]), hd3 v1 v7 v9 v10 v11 c25_0 c25_1 c25_2 l30 l42 = some r → Run Tryz.prog ⟨⟨9, [], none⟩, []⟩ 151 (law09_SkyAllRings_post r) [(1, sv1), (2, (.ptr b25 0)), (5, s30), (7, (.int .i64 v7)), (8, s42), (9, (.int .i64 v9)), (10, (.int .i64 v10)), (11, (.int .i64 v11))] [codeC Tryz.prog 9 [1, 1, 1, 1, 1, 1, 1, 0, 1, 0, 0, 1, 0, 0, 1, 0, 0], loopC Tryz.prog 9 [1, 1, 1, 1, 1, 1, 1, 0, 1, 0, 0, 1, 0, 0, 1, 0, 0], .inBlock 2, .inBlock 1, codeC Tryz.prog 9 [1, 1, 1, 1, 1, 1, 1, 0, 1, 0, 0, 1, 1], loopC Tryz.prog 9 [1, 1, 1, 1, 1, 1, 1, 0, 1, 0, 0], .inBlock 0, codeC Tryz.prog 9 [1, 1, 1, 1, 1, 1, 1, 1]] M) : ∀ (N : Nat), ∀ (v1 : (List S_api_Arrival)) (v7 v9 v10 v11 v14 : Int) (c25_0 : (List S_api_Site)) (c25_1 c25_2 : Int) (l30 l42 l59 : (List Int)) (sv1 sc25_0 : SV) (b25 : Pos) (s30 s42 s59 : SV) (Fr : Rd) (M : Mem) (r : Bool) (hv1 : Slc Fr 3 (FlatR enc67) sv1 v1) (hc25_0 : Slc Fr 10 (FlatR enc105) sc25_0 c25_0) (hH : Has Fr M [.obj b25 (.row 33 .whole [sc25_0, (.int .i64 c25_1), (.int .i64 c25_2)]), .vec 3 1 l30.length s30 (l30.flatMap enc3), .vec 3 1 l42.length s42 (l42.flatMap enc3), .vec 3 1 l59.length s59 (l59.flatMap enc3), tb0, tb1, tb2]), law09_SkyAllRings_5 F hd3 N v1 v7 v9 v10 v11 v14 c25_0 c25_1 c25_2 l30 l42 l59 = some r → Run Tryz.prog ⟨⟨9, [], none⟩, []⟩ 151 (law09_SkyAllRings_post r) [(1, sv1), (2, (.ptr b25 0)), (5, s30), (7, (.int .i64 v7)), (8, s42), (9, (.int .i64 v9)), (10, (.int .i64 v10)), (11, (.int .i64 v11)), (12, s59), (14, (.int .i64 v14))] [codeC Tryz.prog 9 [1, 1, 1, 1, 1, 1, 1, 0, 1, 0, 0, 1, 0, 0, 1, 0, 0, 1, 0, 0, 1, 1, 1, 1, 1, 0, 0], loopC Tryz.prog 9 [1, 1, 1, 1, 1, 1, 1, 0, 1, 0, 0, 1, 0, 0, 1, 0, 0, 1, 0, 0, 1, 1, 1, 1, 1, 0, 0], .inBlock 4, .inBlock 3, codeC Tryz.prog 9 [1, 1, 1, 1, 1, 1, 1, 0, 1, 0, 0, 1, 0, 0, 1, 0, 0, 1, 1], loopC Tryz.prog 9 [1, 1, 1, 1, 1, 1, 1, 0, 1, 0, 0, 1, 0, 0, 1, 0, 0], .inBlock 2, .inBlock 1, codeC Tryz.prog 9 [1, 1, 1, 1, 1, 1, 1, 0, 1, 0, 0, 1, 1], loopC Tryz.prog 9 [1, 1, 1, 1, 1, 1, 1, 0, 1, 0, 0], .inBlock 0, codeC Tryz.prog 9 [1, 1, 1, 1, 1, 1, 1, 1]] M := by
  intro N
  induction N with
  | zero =>
    intro v1 v7 v9 v10 v11 v14 c25_0 c25_1 c25_2 l30 l42 l59 sv1 sc25_0 b25 s30 s42 s59 Fr M r hv1 hc25_0 hH h
    simp [law09_SkyAllRings_5] at h
  | succ N ih =>
    intro v1 v7 v9 v10 v11 v14 c25_0 c25_1 c25_2 l30 l42 l59 sv1 sc25_0 b25 s30 s42 s59 Fr M r hv1 hc25_0 hH h
    rw [law09_SkyAllRings_5] at h
    refine Run.seq (Run.seq (Run.region ?_))
    refine Run.opG wantS_none (ex_move rfl) rfl ?_
    refine Run.opG wantS_none (ex_move rfl) rfl ?_
    refine Run.opG wantS_none (ex_len' rfl (hH.slc (i := 3) rfl enc3_len) lenk36) rfl ?_
    refine Run.opG wantS_none (ex_lss rfl rfl) rfl ?_
    refine Run.opsEnd ?_
    rcases btf ((decide (v14 < (l59.length : Int)))) with hc67 | hc67
    · have h := bif_t hc67 h
      refine Run.condT' rfl hc67 ?_
      refine Run.skip (Run.seq (Run.block (Run.seq (Run.seq (Run.region ?_)))))
      refine Run.opG wantS_none (ex_move rfl) rfl ?_
      refine Run.opG wantS_none (ex_move rfl) rfl ?_
      obtain ⟨x69, hx69, h⟩ := bnd_some h
      obtain ⟨p69, o69, hb69, hx69, he69⟩ := vec_elem (P := Tryz.prog) (t := 36) (kk := .i64) hH (i := 3) rfl hx69 els36
      refine Run.opG wantS_none (ex_elX rfl rfl hx69) rfl ?_
      refine Run.opG wantS_none (ex_load1 rfl (hH.at (enc := enc3) (a := x69) (i := 3) rfl hb69 he69 enc3_len) rdLe_rfl agg3) rfl ?_
      refine Run.opG wantS_none (ex_lss rfl rfl) rfl ?_
      refine Run.opG wantS_none (ex_move rfl) rfl ?_
      rcases btf ((decide (x69 < (0 : Int)))) with hc70 | hc70
      · have h := bif_t hc70 h
        refine Run.no (wantS_not' rfl rfl hc70) rfl ?_
        refine Run.no (wantS_not' rfl rfl hc70) rfl ?_
        refine Run.no (wantS_not' rfl rfl hc70) rfl ?_
        refine Run.no (wantS_not' rfl rfl hc70) rfl ?_
        refine Run.no (wantS_not' rfl rfl hc70) rfl ?_
        refine Run.no (wantS_not' rfl rfl hc70) rfl ?_
        refine Run.opG wantS_none (ex_pickT' rfl hc70 rfl rfl) rfl ?_
        refine Run.opsEnd ?_
        exact Run.pick [1, 2, 5, 7, 8, 9, 10, 11, 12, 14, 124] (law09_SkyAllRings_6_ok F (law09_SkyAllRings_5 F hd3 N) ih v1 v7 v9 v10 v11 v14 true c25_0 c25_1 c25_2 l30 l42 l59 sv1 sc25_0 b25 s30 s42 s59 _ _ _ hv1 hc25_0 hH h)
      · have h := bif_f hc70 h
        refine Run.opG (wantS_yes' rfl rfl hc70) (ex_move rfl) rfl ?_
        refine Run.opG (wantS_yes' rfl rfl hc70) (ex_move rfl) rfl ?_
        obtain ⟨x82, hx82, h⟩ := bnd_some h
        obtain ⟨p82, o82, hb82, hx82, he82⟩ := vec_elem (P := Tryz.prog) (t := 36) (kk := .i64) hH (i := 3) rfl hx82 els36
        refine Run.opG (wantS_yes' rfl rfl hc70) (ex_elX rfl rfl hx82) rfl ?_
        refine Run.opG (wantS_yes' rfl rfl hc70) (ex_load1 rfl (hH.at (enc := enc3) (a := x82) (i := 3) rfl hb82 he82 enc3_len) rdLe_rfl agg3) rfl ?_
        refine Run.opG (wantS_yes' rfl rfl hc70) (ex_move rfl) rfl ?_
        refine Run.opG (wantS_yes' rfl rfl hc70) (ex_geq rfl rfl) rfl ?_
        refine Run.opG wantS_none (ex_pickF' rfl hc70 rfl rfl) rfl ?_
        refine Run.opsEnd ?_
        exact Run.pick [1, 2, 5, 7, 8, 9, 10, 11, 12, 14, 124] (law09_SkyAllRings_6_ok F (law09_SkyAllRings_5 F hd3 N) ih v1 v7 v9 v10 v11 v14 (decide (v7 ≤ x82)) c25_0 c25_1 c25_2 l30 l42 l59 sv1 sc25_0 b25 s30 s42 s59 _ _ _ hv1 hc25_0 hH h)
    · have h := bif_f hc67 h
      refine Run.condF' rfl hc67 ?_
      refine Run.exit rfl (Run.inBlock (Run.region ?_))
      refine Run.opG wantS_none (ex_move rfl) rfl ?_
      refine Run.opG wantS_none (ex_add rfl rfl) rfl ?_
      refine Run.opG wantS_none (ex_assign rfl) rfl ?_
      refine Run.opsEnd (Run.inLoop ?_)
      exact Run.pick [1, 2, 5, 7, 8, 9, 10, 11] (hhd3 v1 v7 v9 v10 (w64 (v11 + (1 : Int))) c25_0 c25_1 c25_2 l30 l42 sv1 sc25_0 b25 s30 s42 _ _ _ hv1 hc25_0 (hH.pick [0, 1, 2, 4, 5, 6] rfl rfl) h)

def law09_SkyAllRings_3 (F : Nat) (hd2 : (List S_api_Arrival) → Int → Int → Int → (List S_api_Site) → Int → Int → (List Int) → (List Int) → Option (Bool)) : Nat → (List S_api_Arrival) → Int → Int → Int → Int → (List S_api_Site) → Int → Int → (List Int) → (List Int) → Option (Bool)
  | 0, _, _, _, _, _, _, _, _, _, _ => none
  | N + 1, v1, v7, v9, v10, v11, c25_0, c25_1, c25_2, l30, l42 =>
    bif (decide (v11 < v10)) then
      bnd (idx v1 v11) fun x46 =>
      bnd (idx v1 v10) fun x48 =>
      bnd (idx v1 v10) fun x50 =>
      bnd (idx v1 v11) fun x52 =>
      bnd (idx v1 v10) fun x54 =>
      bnd (idx v1 v11) fun x56 =>
      bnd (sky_Ring F c25_0 c25_1 x46.Site x48.Site (w64 (x50.Time - x52.Time)) (w64 (x54.Slack + x56.Slack))) fun r58 =>
      bif (r58.2 == (92 : Int)) then
        bif ((l30.length : Int) == (0 : Int)) then
          bnd (works F) fun r64 =>
          law09_SkyAllRings_4 F r64
        else
          law09_SkyAllRings_4 F false
      else
        bif (!(r58.2 == (0 : Int))) then
          some false
        else
          law09_SkyAllRings_5 F (law09_SkyAllRings_3 F hd2 N) F v1 v7 (w64 (v9 + (1 : Int))) v10 v11 (0 : Int) c25_0 c25_1 c25_2 l30 l42 r58.1
    else
      hd2 v1 v7 v9 (w64 (v10 + (1 : Int))) c25_0 c25_1 c25_2 l30 l42

theorem law09_SkyAllRings_3_ok (F : Nat) (hd2 : (List S_api_Arrival) → Int → Int → Int → (List S_api_Site) → Int → Int → (List Int) → (List Int) → Option (Bool)) (hhd2 : ∀ (v1 : (List S_api_Arrival)) (v7 v9 v10 : Int) (c25_0 : (List S_api_Site)) (c25_1 c25_2 : Int) (l30 l42 : (List Int)) (sv1 sc25_0 : SV) (b25 : Pos) (s30 s42 : SV) (Fr : Rd) (M : Mem) (r : Bool) (hv1 : Slc Fr 3 (FlatR enc67) sv1 v1) (hc25_0 : Slc Fr 10 (FlatR enc105) sc25_0 c25_0) (hH : Has Fr M [.obj b25 (.row 33 .whole [sc25_0, (.int .i64 c25_1), (.int .i64 c25_2)]), .vec 3 1 l30.length s30 (l30.flatMap enc3), .vec 3 1 l42.length s42 (l42.flatMap enc3), tb0, tb1, tb2]), hd2 v1 v7 v9 v10 c25_0 c25_1 c25_2 l30 l42 = some r → Run Tryz.prog ⟨⟨9, [], none⟩, []⟩ 151 (law09_SkyAllRings_post r) [(1, sv1), (2, (.ptr b25 0)), (5, s30), (7, (.int .i64 v7)), (8, s42), (9, (.int .i64 v9)), (10, (.int .i64 v10))] [codeC Tryz.prog 9 [1, 1, 1, 1, 1, 1, 1, 0, 1, 0, 0], loopC Tryz.prog 9 [1, 1, 1, 1, 1, 1, 1, 0, 1, 0, 0], .inBlock 0, codeC Tryz.prog 9 [1, 1, 1, 1, 1, 1, 1, 1]] M) : ∀ (N : Nat), ∀ (v1 : (List S_api_Arrival)) (v7 v9 v10 v11 : Int) (c25_0 : (List S_api_Site)) (c25_1 c25_2 : Int) (l30 l42 : (List Int)) (sv1 sc25_0 : SV) (b25 : Pos) (s30 s42 : SV) (Fr : Rd) (M : Mem) (r : Bool) (hv1 : Slc Fr 3 (FlatR enc67) sv1 v1) (hc25_0 : Slc Fr 10 (FlatR enc105) sc25_0 c25_0) (hH : Has Fr M [.obj b25 (.row 33 .whole [sc25_0, (.int .i64 c25_1), (.int .i64 c25_2)]), .vec 3 1 l30.length s30 (l30.flatMap enc3), .vec 3 1 l42.length s42 (l42.flatMap enc3), tb0, tb1, tb2]), law09_SkyAllRings_3 F hd2 N v1 v7 v9 v10 v11 c25_0 c25_1 c25_2 l30 l42 = some r → Run Tryz.prog ⟨⟨9, [], none⟩, []⟩ 151 (law09_SkyAllRings_post r) [(1, sv1), (2, (.ptr b25 0)), (5, s30), (7, (.int .i64 v7)), (8, s42), (9, (.int .i64 v9)), (10, (.int .i64 v10)), (11, (.int .i64 v11))] [codeC Tryz.prog 9 [1, 1, 1, 1, 1, 1, 1, 0, 1, 0, 0, 1, 0, 0, 1, 0, 0], loopC Tryz.prog 9 [1, 1, 1, 1, 1, 1, 1, 0, 1, 0, 0, 1, 0, 0, 1, 0, 0], .inBlock 2, .inBlock 1, codeC Tryz.prog 9 [1, 1, 1, 1, 1, 1, 1, 0, 1, 0, 0, 1, 1], loopC Tryz.prog 9 [1, 1, 1, 1, 1, 1, 1, 0, 1, 0, 0], .inBlock 0, codeC Tryz.prog 9 [1, 1, 1, 1, 1, 1, 1, 1]] M := by
  intro N
  induction N with
  | zero =>
    intro v1 v7 v9 v10 v11 c25_0 c25_1 c25_2 l30 l42 sv1 sc25_0 b25 s30 s42 Fr M r hv1 hc25_0 hH h
    simp [law09_SkyAllRings_3] at h
  | succ N ih =>
    intro v1 v7 v9 v10 v11 c25_0 c25_1 c25_2 l30 l42 sv1 sc25_0 b25 s30 s42 Fr M r hv1 hc25_0 hH h
    rw [law09_SkyAllRings_3] at h
    refine Run.seq (Run.seq (Run.region ?_))
    refine Run.opG wantS_none (ex_move rfl) rfl ?_
    refine Run.opG wantS_none (ex_move rfl) rfl ?_
    refine Run.opG wantS_none (ex_lss rfl rfl) rfl ?_
    refine Run.opsEnd ?_
    rcases btf ((decide (v11 < v10))) with hc45 | hc45
    · have h := bif_t hc45 h
      refine Run.condT' rfl hc45 ?_
      refine Run.skip (Run.seq (Run.block (Run.seq ?_)))
      refine Run.drawG plan9_1_1_1_1_1_1_1_0_1_0_0_1_0_0_1_0_0_1_0_0_0 ?_
      refine DrawG.fl rfl (ev_ex wantS_none (ex_fieldAddr rfl off33_0)) rfl ?_
      refine DrawG.fl rfl (ev_ex wantS_none (ex_load1 rfl (hH.cells (i := 0) rfl 0 rfl) rdLe_rfl agg31)) rfl ?_
      refine DrawG.fl rfl (ev_ex wantS_none (ex_fieldAddr rfl off33_1)) rfl ?_
      refine DrawG.fl rfl (ev_ex wantS_none (ex_load1 rfl (hH.cells (i := 0) rfl 1 rfl) rdLe_rfl agg3)) rfl ?_
      refine DrawG.fl rfl (ev_ex wantS_none (ex_move rfl)) rfl ?_
      refine DrawG.fl rfl (ev_ex wantS_none (ex_move rfl)) rfl ?_
      obtain ⟨x46, hx46, h⟩ := bnd_some h
      obtain ⟨p46, o46, _, hx46, hp46, rfl⟩ := sl_elem (P := Tryz.prog) (t := 35) (kk := .i64) hv1 hx46 els35
      refine DrawG.fl rfl (ev_ex wantS_none (ex_elX rfl rfl hx46)) rfl ?_
      have hp47 := (hp46.fld (o := 0) rfl)
      refine DrawG.fl rfl (ev_ex wantS_none (ex_fieldAddr rfl off67_0)) rfl ?_
      refine DrawG.fl rfl (ev_ex wantS_none (ex_load1 rfl (hH.ptrF hp47) rdLe_rfl agg3)) rfl ?_
      refine DrawG.fl rfl (ev_ex wantS_none (ex_move rfl)) rfl ?_
      refine DrawG.fl rfl (ev_ex wantS_none (ex_move rfl)) rfl ?_
      obtain ⟨x48, hx48, h⟩ := bnd_some h
      obtain ⟨p48, o48, _, hx48, hp48, rfl⟩ := sl_elem (P := Tryz.prog) (t := 35) (kk := .i64) hv1 hx48 els35
      refine DrawG.fl rfl (ev_ex wantS_none (ex_elX rfl rfl hx48)) rfl ?_
      have hp49 := (hp48.fld (o := 0) rfl)
      refine DrawG.fl rfl (ev_ex wantS_none (ex_fieldAddr rfl off67_0)) rfl ?_
      refine DrawG.fl rfl (ev_ex wantS_none (ex_load1 rfl (hH.ptrF hp49) rdLe_rfl agg3)) rfl ?_
      refine DrawG.fl rfl (ev_ex wantS_none (ex_move rfl)) rfl ?_
      refine DrawG.fl rfl (ev_ex wantS_none (ex_move rfl)) rfl ?_
      obtain ⟨x50, hx50, h⟩ := bnd_some h
      obtain ⟨p50, o50, _, hx50, hp50, rfl⟩ := sl_elem (P := Tryz.prog) (t := 35) (kk := .i64) hv1 hx50 els35
      refine DrawG.fl rfl (ev_ex wantS_none (ex_elX rfl rfl hx50)) rfl ?_
      have hp51 := (hp50.fld (o := 1) rfl)
      refine DrawG.fl rfl (ev_ex wantS_none (ex_fieldAddr rfl off67_1)) rfl ?_
      refine DrawG.fl rfl (ev_ex wantS_none (ex_load1 rfl (hH.ptrF hp51) rdLe_rfl agg3)) rfl ?_
      refine DrawG.fl rfl (ev_ex wantS_none (ex_move rfl)) rfl ?_
      refine DrawG.fl rfl (ev_ex wantS_none (ex_move rfl)) rfl ?_
      obtain ⟨x52, hx52, h⟩ := bnd_some h
      obtain ⟨p52, o52, _, hx52, hp52, rfl⟩ := sl_elem (P := Tryz.prog) (t := 35) (kk := .i64) hv1 hx52 els35
      refine DrawG.fl rfl (ev_ex wantS_none (ex_elX rfl rfl hx52)) rfl ?_
      have hp53 := (hp52.fld (o := 1) rfl)
      refine DrawG.fl rfl (ev_ex wantS_none (ex_fieldAddr rfl off67_1)) rfl ?_
      refine DrawG.fl rfl (ev_ex wantS_none (ex_load1 rfl (hH.ptrF hp53) rdLe_rfl agg3)) rfl ?_
      refine DrawG.fl rfl (ev_ex wantS_none (ex_sub rfl rfl)) rfl ?_
      refine DrawG.fl rfl (ev_ex wantS_none (ex_move rfl)) rfl ?_
      refine DrawG.fl rfl (ev_ex wantS_none (ex_move rfl)) rfl ?_
      obtain ⟨x54, hx54, h⟩ := bnd_some h
      obtain ⟨p54, o54, _, hx54, hp54, rfl⟩ := sl_elem (P := Tryz.prog) (t := 35) (kk := .i64) hv1 hx54 els35
      refine DrawG.fl rfl (ev_ex wantS_none (ex_elX rfl rfl hx54)) rfl ?_
      have hp55 := (hp54.fld (o := 2) rfl)
      refine DrawG.fl rfl (ev_ex wantS_none (ex_fieldAddr rfl off67_2)) rfl ?_
      refine DrawG.fl rfl (ev_ex wantS_none (ex_load1 rfl (hH.ptrF hp55) rdLe_rfl agg3)) rfl ?_
      refine DrawG.fl rfl (ev_ex wantS_none (ex_move rfl)) rfl ?_
      refine DrawG.fl rfl (ev_ex wantS_none (ex_move rfl)) rfl ?_
      obtain ⟨x56, hx56, h⟩ := bnd_some h
      obtain ⟨p56, o56, _, hx56, hp56, rfl⟩ := sl_elem (P := Tryz.prog) (t := 35) (kk := .i64) hv1 hx56 els35
      refine DrawG.fl rfl (ev_ex wantS_none (ex_elX rfl rfl hx56)) rfl ?_
      have hp57 := (hp56.fld (o := 2) rfl)
      refine DrawG.fl rfl (ev_ex wantS_none (ex_fieldAddr rfl off67_2)) rfl ?_
      refine DrawG.fl rfl (ev_ex wantS_none (ex_load1 rfl (hH.ptrF hp57) rdLe_rfl agg3)) rfl ?_
      refine DrawG.fl rfl (ev_ex wantS_none (ex_add rfl rfl)) rfl ?_
      obtain ⟨r58, hr58, h⟩ := bnd_some h
      refine DrawG.call rfl wantS_none (ex_call rfl mkk19 cal19) rfl (sky_Ring_ok F c25_0 c25_1 x46.Site x48.Site (w64 (x50.Time - x52.Time)) (w64 (x54.Slack + x56.Slack)) sc25_0 _ _ (hH.slcF hc25_0) hr58) ?_
      rintro _ M60 ⟨s58_0, rfl, hN58⟩
      have hH60 : Has Fr M60 [.vec 3 1 r58.1.length s58_0 (r58.1.flatMap enc3), .obj b25 (.row 33 .whole [sc25_0, (.int .i64 c25_1), (.int .i64 c25_2)]), .vec 3 1 l30.length s30 (l30.flatMap enc3), .vec 3 1 l42.length s42 (l42.flatMap enc3), tb0, tb1, tb2] := hN58.1 _ _ hH
      refine ⟨st_nil, ?_⟩
      refine DrawG.fl rfl (ev_ex wantS_none (ex_move rfl)) rfl ?_
      refine DrawG.fl rfl (ev_ex wantS_none (ex_extract rfl rfl)) rfl ?_
      refine DrawG.fl rfl (ev_ex wantS_none (ex_extract rfl rfl)) rfl ?_
      refine DrawG.fl rfl (ev_ex wantS_none (ex_assign rfl)) rfl ?_
      refine DrawG.fl rfl (ev_ex wantS_none (ex_assign rfl)) rfl ?_
      refine DrawG.sync ?_
      refine DrawG.nil ?_
      refine Run.seq (Run.seq (Run.region ?_))
      refine Run.opG wantS_none (ex_move rfl) rfl ?_
      refine Run.opG wantS_none (ex_eql rfl rfl) rfl ?_
      refine Run.opsEnd ?_
      rcases btf ((r58.2 == (92 : Int))) with hc61 | hc61
      · have h := bif_t hc61 h
        refine Run.condT' rfl hc61 ?_
        refine Run.seq (Run.region ?_)
        refine Run.opG wantS_none (ex_move rfl) rfl ?_
        refine Run.opG wantS_none (ex_len' rfl (hH60.slc (i := 2) rfl enc3_len) lenk36) rfl ?_
        refine Run.opG wantS_none (ex_eql rfl rfl) rfl ?_
        refine Run.opG wantS_none (ex_move rfl) rfl ?_
        rcases btf (((l30.length : Int) == (0 : Int))) with hc62 | hc62
        · have h := bif_t hc62 h
          obtain ⟨r64, hr64, h⟩ := bnd_some h
          refine Run.callP (wantS_yes' rfl rfl hc62) (ex_call rfl mkk18 cal18) rfl (works_ok F r64 _ hH60 (List.mem_of_getElem? (i := 4) rfl) (List.mem_of_getElem? (i := 5) rfl) (List.mem_of_getElem? (i := 6) rfl) hr64) ?_
          refine Run.opG wantS_none (ex_pickT' rfl hc62 rfl rfl) rfl ?_
          exact Run.pick [101] (law09_SkyAllRings_4_ok F r64 _ _ _ (hH60.pick [4, 5, 6] rfl rfl) h)
        · have h := bif_f hc62 h
          refine Run.no (wantS_not' rfl rfl hc62) rfl ?_
          refine Run.opG wantS_none (ex_pickF' rfl hc62 rfl rfl) rfl ?_
          exact Run.pick [101] (law09_SkyAllRings_4_ok F false _ _ _ (hH60.pick [4, 5, 6] rfl rfl) h)
      · have h := bif_f hc61 h
        refine Run.condF' rfl hc61 ?_
        refine Run.skip (Run.seq (Run.seq (Run.region ?_)))
        refine Run.opG wantS_none (ex_move rfl) rfl ?_
        refine Run.opG wantS_none (ex_neq rfl rfl) rfl ?_
        refine Run.opsEnd ?_
        rcases btf ((!(r58.2 == (0 : Int)))) with hc66 | hc66
        · have h := bif_t hc66 h
          refine Run.condT' rfl hc66 ?_
          refine Run.seq (Run.region ?_)
          refine Run.opG wantS_none (ex_assign rfl) rfl ?_
          refine Run.opsEnd ?_
          cases h
          exact Run.ret Tryz.func9 rfl (res_tmp rfl res_nil) rfl
        · have h := bif_f hc66 h
          refine Run.condF' rfl hc66 ?_
          refine Run.skip (Run.seq (Run.region ?_))
          refine Run.opG wantS_none (ex_move rfl) rfl ?_
          refine Run.opG wantS_none (ex_add rfl rfl) rfl ?_
          refine Run.opG wantS_none (ex_assign rfl) rfl ?_
          refine Run.opsEnd (Run.seq (Run.region ?_))
          refine Run.opG wantS_none (ex_assign rfl) rfl ?_
          refine Run.opsEnd (Run.block (Run.loop ?_))
          exact Run.pick [1, 2, 5, 7, 8, 9, 10, 11, 12, 14] (law09_SkyAllRings_5_ok F (law09_SkyAllRings_3 F hd2 N) ih F v1 v7 (w64 (v9 + (1 : Int))) v10 v11 (0 : Int) c25_0 c25_1 c25_2 l30 l42 r58.1 sv1 sc25_0 b25 s30 s42 s58_0 _ _ _ hv1 hc25_0 (hH60.pick [1, 2, 3, 0, 4, 5, 6] rfl rfl) h)
    · have h := bif_f hc45 h
      refine Run.condF' rfl hc45 ?_
      refine Run.exit rfl (Run.inBlock (Run.region ?_))
      refine Run.opG wantS_none (ex_move rfl) rfl ?_
      refine Run.opG wantS_none (ex_add rfl rfl) rfl ?_
      refine Run.opG wantS_none (ex_assign rfl) rfl ?_
      refine Run.opsEnd (Run.inLoop ?_)
      exact Run.pick [1, 2, 5, 7, 8, 9, 10] (hhd2 v1 v7 v9 (w64 (v10 + (1 : Int))) c25_0 c25_1 c25_2 l30 l42 sv1 sc25_0 b25 s30 s42 _ _ _ hv1 hc25_0 hH h)

def law09_SkyAllRings_7 (F : Nat) : Nat → Int → Int → Int → (List Int) → (List Int) → Option (Bool)
  | 0, _, _, _, _, _ => none
  | N + 1, v7, v9, v15, l30, l42 =>
    bif (decide (v15 < v7)) then
      bnd (idx l42 v15) fun x84 =>
      bnd (ref00_Find F l30 v15) fun r85 =>
      bif (!((x84 == v9) == (decide ((0 : Int) ≤ r85)))) then
        some false
      else
        (law09_SkyAllRings_7 F N) v7 v9 (w64 (v15 + (1 : Int))) l30 l42
    else
      bnd (works F) fun r89 =>
      some r89

theorem law09_SkyAllRings_7_ok (F : Nat) : ∀ (N : Nat), ∀ (v7 v9 v15 : Int) (l30 l42 : (List Int)) (s30 s42 : SV) (Fr : Rd) (M : Mem) (r : Bool) (hH : Has Fr M [.vec 3 1 l30.length s30 (l30.flatMap enc3), .vec 3 1 l42.length s42 (l42.flatMap enc3), tb0, tb1, tb2]), law09_SkyAllRings_7 F N v7 v9 v15 l30 l42 = some r → Run Tryz.prog ⟨⟨9, [], none⟩, []⟩ 151 (law09_SkyAllRings_post r) [(5, s30), (7, (.int .i64 v7)), (8, s42), (9, (.int .i64 v9)), (15, (.int .i64 v15))] [codeC Tryz.prog 9 [1, 1, 1, 1, 1, 1, 1, 1, 0, 1, 0, 0], loopC Tryz.prog 9 [1, 1, 1, 1, 1, 1, 1, 1, 0, 1, 0, 0], .inBlock 6, codeC Tryz.prog 9 [1, 1, 1, 1, 1, 1, 1, 1, 1]] M := by
  intro N
  induction N with
  | zero =>
    intro v7 v9 v15 l30 l42 s30 s42 Fr M r hH h
    simp [law09_SkyAllRings_7] at h
  | succ N ih =>
    intro v7 v9 v15 l30 l42 s30 s42 Fr M r hH h
    rw [law09_SkyAllRings_7] at h
    refine Run.seq (Run.seq (Run.region ?_))
    refine Run.opG wantS_none (ex_move rfl) rfl ?_
    refine Run.opG wantS_none (ex_move rfl) rfl ?_
    refine Run.opG wantS_none (ex_lss rfl rfl) rfl ?_
    refine Run.opsEnd ?_
    rcases btf ((decide (v15 < v7))) with hc83 | hc83
    · have h := bif_t hc83 h
      refine Run.condT' rfl hc83 ?_
      refine Run.skip (Run.seq (Run.block (Run.seq ?_)))
      refine Run.drawG plan9_1_1_1_1_1_1_1_1_0_1_0_0_1_0_0_0 ?_
      refine DrawG.fl rfl (ev_ex wantS_none (ex_move rfl)) rfl ?_
      refine DrawG.fl rfl (ev_ex wantS_none (ex_move rfl)) rfl ?_
      obtain ⟨x84, hx84, h⟩ := bnd_some h
      obtain ⟨p84, o84, hb84, hx84, he84⟩ := vec_elem (P := Tryz.prog) (t := 36) (kk := .i64) hH (i := 1) rfl hx84 els36
      refine DrawG.fl rfl (ev_ex wantS_none (ex_elX rfl rfl hx84)) rfl ?_
      refine DrawG.fl rfl (ev_ex wantS_none (ex_load1 rfl (hH.at (enc := enc3) (a := x84) (i := 1) rfl hb84 he84 enc3_len) rdLe_rfl agg3)) rfl ?_
      refine DrawG.fl rfl (ev_ex wantS_none (ex_move rfl)) rfl ?_
      refine DrawG.fl rfl (ev_ex wantS_none (ex_eql rfl rfl)) rfl ?_
      refine DrawG.fl rfl (ev_ex wantS_none (ex_move rfl)) rfl ?_
      refine DrawG.fl rfl (ev_ex wantS_none (ex_move rfl)) rfl ?_
      obtain ⟨r85, hr85, h⟩ := bnd_some h
      refine DrawG.callP rfl wantS_none (ex_call rfl mkk39 cal39) rfl (ref00_Find_ok F l30 v15 s30 _ _ (hH.slc (i := 0) rfl enc3_len) hr85) (st_cons rfl (ev_ex wantS_none (ex_eql rfl rfl)) rfl rfl rfl (st_cons rfl (ev_ex wantS_none (ex_move rfl)) rfl rfl rfl (st_cons rfl (ev_ex wantS_none (ex_load1 rfl (hH.at (enc := enc3) (a := x84) (i := 1) rfl hb84 he84 enc3_len) rdLe_rfl agg3)) rfl rfl rfl (st_cons rfl (ev_ex wantS_none (ex_elX rfl rfl hx84)) rfl rfl rfl (st_cons rfl (ev_ex wantS_none (ex_move rfl)) rfl rfl rfl (st_cons rfl (ev_ex wantS_none (ex_move rfl)) rfl rfl (blk_self hH (i := 1) rfl) st_nil)))))) ?_
      refine DrawG.fl rfl (ev_ex wantS_none (ex_geq rfl rfl)) rfl ?_
      refine DrawG.fl rfl (ev_ex wantS_none (ex_neqB rfl rfl eqk4)) rfl ?_
      refine DrawG.sync ?_
      refine DrawG.nil ?_
      rcases btf ((!((x84 == v9) == (decide ((0 : Int) ≤ r85))))) with hc87 | hc87
      · have h := bif_t hc87 h
        refine Run.condT' rfl hc87 ?_
        refine Run.seq (Run.region ?_)
        refine Run.opG wantS_none (ex_assign rfl) rfl ?_
        refine Run.opsEnd ?_
        cases h
        exact Run.ret Tryz.func9 rfl (res_tmp rfl res_nil) rfl
      · have h := bif_f hc87 h
        refine Run.condF' rfl hc87 ?_
        refine Run.skip (Run.inBlock (Run.region ?_))
        refine Run.opG wantS_none (ex_move rfl) rfl ?_
        refine Run.opG wantS_none (ex_add rfl rfl) rfl ?_
        refine Run.opG wantS_none (ex_assign rfl) rfl ?_
        refine Run.opsEnd (Run.inLoop ?_)
        exact Run.pick [5, 7, 8, 9, 15] (ih v7 v9 (w64 (v15 + (1 : Int))) l30 l42 s30 s42 _ _ _ hH h)
    · have h := bif_f hc83 h
      refine Run.condF' rfl hc83 ?_
      refine Run.exit rfl (Run.seq (Run.region ?_))
      obtain ⟨r89, hr89, h⟩ := bnd_some h
      refine Run.callP wantS_none (ex_call rfl mkk18 cal18) rfl (works_ok F r89 _ hH (List.mem_of_getElem? (i := 2) rfl) (List.mem_of_getElem? (i := 3) rfl) (List.mem_of_getElem? (i := 4) rfl) hr89) ?_
      refine Run.opG wantS_none (ex_assign rfl) rfl ?_
      refine Run.opsEnd ?_
      cases h
      exact Run.ret Tryz.func9 rfl (res_tmp rfl res_nil) rfl

def law09_SkyAllRings_2 (F : Nat) : Nat → (List S_api_Arrival) → Int → Int → Int → (List S_api_Site) → Int → Int → (List Int) → (List Int) → Option (Bool)
  | 0, _, _, _, _, _, _, _, _, _ => none
  | N + 1, v1, v7, v9, v10, c25_0, c25_1, c25_2, l30, l42 =>
    bif (decide (v10 < (v1.length : Int))) then
      law09_SkyAllRings_3 F (law09_SkyAllRings_2 F N) F v1 v7 v9 v10 (0 : Int) c25_0 c25_1 c25_2 l30 l42
    else
      law09_SkyAllRings_7 F F v7 v9 (0 : Int) l30 l42

theorem law09_SkyAllRings_2_ok (F : Nat) : ∀ (N : Nat), ∀ (v1 : (List S_api_Arrival)) (v7 v9 v10 : Int) (c25_0 : (List S_api_Site)) (c25_1 c25_2 : Int) (l30 l42 : (List Int)) (sv1 sc25_0 : SV) (b25 : Pos) (s30 s42 : SV) (Fr : Rd) (M : Mem) (r : Bool) (hv1 : Slc Fr 3 (FlatR enc67) sv1 v1) (hc25_0 : Slc Fr 10 (FlatR enc105) sc25_0 c25_0) (hH : Has Fr M [.obj b25 (.row 33 .whole [sc25_0, (.int .i64 c25_1), (.int .i64 c25_2)]), .vec 3 1 l30.length s30 (l30.flatMap enc3), .vec 3 1 l42.length s42 (l42.flatMap enc3), tb0, tb1, tb2]), law09_SkyAllRings_2 F N v1 v7 v9 v10 c25_0 c25_1 c25_2 l30 l42 = some r → Run Tryz.prog ⟨⟨9, [], none⟩, []⟩ 151 (law09_SkyAllRings_post r) [(1, sv1), (2, (.ptr b25 0)), (5, s30), (7, (.int .i64 v7)), (8, s42), (9, (.int .i64 v9)), (10, (.int .i64 v10))] [codeC Tryz.prog 9 [1, 1, 1, 1, 1, 1, 1, 0, 1, 0, 0], loopC Tryz.prog 9 [1, 1, 1, 1, 1, 1, 1, 0, 1, 0, 0], .inBlock 0, codeC Tryz.prog 9 [1, 1, 1, 1, 1, 1, 1, 1]] M := by
  intro N
  induction N with
  | zero =>
    intro v1 v7 v9 v10 c25_0 c25_1 c25_2 l30 l42 sv1 sc25_0 b25 s30 s42 Fr M r hv1 hc25_0 hH h
    simp [law09_SkyAllRings_2] at h
  | succ N ih =>
    intro v1 v7 v9 v10 c25_0 c25_1 c25_2 l30 l42 sv1 sc25_0 b25 s30 s42 Fr M r hv1 hc25_0 hH h
    rw [law09_SkyAllRings_2] at h
    refine Run.seq (Run.seq (Run.region ?_))
    refine Run.opG wantS_none (ex_move rfl) rfl ?_
    refine Run.opG wantS_none (ex_move rfl) rfl ?_
    refine Run.opG wantS_none (ex_len' rfl hv1 lenk35) rfl ?_
    refine Run.opG wantS_none (ex_lss rfl rfl) rfl ?_
    refine Run.opsEnd ?_
    rcases btf ((decide (v10 < (v1.length : Int)))) with hc44 | hc44
    · have h := bif_t hc44 h
      refine Run.condT' rfl hc44 ?_
      refine Run.skip (Run.seq (Run.block (Run.seq (Run.region ?_))))
      refine Run.opG wantS_none (ex_assign rfl) rfl ?_
      refine Run.opsEnd (Run.block (Run.loop ?_))
      exact Run.pick [1, 2, 5, 7, 8, 9, 10, 11] (law09_SkyAllRings_3_ok F (law09_SkyAllRings_2 F N) ih F v1 v7 v9 v10 (0 : Int) c25_0 c25_1 c25_2 l30 l42 sv1 sc25_0 b25 s30 s42 _ _ _ hv1 hc25_0 hH h)
    · have h := bif_f hc44 h
      refine Run.condF' rfl hc44 ?_
      refine Run.exit rfl (Run.seq (Run.seq (Run.region ?_)))
      refine Run.opG wantS_none (ex_assign rfl) rfl ?_
      refine Run.opsEnd (Run.block (Run.loop ?_))
      exact Run.pick [5, 7, 8, 9, 15] (law09_SkyAllRings_7_ok F F v7 v9 (0 : Int) l30 l42 s30 s42 _ _ _ (hH.pick [1, 2, 3, 4, 5] rfl rfl) h)

def law09_SkyAllRings (F : Nat) (a0 : S_ringdownlaw09_Net) (a1 : (List S_api_Arrival)) : Option (Bool) :=
  bnd (sky_Fits F a0.L a0.N a1) fun r29 =>
  bif (!(r29.2 == (0 : Int))) then
    bif ((r29.1.length : Int) == (0 : Int)) then
      bnd (works F) fun r35 =>
      law09_SkyAllRings_1 F r35
    else
      law09_SkyAllRings_1 F false
  else
    bnd (sky_Cells F a0.N) fun r38 =>
    bif (!(r38.2 == (0 : Int))) then
      some false
    else
      bnd (mk r38.1 8 (0 : Int)) fun l42 =>
      law09_SkyAllRings_2 F F a1 r38.1 (0 : Int) (0 : Int) a0.L a0.N a0.Cell r29.1 l42

theorem law09_SkyAllRings_run (F : Nat) (a0 : S_ringdownlaw09_Net) (a1 : (List S_api_Arrival)) (s0 s1 : SV) (r : Bool) (M : Mem) (hs0 : Slc (rd M) 10 (FlatR enc105) s0 a0.L) (hs1 : Slc (rd M) 3 (FlatR enc67) s1 a1) (hfx : FixIn M fixes) (h : law09_SkyAllRings F a0 a1 = some r) : Run Tryz.prog (fx0 9) 151 (law09_SkyAllRings_post r) [(0, (.agg [s0, (.int .i64 a0.N), (.int .i64 a0.Cell)])), (1, s1)] [codeC Tryz.prog 9 []] (frozen M) := by
  rw [law09_SkyAllRings] at h
  replace hs0 := hs0.mono (rdLe_frozen M) (fun _ _ h => h)
  replace hs1 := hs1.mono (rdLe_frozen M) (fun _ _ h => h)
  have hH : Has (ro (frozen M)) (frozen M) [tb0, tb1, tb2] := Has.ofFix hfx.frozen
  refine Run.seq (Run.region ?_)
  refine Run.opX wantS_none rfl (ExG.box rfl rfl hH) ?_
  rintro _ M26 ⟨b25, rfl, hH26⟩
  refine Run.opG wantS_none (ex_assign rfl) rfl ?_
  refine Run.opsEnd (Run.seq (Run.region ?_))
  refine Run.opG wantS_none (ex_fieldAddr rfl off33_0) rfl ?_
  refine Run.opG wantS_none (ex_load1 rfl (hH26.cells (i := 0) rfl 0 rfl) rdLe_rfl agg31) rfl ?_
  refine Run.opG wantS_none (ex_fieldAddr rfl off33_1) rfl ?_
  refine Run.opG wantS_none (ex_load1 rfl (hH26.cells (i := 0) rfl 1 rfl) rdLe_rfl agg3) rfl ?_
  refine Run.opG wantS_none (ex_move rfl) rfl ?_
  obtain ⟨r29, hr29, h⟩ := bnd_some h
  refine Run.callX wantS_none (ex_call rfl mkk22 cal22) rfl (sky_Fits_ok F a0.L a0.N a1 s0 s1 _ _ (hH26.slcF hs0) (hH26.slcF hs1) hr29) ?_
  rintro _ M31 ⟨s29_0, rfl, hN29⟩
  have hH31 : Has (ro (frozen M)) M31 [.vec 3 1 r29.1.length s29_0 (r29.1.flatMap enc3), .obj b25 (.row 33 .whole [s0, (.int .i64 a0.N), (.int .i64 a0.Cell)]), tb0, tb1, tb2] := hN29.1 _ _ hH26
  refine Run.opG wantS_none (ex_move rfl) rfl ?_
  refine Run.opG wantS_none (ex_extract rfl rfl) rfl ?_
  refine Run.opG wantS_none (ex_extract rfl rfl) rfl ?_
  refine Run.opG wantS_none (ex_assign rfl) rfl ?_
  refine Run.opG wantS_none (ex_assign rfl) rfl ?_
  refine Run.opsEnd (Run.seq (Run.seq (Run.region ?_)))
  refine Run.opG wantS_none (ex_move rfl) rfl ?_
  refine Run.opG wantS_none (ex_neq rfl rfl) rfl ?_
  refine Run.opsEnd ?_
  rcases btf ((!(r29.2 == (0 : Int)))) with hc32 | hc32
  · have h := bif_t hc32 h
    refine Run.condT' rfl hc32 ?_
    refine Run.seq (Run.region ?_)
    refine Run.opG wantS_none (ex_move rfl) rfl ?_
    refine Run.opG wantS_none (ex_len' rfl (hH31.slc (i := 0) rfl enc3_len) lenk36) rfl ?_
    refine Run.opG wantS_none (ex_eql rfl rfl) rfl ?_
    refine Run.opG wantS_none (ex_move rfl) rfl ?_
    rcases btf (((r29.1.length : Int) == (0 : Int))) with hc33 | hc33
    · have h := bif_t hc33 h
      obtain ⟨r35, hr35, h⟩ := bnd_some h
      refine Run.callP (wantS_yes' rfl rfl hc33) (ex_call rfl mkk18 cal18) rfl (works_ok F r35 _ hH31 (List.mem_of_getElem? (i := 2) rfl) (List.mem_of_getElem? (i := 3) rfl) (List.mem_of_getElem? (i := 4) rfl) hr35) ?_
      refine Run.opG wantS_none (ex_pickT' rfl hc33 rfl rfl) rfl ?_
      exact Run.pick [32] (law09_SkyAllRings_1_ok F r35 _ _ _ (hH31.pick [2, 3, 4] rfl rfl) h)
    · have h := bif_f hc33 h
      refine Run.no (wantS_not' rfl rfl hc33) rfl ?_
      refine Run.opG wantS_none (ex_pickF' rfl hc33 rfl rfl) rfl ?_
      exact Run.pick [32] (law09_SkyAllRings_1_ok F false _ _ _ (hH31.pick [2, 3, 4] rfl rfl) h)
  · have h := bif_f hc32 h
    refine Run.condF' rfl hc32 ?_
    refine Run.skip (Run.seq (Run.region ?_))
    refine Run.opG wantS_none (ex_fieldAddr rfl off33_1) rfl ?_
    refine Run.opG wantS_none (ex_load1 rfl (hH31.cells (i := 1) rfl 1 rfl) rdLe_rfl agg3) rfl ?_
    obtain ⟨r38, hr38, h⟩ := bnd_some h
    refine Run.callP wantS_none (ex_call rfl mkk12 cal12) rfl (sky_Cells_ok F a0.N _ _ hr38) ?_
    refine Run.opG wantS_none (ex_move rfl) rfl ?_
    refine Run.opG wantS_none (ex_extract rfl rfl) rfl ?_
    refine Run.opG wantS_none (ex_extract rfl rfl) rfl ?_
    refine Run.opG wantS_none (ex_assign rfl) rfl ?_
    refine Run.opG wantS_none (ex_assign rfl) rfl ?_
    refine Run.opsEnd (Run.seq (Run.seq (Run.region ?_)))
    refine Run.opG wantS_none (ex_move rfl) rfl ?_
    refine Run.opG wantS_none (ex_neq rfl rfl) rfl ?_
    refine Run.opsEnd ?_
    rcases btf ((!(r38.2 == (0 : Int)))) with hc40 | hc40
    · have h := bif_t hc40 h
      refine Run.condT' rfl hc40 ?_
      refine Run.seq (Run.region ?_)
      refine Run.opG wantS_none (ex_assign rfl) rfl ?_
      refine Run.opsEnd ?_
      cases h
      exact Run.ret Tryz.func9 rfl (res_tmp rfl res_nil) rfl
    · have h := bif_f hc40 h
      refine Run.condF' rfl hc40 ?_
      refine Run.skip (Run.seq (Run.region ?_))
      refine Run.opG wantS_none (ex_move rfl) rfl ?_
      obtain ⟨l42, hl42, h⟩ := bnd_some h
      refine Run.opX wantS_none rfl (ExG.make (enc := enc3) (z := 1) rfl rfl hl42 elt36 rfl rfl enc3_len hH31) ?_
      rintro s42 M43 (hH43 : Has (ro (frozen M)) M43 [.vec 3 1 l42.length s42 (l42.flatMap enc3), .vec 3 1 r29.1.length s29_0 (r29.1.flatMap enc3), .obj b25 (.row 33 .whole [s0, (.int .i64 a0.N), (.int .i64 a0.Cell)]), tb0, tb1, tb2])
      refine Run.opG wantS_none (ex_assign rfl) rfl ?_
      refine Run.opsEnd (Run.seq (Run.region ?_))
      refine Run.opG wantS_none (ex_assign rfl) rfl ?_
      refine Run.opsEnd (Run.seq (Run.seq (Run.region ?_)))
      refine Run.opG wantS_none (ex_assign rfl) rfl ?_
      refine Run.opsEnd (Run.block (Run.loop ?_))
      exact Run.pick [1, 2, 5, 7, 8, 9, 10] (law09_SkyAllRings_2_ok F F a1 r38.1 (0 : Int) (0 : Int) a0.L a0.N a0.Cell r29.1 l42 s1 s0 b25 s29_0 s42 _ _ _ hs1 hs0 (hH43.pick [2, 1, 0, 3, 4, 5] rfl rfl) h)

end Go.Ev.SkyAllRings
