/- Plain functions that say what functions of the program come to, and proofs of it, written by a program of the verifier's own. -/
import Derived.Test.YtmdeiglnjimlnaaSearchVetoedPlain
namespace Go.Ev.SearchVetoed
open Go Go.Ev Go.Proofs
set_option maxRecDepth 100000
set_option linter.unusedVariables false

abbrev search_clock_check_post (r : Int) : SV → Mem → Prop := fun s _ => s = (.int .i64 r)

def search_clock_check_1 (F : Nat) (v20 : Bool) : Option (Int) :=
  bif v20 then
    some (81 : Int)
  else
    some (0 : Int)

theorem search_clock_check_1_ok (F : Nat) : ∀ (v20 : Bool) (Fr : Rd) (M : Mem) (r : Int) (hH : Has Fr M []), search_clock_check_1 F v20 = some r → Run Try.prog ⟨⟨35, [], none⟩, []⟩ 21 (search_clock_check_post r) [(20, (.bool v20))] [codeC Try.prog 35 [1, 1, 1, 0, 1], codeC Try.prog 35 [1, 1, 1, 1]] M := by
  intro v20 Fr M r hH h
  rw [search_clock_check_1] at h
  rcases btf (v20) with hc32 | hc32
  · have h := bif_t hc32 h
    refine Run.condT' rfl hc32 ?_
    refine Run.seq (Run.region ?_)
    refine Run.opG wantS_none (ex_assign rfl) rfl ?_
    refine Run.opsEnd ?_
    cases h
    exact Run.ret Try.func35 rfl (res_tmp rfl res_nil) rfl
  · have h := bif_f hc32 h
    refine Run.condF' rfl hc32 ?_
    refine Run.skip (Run.seq (Run.region ?_))
    refine Run.opG wantS_none (ex_assign rfl) rfl ?_
    refine Run.opsEnd ?_
    cases h
    exact Run.ret Try.func35 rfl (res_tmp rfl res_nil) rfl

def search_clock_check_2 (F : Nat) : Nat → (List (List S_api_Trigger)) → Int → Int → Bool → S_search_clock → Option (Int)
  | 0, _, _, _, _, _ => none
  | N + 1, v0, v7, v8, v16_f2, c22 =>
    bif (decide (v8 < v7)) then
      bnd (idx v0 v8) fun x35 =>
      bnd (search_clock_fits F c22 x35) fun r37 =>
      bif (!r37) then
        search_clock_check_1 F (bif v16_f2 then true else (decide ((0 : Int) ≤ v8)))
      else
        (search_clock_check_2 F N) v0 v7 (w64 (v8 + (1 : Int))) v16_f2 c22
    else
      search_clock_check_1 F (bif v16_f2 then true else (decide ((0 : Int) ≤ ((-1) : Int))))

theorem search_clock_check_2_ok (F : Nat) : ∀ (N : Nat), ∀ (v0 : (List (List S_api_Trigger))) (v7 v8 : Int) (v16_f2 : Bool) (c22 : S_search_clock) (sv0 : SV) (b22 : Pos) (Fr : Rd) (M : Mem) (r : Int) (hv0 : Slc Fr 1 (rep38 Fr) sv0 v0) (hH : Has Fr M [.obj b22 (.row 86 .whole [(.int .i64 c22.live), (.int .i64 c22.window), (.int .i64 c22.step)])]), search_clock_check_2 F N v0 v7 v8 v16_f2 c22 = some r → Run Try.prog ⟨⟨100, [], none⟩, [.mk ⟨72, [], none⟩ 9 (treeOf []) [itemC Try.prog 72 [1, 0] 2, codeC Try.prog 72 [1, 1]], .mk ⟨35, [], none⟩ 21 (treeOf [(16, (.bool v16_f2))]) [itemC Try.prog 35 [1, 1, 1, 0, 0] 6, codeC Try.prog 35 [1, 1, 1, 0, 1], codeC Try.prog 35 [1, 1, 1, 1]]]⟩ 19 (search_clock_check_post r) [(0, sv0), (1, (.fn (.func 69) [] [(.ptr b22 0)])), (7, (.int .i64 v7)), (8, (.int .i64 v8))] [codeC Try.prog 100 [1, 0, 1, 0, 0], loopC Try.prog 100 [1, 0, 1, 0, 0], .inBlock 0, codeC Try.prog 100 [1, 1]] M := by
  intro N
  induction N with
  | zero =>
    intro v0 v7 v8 v16_f2 c22 sv0 b22 Fr M r hv0 hH h
    simp [search_clock_check_2] at h
  | succ N ih =>
    intro v0 v7 v8 v16_f2 c22 sv0 b22 Fr M r hv0 hH h
    rw [search_clock_check_2] at h
    refine Run.seq (Run.region ?_)
    refine Run.opG wantS_none (ex_lss rfl rfl) rfl ?_
    refine Run.opsEnd (Run.seq ?_)
    rcases btf ((decide (v8 < v7))) with hc33 | hc33
    · have h := bif_t hc33 h
      refine Run.condT' rfl hc33 ?_
      refine Run.skip (Run.seq (Run.block (Run.seq (Run.region ?_))))
      refine Run.opG wantS_none (ex_move rfl) rfl ?_
      refine Run.opG wantS_none (ex_assign rfl) rfl ?_
      refine Run.opsEnd (Run.seq (Run.region ?_))
      refine Run.opG wantS_none (ex_move rfl) rfl ?_
      refine Run.opG wantS_none (ex_move rfl) rfl ?_
      refine Run.opG wantS_none (ex_move rfl) rfl ?_
      obtain ⟨x35, hx35, h⟩ := bnd_some h
      obtain ⟨p35, o35, _, hx35, hp35, ⟨q35_0, rfl, hq35_0⟩⟩ := sl_elem (P := Try.prog) (t := 128) (kk := .i64) hv0 hx35 els128
      refine Run.opG wantS_none (ex_elX rfl rfl hx35) rfl ?_
      refine Run.opG wantS_none (ex_load1 rfl (hH.ptrF hp35) rdLe_rfl agg38) rfl ?_
      refine Run.enter wantS_none (ex_closure rfl rfl mkk69 cal69) Try.func69 rfl rfl ?_
      refine Run.seq (Run.region ?_)
      refine Run.opG wantS_none (ex_assign rfl) rfl ?_
      refine Run.opsEnd (Run.seq (Run.region ?_))
      refine Run.opG wantS_none (ex_loadA rfl (hH.cells (i := 0) rfl 0 rfl) rdLe_rfl agg86 rfl rfl rfl) rfl ?_
      refine Run.opG wantS_none (ex_move rfl) rfl ?_
      obtain ⟨r37, hr37, h⟩ := bnd_some h
      refine Run.callP wantS_none (ex_call rfl mkk70 cal70) rfl (search_clock_fits_ok F c22 x35 q35_0 _ _ (hH.slcF hq35_0) hr37) ?_
      refine Run.opG wantS_none (ex_not rfl) rfl ?_
      refine Run.opG wantS_none (ex_assign rfl) rfl ?_
      refine Run.opsEnd ?_
      refine Run.retTo Try.func69 rfl (res_tmp rfl res_nil) rfl ?_
      refine Run.opsEnd ?_
      rcases btf ((!r37)) with hc39 | hc39
      · have h := bif_t hc39 h
        refine Run.condT' rfl hc39 ?_
        refine Run.seq (Run.region ?_)
        refine Run.opG wantS_none (ex_move rfl) rfl ?_
        refine Run.opG wantS_none (ex_assign rfl) rfl ?_
        refine Run.opsEnd ?_
        refine Run.retTo Try.func100 rfl (res_tmp rfl res_nil) rfl ?_
        refine Run.opG wantS_none (ex_geq rfl rfl) rfl ?_
        refine Run.opG wantS_none (ex_assign rfl) rfl ?_
        refine Run.opsEnd ?_
        refine Run.retTo Try.func72 rfl (res_tmp rfl res_nil) rfl ?_
        refine Run.opG wantS_none (ex_pickB rfl rfl rfl) rfl ?_
        refine Run.opsEnd ?_
        exact Run.pick [20] (search_clock_check_1_ok F (bif v16_f2 then true else (decide ((0 : Int) ≤ v8))) _ _ _ (hH.pick [] rfl rfl) h)
      · have h := bif_f hc39 h
        refine Run.condF' rfl hc39 ?_
        refine Run.skip (Run.inBlock (Run.region ?_))
        refine Run.opG wantS_none (ex_add rfl rfl) rfl ?_
        refine Run.opG wantS_none (ex_move rfl) rfl ?_
        refine Run.opsEnd (Run.inLoop ?_)
        exact Run.low (.cons (fle_pick [] rfl) (.cons (fle_pick [16] rfl) .nil)) (Run.pick [0, 1, 7, 8] (ih v0 v7 (w64 (v8 + (1 : Int))) v16_f2 c22 sv0 b22 _ _ _ hv0 hH h))
    · have h := bif_f hc33 h
      refine Run.condF' rfl hc33 ?_
      refine Run.exit rfl (Run.seq (Run.region ?_))
      refine Run.opG wantS_none (ex_assign rfl) rfl ?_
      refine Run.opsEnd ?_
      refine Run.retTo Try.func100 rfl (res_tmp rfl res_nil) rfl ?_
      refine Run.opG wantS_none (ex_geq rfl rfl) rfl ?_
      refine Run.opG wantS_none (ex_assign rfl) rfl ?_
      refine Run.opsEnd ?_
      refine Run.retTo Try.func72 rfl (res_tmp rfl res_nil) rfl ?_
      refine Run.opG wantS_none (ex_pickB rfl rfl rfl) rfl ?_
      refine Run.opsEnd ?_
      exact Run.pick [20] (search_clock_check_1_ok F (bif v16_f2 then true else (decide ((0 : Int) ≤ ((-1) : Int)))) _ _ _ (hH.pick [] rfl rfl) h)

def search_clock_check (F : Nat) (a0 : S_search_clock) (a1 : (List (List S_api_Trigger))) : Option (Int) :=
  bnd (search_checkTriggers F a1) fun r25 =>
  bif (!(r25 == (0 : Int))) then
    some r25
  else
    bnd (search_clock_isValid F a0) fun r29 =>
    bif (!r29) then
      search_clock_check_1 F true
    else
      search_clock_check_2 F F a1 (a1.length : Int) (0 : Int) (!r29) a0

theorem search_clock_check_ok (F : Nat) (a0 : S_search_clock) (a1 : (List (List S_api_Trigger))) (s0 : SV) (r : Int) (M : Mem) (hs0 : Slc (rd M) 1 (rep38 (rd M)) s0 a1) (h : search_clock_check F a0 a1 = some r) : CallsM Try.prog 35 [(.agg [(.int .i64 a0.live), (.int .i64 a0.window), (.int .i64 a0.step)]), s0] M (fun s M' => s = (.int .i64 r) ∧ M' = M) := by
  refine CallsM.plain Try.func35 rfl rfl rfl (show Run _ _ _ (search_clock_check_post r) _ _ _ from ?_)
  rw [search_clock_check] at h
  replace hs0 := hs0.mono (rdLe_frozen M) (fun _ _ => rep38_mo (rdLe_frozen M))
  have hH := Has.nil (frozen M)
  refine Run.seq (Run.region ?_)
  refine Run.opX wantS_none rfl (ExG.box rfl rfl hH) ?_
  rintro _ M23 ⟨b22, rfl, hH23⟩
  refine Run.opG wantS_none (ex_assign rfl) rfl ?_
  refine Run.opsEnd (Run.seq (Run.seq (Run.region ?_)))
  refine Run.opG wantS_none (ex_move rfl) rfl ?_
  obtain ⟨r25, hr25, h⟩ := bnd_some h
  refine Run.callP wantS_none (ex_call rfl mkk68 cal68) rfl (search_checkTriggers_ok F a1 s0 _ _ ((hs0).mono hH23.le (fun _ _ => rep38_mo hH23.le)) hr25) ?_
  refine Run.opG wantS_none (ex_assign rfl) rfl ?_
  refine Run.opsEnd (Run.seq (Run.region ?_))
  refine Run.opG wantS_none (ex_move rfl) rfl ?_
  refine Run.opG wantS_none (ex_neq rfl rfl) rfl ?_
  refine Run.opsEnd ?_
  rcases btf ((!(r25 == (0 : Int)))) with hc27 | hc27
  · have h := bif_t hc27 h
    refine Run.condT' rfl hc27 ?_
    refine Run.seq (Run.region ?_)
    refine Run.opG wantS_none (ex_move rfl) rfl ?_
    refine Run.opG wantS_none (ex_assign rfl) rfl ?_
    refine Run.opsEnd ?_
    cases h
    exact Run.ret Try.func35 rfl (res_tmp rfl res_nil) rfl
  · have h := bif_f hc27 h
    refine Run.condF' rfl hc27 ?_
    refine Run.skip (Run.seq (Run.region ?_))
    refine Run.opG wantS_none (ex_makeFunc rfl rfl) rfl ?_
    refine Run.opG wantS_none (ex_assign rfl) rfl ?_
    refine Run.opsEnd (Run.seq (Run.seq (Run.region ?_)))
    refine Run.opG wantS_none (ex_loadA rfl (hH23.cells (i := 0) rfl 0 rfl) rdLe_rfl agg86 rfl rfl rfl) rfl ?_
    obtain ⟨r29, hr29, h⟩ := bnd_some h
    refine Run.callP wantS_none (ex_call rfl mkk71 cal71) rfl (search_clock_isValid_ok F a0 _ _ hr29) ?_
    refine Run.opG wantS_none (ex_not rfl) rfl ?_
    refine Run.opG wantS_none (ex_move rfl) rfl ?_
    rcases btf ((!r29)) with hc31 | hc31
    · have h := bif_t hc31 h
      refine Run.no (wantS_not' rfl rfl hc31) rfl ?_
      refine Run.no (wantS_not' rfl rfl hc31) rfl ?_
      refine Run.no (wantS_not' rfl rfl hc31) rfl ?_
      refine Run.opG wantS_none (ex_pickT' rfl hc31 rfl rfl) rfl ?_
      refine Run.opsEnd ?_
      exact Run.pick [20] (search_clock_check_1_ok F true _ _ _ (hH23.pick [] rfl rfl) h)
    · have h := bif_f hc31 h
      refine Run.opG (wantS_yes' rfl rfl hc31) (ex_move rfl) rfl ?_
      refine Run.opG (wantS_yes' rfl rfl hc31) (ex_move rfl) rfl ?_
      refine Run.enter (wantS_yes' rfl rfl hc31) (ex_call rfl mkk72 cal72) Try.func72 rfl rfl ?_
      refine Run.seq (Run.region ?_)
      refine Run.opG wantS_none (ex_assign rfl) rfl ?_
      refine Run.opsEnd (Run.seq (Run.region ?_))
      refine Run.opG wantS_none (ex_move rfl) rfl ?_
      refine Run.opG wantS_none (ex_move rfl) rfl ?_
      refine Run.enter wantS_none (ex_call rfl mkk100 cal100) Try.func100 rfl rfl ?_
      refine Run.seq (Run.region ?_)
      refine Run.opG wantS_none (ex_assign rfl) rfl ?_
      refine Run.opsEnd (Run.seq (Run.seq (Run.region ?_)))
      refine Run.opG wantS_none (ex_move rfl) rfl ?_
      refine Run.opG wantS_none (ex_len' rfl hs0 lenk128) rfl ?_
      refine Run.opG wantS_none (ex_move rfl) rfl ?_
      refine Run.opsEnd (Run.block (Run.loop ?_))
      exact Run.low (.cons (fle_pick [] rfl) (.cons (fle_pick [16] rfl) .nil)) (Run.pick [0, 1, 7, 8] (search_clock_check_2_ok F F a1 (a1.length : Int) (0 : Int) (!r29) a0 s0 b22 _ _ _ hs0 hH23 h))

theorem mkk35 : makeK Try.prog 35 = none := by kernel_rfl
theorem cal35 : callable Try.prog 35 = true := by kernel_rfl
theorem zer3 : zerosOf Try.prog 3 = some [(.int .i64 0)] := by kernel_rfl
theorem sz3 : szOf Try.prog 3 = some 1 := by kernel_rfl
theorem mkk38 : makeK Try.prog 38 = none := by kernel_rfl
theorem cal38 : callable Try.prog 38 = true := by kernel_rfl
theorem cal74 : callable Try.prog 74 = true := by kernel_rfl
abbrev search_clock_distance_post (r : Int) : SV → Mem → Prop := fun s _ => s = (.int .i64 r)

def search_clock_distance (F : Nat) (a0 : S_search_clock) (a1 a2 : Int) : Option (Int) :=
  some (min (max (w64 (a1 - a2)) (w64 (a2 - a1))) (w64 (a0.live - (max (w64 (a1 - a2)) (w64 (a2 - a1))))))

theorem search_clock_distance_ok (F : Nat) (a0 : S_search_clock) (a1 a2 r : Int) (M : Mem) (h : search_clock_distance F a0 a1 a2 = some r) : CallsM Try.prog 75 [(.agg [(.int .i64 a0.live), (.int .i64 a0.window), (.int .i64 a0.step)]), (.int .i64 a1), (.int .i64 a2)] M (fun s M' => s = (.int .i64 r) ∧ M' = M) := by
  refine CallsM.plain Try.func75 rfl rfl rfl (show Run _ _ _ (search_clock_distance_post r) _ _ _ from ?_)
  rw [search_clock_distance] at h
  have hH := Has.nil (frozen M)
  refine Run.seq (Run.region ?_)
  refine Run.opX wantS_none rfl (ExG.box rfl rfl hH) ?_
  rintro _ M23 ⟨b22, rfl, hH23⟩
  refine Run.opG wantS_none (ex_assign rfl) rfl ?_
  refine Run.opsEnd (Run.seq (Run.region ?_))
  refine Run.opG wantS_none (ex_move rfl) rfl ?_
  refine Run.opG wantS_none (ex_move rfl) rfl ?_
  refine Run.opG wantS_none (ex_sub rfl rfl) rfl ?_
  refine Run.opG wantS_none (ex_move rfl) rfl ?_
  refine Run.opG wantS_none (ex_move rfl) rfl ?_
  refine Run.opG wantS_none (ex_sub rfl rfl) rfl ?_
  refine Run.opG wantS_none (ex_max rfl rfl) rfl ?_
  refine Run.opG wantS_none (ex_assign rfl) rfl ?_
  refine Run.opsEnd (Run.seq (Run.region ?_))
  refine Run.opG wantS_none (ex_move rfl) rfl ?_
  refine Run.opG wantS_none (ex_fieldAddr rfl off86_0) rfl ?_
  refine Run.opG wantS_none (ex_load1 rfl (hH23.cells (i := 0) rfl 0 rfl) rdLe_rfl agg3) rfl ?_
  refine Run.opG wantS_none (ex_move rfl) rfl ?_
  refine Run.opG wantS_none (ex_sub rfl rfl) rfl ?_
  refine Run.opG wantS_none (ex_min rfl rfl) rfl ?_
  refine Run.opG wantS_none (ex_assign rfl) rfl ?_
  refine Run.opsEnd ?_
  cases h
  exact Run.ret Try.func75 rfl (res_tmp rfl res_nil) rfl

theorem mkk75 : makeK Try.prog 75 = none := by kernel_rfl
theorem cal75 : callable Try.prog 75 = true := by kernel_rfl
theorem zer64 : zerosOf Try.prog 64 = some [(.int .i64 0), (.int .i64 0), (.int .i64 0)] := by kernel_rfl
theorem pls64 : placesOf Try.prog 64 = some (.st [(0, 1), (1, 1), (2, 1)]) := by kernel_rfl
theorem sz64 : szOf Try.prog 64 = some 3 := by kernel_rfl
theorem off64_2 : fieldOff Try.prog 64 2 = some 2 := by kernel_rfl
theorem plan74_1_0_0_1_1_0_0_1_1_0_0_1_1_0_0_1_0 : planOf Try.prog (opsC (atC Try.prog 74 [1, 0, 0, 1, 1, 0, 0, 1, 1, 0, 0, 1, 1, 0, 0, 1, 0])) = some [.fl 0, .fl 1, .fl 2, .fl 3, .fl 4, .fl 5, .fl 6, .fl 7, .fl 8, .fl 9, .fl 10, .fl 12, .fl 13, .an 11 [13, 12], .fl 14, .fl 15, .fl 16, .sync] := by kernel_rfl
abbrev search_clock_loudest_post (r : Int) : SV → Mem → Prop := fun s _ => s = (.int .i64 r)

def search_clock_loudest_4 (F : Nat) (hd2 : Int → (List S_api_Trigger) → Int → Int → (List S_api_Trigger) → Int → Int → Int → Int → (List S_api_Trigger) → (List S_api_Trigger) → S_search_clock → S_api_Trigger → Option (Int)) (v5 : Int) (v10 : (List S_api_Trigger)) (v11 v12 : Int) (v17 : (List S_api_Trigger)) (v18 v19 : Int) (v53 : Bool) (v6_g37 c25_0 : Int) (c32_0 c35_0 : (List S_api_Trigger)) (c29 : S_search_clock) (c43 : S_api_Trigger) : Option (Int) :=
  bif v53 then
    some c25_0
  else
    hd2 v5 v10 v11 v12 v17 v18 (w64 (v19 + (1 : Int))) v6_g37 c25_0 c32_0 c35_0 c29 c43

theorem search_clock_loudest_4_ok (F : Nat) (hd2 : Int → (List S_api_Trigger) → Int → Int → (List S_api_Trigger) → Int → Int → Int → Int → (List S_api_Trigger) → (List S_api_Trigger) → S_search_clock → S_api_Trigger → Option (Int)) (hhd2 : ∀ (v5 : Int) (v10 : (List S_api_Trigger)) (v11 v12 : Int) (v17 : (List S_api_Trigger)) (v18 v19 v6_g37 c25_0 : Int) (c32_0 c35_0 : (List S_api_Trigger)) (c29 : S_search_clock) (c43 : S_api_Trigger) (sv10 sv17 sc32_0 sc35_0 : SV) (b37 b25 b32 b35 b29 b38 b43 : Pos) (Fr : Rd) (M : Mem) (r : Int) (hv10 : Slc Fr 3 (FlatR enc43) sv10 v10) (hv17 : Slc Fr 3 (FlatR enc43) sv17 v17) (hc32_0 : Slc Fr 3 (FlatR enc43) sc32_0 c32_0) (hc35_0 : Slc Fr 3 (FlatR enc43) sc35_0 c35_0) (hH : Has Fr M [.obj b37 (.loop ⟨.ready, none, 36, 19, treeOf [(6, (.int .i64 v6_g37)), (7, (.ptr b25 0)), (12, (.fn (.func 74) [] [(.ptr b32 0), (.ptr b35 0), (.ptr b29 0)]))], [13], (atC Try.prog 36 [1, 1, 0, 1, 0, 0]), (atC Try.prog 36 [1, 1, 0, 1, 0, 1]), b38⟩), .obj b25 (.row 3 .whole [(.int .i64 c25_0)]), .obj b32 (.row 38 .whole [sc32_0]), .obj b35 (.row 38 .whole [sc35_0]), .obj b29 (.row 86 .whole [(.int .i64 c29.live), (.int .i64 c29.window), (.int .i64 c29.step)]), .obj b38 .defd, .obj b43 (.row 43 .whole [(.int .i64 c43.Time), (.int .i64 c43.Loud), (.int .i64 c43.Template)])]), hd2 v5 v10 v11 v12 v17 v18 v19 v6_g37 c25_0 c32_0 c35_0 c29 c43 = some r → Run Try.prog ⟨⟨74, [], none⟩, [.mk ⟨36, [b38], none⟩ 19 (treeOf [(7, (.ptr b25 0))]) [.inRange b37, .inBlock 0, codeC Try.prog 36 [1, 1, 1]]]⟩ 56 (search_clock_loudest_post r) [(0, (.yield b37)), (2, (.ptr b35 0)), (3, (.ptr b29 0)), (5, (.int .i64 v5)), (6, (.ptr b43 0)), (10, sv10), (11, (.int .i64 v11)), (12, (.int .i64 v12)), (17, sv17), (18, (.int .i64 v18)), (19, (.int .i64 v19))] [codeC Try.prog 74 [1, 0, 0, 1, 1, 0, 0, 1, 1, 0, 0], loopC Try.prog 74 [1, 0, 0, 1, 1, 0, 0, 1, 1, 0, 0], .inBlock 2, .inBlock 1, codeC Try.prog 74 [1, 0, 0, 1, 1, 1], loopC Try.prog 74 [1, 0, 0], .inBlock 0] M) : ∀ (v5 : Int) (v10 : (List S_api_Trigger)) (v11 v12 : Int) (v17 : (List S_api_Trigger)) (v18 v19 : Int) (v53 : Bool) (v6_g37 c25_0 : Int) (c32_0 c35_0 : (List S_api_Trigger)) (c29 : S_search_clock) (c43 : S_api_Trigger) (sv10 sv17 sc32_0 sc35_0 : SV) (b37 b25 b32 b35 b29 b38 b43 : Pos) (Fr : Rd) (M : Mem) (r : Int) (hv10 : Slc Fr 3 (FlatR enc43) sv10 v10) (hv17 : Slc Fr 3 (FlatR enc43) sv17 v17) (hc32_0 : Slc Fr 3 (FlatR enc43) sc32_0 c32_0) (hc35_0 : Slc Fr 3 (FlatR enc43) sc35_0 c35_0) (hH : Has Fr M [.obj b37 (.loop ⟨.ready, none, 36, 19, treeOf [(6, (.int .i64 v6_g37)), (7, (.ptr b25 0)), (12, (.fn (.func 74) [] [(.ptr b32 0), (.ptr b35 0), (.ptr b29 0)]))], [13], (atC Try.prog 36 [1, 1, 0, 1, 0, 0]), (atC Try.prog 36 [1, 1, 0, 1, 0, 1]), b38⟩), .obj b25 (.row 3 .whole [(.int .i64 c25_0)]), .obj b32 (.row 38 .whole [sc32_0]), .obj b35 (.row 38 .whole [sc35_0]), .obj b29 (.row 86 .whole [(.int .i64 c29.live), (.int .i64 c29.window), (.int .i64 c29.step)]), .obj b38 .defd, .obj b43 (.row 43 .whole [(.int .i64 c43.Time), (.int .i64 c43.Loud), (.int .i64 c43.Template)])]), search_clock_loudest_4 F hd2 v5 v10 v11 v12 v17 v18 v19 v53 v6_g37 c25_0 c32_0 c35_0 c29 c43 = some r → Run Try.prog ⟨⟨74, [], none⟩, [.mk ⟨36, [b38], none⟩ 19 (treeOf [(7, (.ptr b25 0))]) [.inRange b37, .inBlock 0, codeC Try.prog 36 [1, 1, 1]]]⟩ 56 (search_clock_loudest_post r) [(0, (.yield b37)), (2, (.ptr b35 0)), (3, (.ptr b29 0)), (5, (.int .i64 v5)), (6, (.ptr b43 0)), (10, sv10), (11, (.int .i64 v11)), (12, (.int .i64 v12)), (17, sv17), (18, (.int .i64 v18)), (19, (.int .i64 v19)), (53, (.bool v53))] [codeC Try.prog 74 [1, 0, 0, 1, 1, 0, 0, 1, 1, 0, 0, 1, 1, 0, 0, 1, 1, 1], .inBlock 3, codeC Try.prog 74 [1, 0, 0, 1, 1, 0, 0, 1, 1, 0, 0, 1, 1, 1], loopC Try.prog 74 [1, 0, 0, 1, 1, 0, 0, 1, 1, 0, 0], .inBlock 2, .inBlock 1, codeC Try.prog 74 [1, 0, 0, 1, 1, 1], loopC Try.prog 74 [1, 0, 0], .inBlock 0] M := by
  intro v5 v10 v11 v12 v17 v18 v19 v53 v6_g37 c25_0 c32_0 c35_0 c29 c43 sv10 sv17 sc32_0 sc35_0 b37 b25 b32 b35 b29 b38 b43 Fr M r hv10 hv17 hc32_0 hc35_0 hH h
  rw [search_clock_loudest_4] at h
  rcases btf (v53) with hc64 | hc64
  · have h := bif_t hc64 h
    refine Run.condT' rfl hc64 ?_
    refine Run.retRange Try.func74 rfl res_nil ?_
    refine Run.endX hH (i := 0) rfl (fun hc => by cases hc) ?_
    intro M65 (hH65 : Has Fr M65 [.obj b37 (.loop ⟨.exhausted, none, 36, 19, treeOf [(6, (.int .i64 v6_g37)), (7, (.ptr b25 0)), (12, (.fn (.func 74) [] [(.ptr b32 0), (.ptr b35 0), (.ptr b29 0)]))], [13], (atC Try.prog 36 [1, 1, 0, 1, 0, 0]), (atC Try.prog 36 [1, 1, 0, 1, 0, 1]), b38⟩), .obj b25 (.row 3 .whole [(.int .i64 c25_0)]), .obj b32 (.row 38 .whole [sc32_0]), .obj b35 (.row 38 .whole [sc35_0]), .obj b29 (.row 86 .whole [(.int .i64 c29.live), (.int .i64 c29.window), (.int .i64 c29.step)]), .obj b38 .defd, .obj b43 (.row 43 .whole [(.int .i64 c43.Time), (.int .i64 c43.Loud), (.int .i64 c43.Template)])])
    refine Run.inBlock (Run.seq (Run.region ?_))
    refine Run.opG wantS_none (ex_load1 rfl (hH65.cells (i := 1) rfl 0 rfl) rdLe_rfl agg3) rfl ?_
    refine Run.opG wantS_none (ex_assign rfl) rfl ?_
    refine Run.opsEnd ?_
    obtain ⟨hH66x, hS66⟩ := hH65.shut (i := 5) (ds := []) rfl
    have hH66 : Has Fr (setT M65 b38 none) [.obj b37 (.loop ⟨.exhausted, none, 36, 19, treeOf [(6, (.int .i64 v6_g37)), (7, (.ptr b25 0)), (12, (.fn (.func 74) [] [(.ptr b32 0), (.ptr b35 0), (.ptr b29 0)]))], [13], (atC Try.prog 36 [1, 1, 0, 1, 0, 0]), (atC Try.prog 36 [1, 1, 0, 1, 0, 1]), b38⟩), .obj b25 (.row 3 .whole [(.int .i64 c25_0)]), .obj b32 (.row 38 .whole [sc32_0]), .obj b35 (.row 38 .whole [sc35_0]), .obj b29 (.row 86 .whole [(.int .i64 c29.live), (.int .i64 c29.window), (.int .i64 c29.step)]), .vec 0 0 0 .nils [], .obj b43 (.row 43 .whole [(.int .i64 c43.Time), (.int .i64 c43.Loud), (.int .i64 c43.Template)])] := hH66x
    cases h
    exact Run.ret Try.func36 (hS66 _ rfl) (res_tmp rfl res_nil) rfl
  · have h := bif_f hc64 h
    refine Run.condF' rfl hc64 ?_
    refine Run.skip (Run.inBlock (Run.region ?_))
    refine Run.opG wantS_none (ex_add rfl rfl) rfl ?_
    refine Run.opG wantS_none (ex_move rfl) rfl ?_
    refine Run.opsEnd (Run.inLoop ?_)
    exact Run.low (.cons (fle_pick [7] rfl) .nil) (Run.pick [0, 2, 3, 5, 6, 10, 11, 12, 17, 18, 19] (hhd2 v5 v10 v11 v12 v17 v18 (w64 (v19 + (1 : Int))) v6_g37 c25_0 c32_0 c35_0 c29 c43 sv10 sv17 sc32_0 sc35_0 b37 b25 b32 b35 b29 b38 b43 _ _ _ hv10 hv17 hc32_0 hc35_0 hH h))

def search_clock_loudest_3 (F : Nat) (hd2 : Int → (List S_api_Trigger) → Int → Int → (List S_api_Trigger) → Int → Int → Int → Int → (List S_api_Trigger) → (List S_api_Trigger) → S_search_clock → S_api_Trigger → Option (Int)) (v5 v7 : Int) (v9 : Bool) (v10 : (List S_api_Trigger)) (v11 v12 : Int) (v17 : (List S_api_Trigger)) (v18 v19 v6_g37 c25_0 : Int) (c32_0 c35_0 : (List S_api_Trigger)) (c29 : S_search_clock) (c43 c50 : S_api_Trigger) : Option (Int) :=
  bif v9 then
    search_clock_loudest_4 F hd2 v5 v10 v11 v12 v17 v18 v19 (!true) v6_g37 (max c25_0 (w64 (c43.Loud + c50.Loud))) c32_0 c35_0 c29 c43
  else
    search_clock_loudest_4 F hd2 v5 v10 v11 v12 v17 v18 v19 false v6_g37 c25_0 c32_0 c35_0 c29 c43

theorem search_clock_loudest_3_ok (F : Nat) (hd2 : Int → (List S_api_Trigger) → Int → Int → (List S_api_Trigger) → Int → Int → Int → Int → (List S_api_Trigger) → (List S_api_Trigger) → S_search_clock → S_api_Trigger → Option (Int)) (hhd2 : ∀ (v5 : Int) (v10 : (List S_api_Trigger)) (v11 v12 : Int) (v17 : (List S_api_Trigger)) (v18 v19 v6_g37 c25_0 : Int) (c32_0 c35_0 : (List S_api_Trigger)) (c29 : S_search_clock) (c43 : S_api_Trigger) (sv10 sv17 sc32_0 sc35_0 : SV) (b37 b25 b32 b35 b29 b38 b43 : Pos) (Fr : Rd) (M : Mem) (r : Int) (hv10 : Slc Fr 3 (FlatR enc43) sv10 v10) (hv17 : Slc Fr 3 (FlatR enc43) sv17 v17) (hc32_0 : Slc Fr 3 (FlatR enc43) sc32_0 c32_0) (hc35_0 : Slc Fr 3 (FlatR enc43) sc35_0 c35_0) (hH : Has Fr M [.obj b37 (.loop ⟨.ready, none, 36, 19, treeOf [(6, (.int .i64 v6_g37)), (7, (.ptr b25 0)), (12, (.fn (.func 74) [] [(.ptr b32 0), (.ptr b35 0), (.ptr b29 0)]))], [13], (atC Try.prog 36 [1, 1, 0, 1, 0, 0]), (atC Try.prog 36 [1, 1, 0, 1, 0, 1]), b38⟩), .obj b25 (.row 3 .whole [(.int .i64 c25_0)]), .obj b32 (.row 38 .whole [sc32_0]), .obj b35 (.row 38 .whole [sc35_0]), .obj b29 (.row 86 .whole [(.int .i64 c29.live), (.int .i64 c29.window), (.int .i64 c29.step)]), .obj b38 .defd, .obj b43 (.row 43 .whole [(.int .i64 c43.Time), (.int .i64 c43.Loud), (.int .i64 c43.Template)])]), hd2 v5 v10 v11 v12 v17 v18 v19 v6_g37 c25_0 c32_0 c35_0 c29 c43 = some r → Run Try.prog ⟨⟨74, [], none⟩, [.mk ⟨36, [b38], none⟩ 19 (treeOf [(7, (.ptr b25 0))]) [.inRange b37, .inBlock 0, codeC Try.prog 36 [1, 1, 1]]]⟩ 56 (search_clock_loudest_post r) [(0, (.yield b37)), (2, (.ptr b35 0)), (3, (.ptr b29 0)), (5, (.int .i64 v5)), (6, (.ptr b43 0)), (10, sv10), (11, (.int .i64 v11)), (12, (.int .i64 v12)), (17, sv17), (18, (.int .i64 v18)), (19, (.int .i64 v19))] [codeC Try.prog 74 [1, 0, 0, 1, 1, 0, 0, 1, 1, 0, 0], loopC Try.prog 74 [1, 0, 0, 1, 1, 0, 0, 1, 1, 0, 0], .inBlock 2, .inBlock 1, codeC Try.prog 74 [1, 0, 0, 1, 1, 1], loopC Try.prog 74 [1, 0, 0], .inBlock 0] M) : ∀ (v5 v7 : Int) (v9 : Bool) (v10 : (List S_api_Trigger)) (v11 v12 : Int) (v17 : (List S_api_Trigger)) (v18 v19 v6_g37 c25_0 : Int) (c32_0 c35_0 : (List S_api_Trigger)) (c29 : S_search_clock) (c43 c50 : S_api_Trigger) (sv10 sv17 sc32_0 sc35_0 : SV) (b37 b25 b32 b35 b29 b38 b43 b50 : Pos) (Fr : Rd) (M : Mem) (r : Int) (hv10 : Slc Fr 3 (FlatR enc43) sv10 v10) (hv17 : Slc Fr 3 (FlatR enc43) sv17 v17) (hc32_0 : Slc Fr 3 (FlatR enc43) sc32_0 c32_0) (hc35_0 : Slc Fr 3 (FlatR enc43) sc35_0 c35_0) (hH : Has Fr M [.obj b37 (.loop ⟨.ready, none, 36, 19, treeOf [(6, (.int .i64 v6_g37)), (7, (.ptr b25 0)), (12, (.fn (.func 74) [] [(.ptr b32 0), (.ptr b35 0), (.ptr b29 0)]))], [13], (atC Try.prog 36 [1, 1, 0, 1, 0, 0]), (atC Try.prog 36 [1, 1, 0, 1, 0, 1]), b38⟩), .obj b25 (.row 3 .whole [(.int .i64 c25_0)]), .obj b32 (.row 38 .whole [sc32_0]), .obj b35 (.row 38 .whole [sc35_0]), .obj b29 (.row 86 .whole [(.int .i64 c29.live), (.int .i64 c29.window), (.int .i64 c29.step)]), .obj b38 .defd, .obj b43 (.row 43 .whole [(.int .i64 c43.Time), (.int .i64 c43.Loud), (.int .i64 c43.Template)]), .obj b50 (.row 43 .whole [(.int .i64 c50.Time), (.int .i64 c50.Loud), (.int .i64 c50.Template)])]), search_clock_loudest_3 F hd2 v5 v7 v9 v10 v11 v12 v17 v18 v19 v6_g37 c25_0 c32_0 c35_0 c29 c43 c50 = some r → Run Try.prog ⟨⟨74, [], none⟩, [.mk ⟨36, [b38], none⟩ 19 (treeOf [(7, (.ptr b25 0))]) [.inRange b37, .inBlock 0, codeC Try.prog 36 [1, 1, 1]]]⟩ 56 (search_clock_loudest_post r) [(0, (.yield b37)), (2, (.ptr b35 0)), (3, (.ptr b29 0)), (5, (.int .i64 v5)), (6, (.ptr b43 0)), (7, (.int .i64 v7)), (8, (.ptr b50 0)), (9, (.bool v9)), (10, sv10), (11, (.int .i64 v11)), (12, (.int .i64 v12)), (17, sv17), (18, (.int .i64 v18)), (19, (.int .i64 v19))] [itemC Try.prog 74 [1, 0, 0, 1, 1, 0, 0, 1, 1, 0, 0, 1, 1, 0, 0, 1, 1, 0] 0, codeC Try.prog 74 [1, 0, 0, 1, 1, 0, 0, 1, 1, 0, 0, 1, 1, 0, 0, 1, 1, 1], .inBlock 3, codeC Try.prog 74 [1, 0, 0, 1, 1, 0, 0, 1, 1, 0, 0, 1, 1, 1], loopC Try.prog 74 [1, 0, 0, 1, 1, 0, 0, 1, 1, 0, 0], .inBlock 2, .inBlock 1, codeC Try.prog 74 [1, 0, 0, 1, 1, 1], loopC Try.prog 74 [1, 0, 0], .inBlock 0] M := by
  intro v5 v7 v9 v10 v11 v12 v17 v18 v19 v6_g37 c25_0 c32_0 c35_0 c29 c43 c50 sv10 sv17 sc32_0 sc35_0 b37 b25 b32 b35 b29 b38 b43 b50 Fr M r hv10 hv17 hc32_0 hc35_0 hH h
  rw [search_clock_loudest_3] at h
  refine Run.opG wantS_none (ex_move rfl) rfl ?_
  refine Run.opG wantS_none (ex_move rfl) rfl ?_
  rcases btf (v9) with hc56 | hc56
  · have h := bif_t hc56 h
    refine Run.opG (wantS_yes' rfl rfl hc56) (ex_move rfl) rfl ?_
    refine Run.opG (wantS_yes' rfl rfl hc56) (ex_move rfl) rfl ?_
    refine Run.opG (wantS_yes' rfl rfl hc56) (ex_move rfl) rfl ?_
    refine Run.opG (wantS_yes' rfl rfl hc56) (ex_fieldAddr rfl off43_1) rfl ?_
    refine Run.opG (wantS_yes' rfl rfl hc56) (ex_load1 rfl (hH.cells (i := 6) rfl 1 rfl) rdLe_rfl agg3) rfl ?_
    refine Run.opG (wantS_yes' rfl rfl hc56) (ex_fieldAddr rfl off43_1) rfl ?_
    refine Run.opG (wantS_yes' rfl rfl hc56) (ex_load1 rfl (hH.cells (i := 7) rfl 1 rfl) rdLe_rfl agg3) rfl ?_
    refine Run.opG (wantS_yes' rfl rfl hc56) (ex_add rfl rfl) rfl ?_
    refine Run.opG (wantS_yes' rfl rfl hc56) (ex_build (r := [(.int .i64 v5), (.int .i64 v7), (.int .i64 (w64 (c43.Loud + c50.Loud)))]) rfl zer64 pls64 rfl) rfl ?_
    refine Run.round (e' := [(13, (.agg [(.int .i64 v5), (.int .i64 v7), (.int .i64 (w64 (c43.Loud + c50.Loud)))])), (6, (.int .i64 v6_g37)), (7, (.ptr b25 0)), (12, (.fn (.func 74) [] [(.ptr b32 0), (.ptr b35 0), (.ptr b29 0)]))]) (wantS_yes' rfl rfl hc56) (ex_yield hH (i := 0) rfl rfl rfl rfl) (hH.loopOf (i := 0) rfl) rfl ?_
    refine Run.region ?_
    refine Run.opX wantS_none rfl (ExG.new (v := fun b => .ptr b 0) (ex_alloc zer64) hH) ?_
    rintro _ M59 ⟨b58, rfl, hH59⟩
    refine Run.opX wantS_none rfl (ExG.storeC (c' := [(.int .i64 v5), (.int .i64 v7), (.int .i64 (w64 (c43.Loud + c50.Loud)))]) rfl rfl rfl hH59 (i := 0) rfl sz64 rfl rfl rfl rfl rfl) ?_
    rintro _ M60 ⟨rfl, (hH60 : Has Fr M60 [.obj b58 (.row 64 .whole [(.int .i64 v5), (.int .i64 v7), (.int .i64 (w64 (c43.Loud + c50.Loud)))]), .obj b37 (.loop ⟨.ready, none, 36, 19, treeOf [(6, (.int .i64 v6_g37)), (7, (.ptr b25 0)), (12, (.fn (.func 74) [] [(.ptr b32 0), (.ptr b35 0), (.ptr b29 0)]))], [13], (atC Try.prog 36 [1, 1, 0, 1, 0, 0]), (atC Try.prog 36 [1, 1, 0, 1, 0, 1]), b38⟩), .obj b25 (.row 3 .whole [(.int .i64 c25_0)]), .obj b32 (.row 38 .whole [sc32_0]), .obj b35 (.row 38 .whole [sc35_0]), .obj b29 (.row 86 .whole [(.int .i64 c29.live), (.int .i64 c29.window), (.int .i64 c29.step)]), .obj b38 .defd, .obj b43 (.row 43 .whole [(.int .i64 c43.Time), (.int .i64 c43.Loud), (.int .i64 c43.Template)]), .obj b50 (.row 43 .whole [(.int .i64 c50.Time), (.int .i64 c50.Loud), (.int .i64 c50.Template)])])⟩
    refine Run.opsEnd ?_
    refine Run.beginX hH60 (i := 1) rfl rfl ?_
    intro M61 (hH61 : Has Fr M61 [.obj b58 (.row 64 .whole [(.int .i64 v5), (.int .i64 v7), (.int .i64 (w64 (c43.Loud + c50.Loud)))]), .obj b37 (.loop ⟨.busy, none, 36, 19, treeOf [(6, (.int .i64 v6_g37)), (7, (.ptr b25 0)), (12, (.fn (.func 74) [] [(.ptr b32 0), (.ptr b35 0), (.ptr b29 0)]))], [13], (atC Try.prog 36 [1, 1, 0, 1, 0, 0]), (atC Try.prog 36 [1, 1, 0, 1, 0, 1]), b38⟩), .obj b25 (.row 3 .whole [(.int .i64 c25_0)]), .obj b32 (.row 38 .whole [sc32_0]), .obj b35 (.row 38 .whole [sc35_0]), .obj b29 (.row 86 .whole [(.int .i64 c29.live), (.int .i64 c29.window), (.int .i64 c29.step)]), .obj b38 .defd, .obj b43 (.row 43 .whole [(.int .i64 c43.Time), (.int .i64 c43.Loud), (.int .i64 c43.Template)]), .obj b50 (.row 43 .whole [(.int .i64 c50.Time), (.int .i64 c50.Loud), (.int .i64 c50.Template)])])
    refine Run.block (Run.region ?_)
    refine Run.opG wantS_none (ex_load1 rfl (hH61.cells (i := 2) rfl 0 rfl) rdLe_rfl agg3) rfl ?_
    refine Run.opG wantS_none (ex_fieldAddr rfl off64_2) rfl ?_
    refine Run.opG wantS_none (ex_load1 rfl (hH61.cells (i := 0) rfl 2 rfl) rdLe_rfl agg3) rfl ?_
    refine Run.opG wantS_none (ex_max rfl rfl) rfl ?_
    refine Run.opX wantS_none rfl (ExG.storeC (c' := [(.int .i64 (max c25_0 (w64 (c43.Loud + c50.Loud))))]) rfl rfl rfl hH61 (i := 2) rfl sz3 rfl rfl rfl rfl rfl) ?_
    rintro _ M62 ⟨rfl, (hH62 : Has Fr M62 [.obj b58 (.row 64 .whole [(.int .i64 v5), (.int .i64 v7), (.int .i64 (w64 (c43.Loud + c50.Loud)))]), .obj b37 (.loop ⟨.busy, none, 36, 19, treeOf [(6, (.int .i64 v6_g37)), (7, (.ptr b25 0)), (12, (.fn (.func 74) [] [(.ptr b32 0), (.ptr b35 0), (.ptr b29 0)]))], [13], (atC Try.prog 36 [1, 1, 0, 1, 0, 0]), (atC Try.prog 36 [1, 1, 0, 1, 0, 1]), b38⟩), .obj b25 (.row 3 .whole [(.int .i64 (max c25_0 (w64 (c43.Loud + c50.Loud))))]), .obj b32 (.row 38 .whole [sc32_0]), .obj b35 (.row 38 .whole [sc35_0]), .obj b29 (.row 86 .whole [(.int .i64 c29.live), (.int .i64 c29.window), (.int .i64 c29.step)]), .obj b38 .defd, .obj b43 (.row 43 .whole [(.int .i64 c43.Time), (.int .i64 c43.Loud), (.int .i64 c43.Template)]), .obj b50 (.row 43 .whole [(.int .i64 c50.Time), (.int .i64 c50.Loud), (.int .i64 c50.Template)])])⟩
    refine Run.opsEnd (Run.inBlock ?_)
    refine Run.roundEndX hH62 (i := 1) rfl rfl ?_
    intro M63 (hH63 : Has Fr M63 [.obj b58 (.row 64 .whole [(.int .i64 v5), (.int .i64 v7), (.int .i64 (w64 (c43.Loud + c50.Loud)))]), .obj b37 (.loop ⟨.ready, none, 36, 19, treeOf [(6, (.int .i64 v6_g37)), (7, (.ptr b25 0)), (12, (.fn (.func 74) [] [(.ptr b32 0), (.ptr b35 0), (.ptr b29 0)]))], [13], (atC Try.prog 36 [1, 1, 0, 1, 0, 0]), (atC Try.prog 36 [1, 1, 0, 1, 0, 1]), b38⟩), .obj b25 (.row 3 .whole [(.int .i64 (max c25_0 (w64 (c43.Loud + c50.Loud))))]), .obj b32 (.row 38 .whole [sc32_0]), .obj b35 (.row 38 .whole [sc35_0]), .obj b29 (.row 86 .whole [(.int .i64 c29.live), (.int .i64 c29.window), (.int .i64 c29.step)]), .obj b38 .defd, .obj b43 (.row 43 .whole [(.int .i64 c43.Time), (.int .i64 c43.Loud), (.int .i64 c43.Template)]), .obj b50 (.row 43 .whole [(.int .i64 c50.Time), (.int .i64 c50.Loud), (.int .i64 c50.Template)])])
    refine Run.opG (wantS_yes' rfl rfl hc56) (ex_not rfl) rfl ?_
    refine Run.opG wantS_none (ex_pickT' rfl hc56 rfl rfl) rfl ?_
    refine Run.opsEnd ?_
    exact Run.low (.cons (fle_pick [7] rfl) .nil) (Run.pick [0, 2, 3, 5, 6, 10, 11, 12, 17, 18, 19, 53] (search_clock_loudest_4_ok F hd2 hhd2 v5 v10 v11 v12 v17 v18 v19 (!true) v6_g37 (max c25_0 (w64 (c43.Loud + c50.Loud))) c32_0 c35_0 c29 c43 sv10 sv17 sc32_0 sc35_0 b37 b25 b32 b35 b29 b38 b43 _ _ _ hv10 hv17 hc32_0 hc35_0 (hH63.pick [1, 2, 3, 4, 5, 6, 7] rfl rfl) h))
  · have h := bif_f hc56 h
    refine Run.no (wantS_not' rfl rfl hc56) rfl ?_
    refine Run.no (wantS_not' rfl rfl hc56) rfl ?_
    refine Run.no (wantS_not' rfl rfl hc56) rfl ?_
    refine Run.no (wantS_not' rfl rfl hc56) rfl ?_
    refine Run.no (wantS_not' rfl rfl hc56) rfl ?_
    refine Run.no (wantS_not' rfl rfl hc56) rfl ?_
    refine Run.no (wantS_not' rfl rfl hc56) rfl ?_
    refine Run.no (wantS_not' rfl rfl hc56) rfl ?_
    refine Run.no (wantS_not' rfl rfl hc56) rfl ?_
    refine Run.no (wantS_not' rfl rfl hc56) rfl ?_
    refine Run.no (wantS_not' rfl rfl hc56) rfl ?_
    refine Run.opG wantS_none (ex_pickF' rfl hc56 rfl rfl) rfl ?_
    refine Run.opsEnd ?_
    exact Run.low (.cons (fle_pick [7] rfl) .nil) (Run.pick [0, 2, 3, 5, 6, 10, 11, 12, 17, 18, 19, 53] (search_clock_loudest_4_ok F hd2 hhd2 v5 v10 v11 v12 v17 v18 v19 false v6_g37 c25_0 c32_0 c35_0 c29 c43 sv10 sv17 sc32_0 sc35_0 b37 b25 b32 b35 b29 b38 b43 _ _ _ hv10 hv17 hc32_0 hc35_0 (hH.pick [0, 1, 2, 3, 4, 5, 6] rfl rfl) h))

def search_clock_loudest_2 (F : Nat) (hd1 : (List S_api_Trigger) → Int → Int → Int → Int → (List S_api_Trigger) → (List S_api_Trigger) → S_search_clock → Option (Int)) : Nat → Int → (List S_api_Trigger) → Int → Int → (List S_api_Trigger) → Int → Int → Int → Int → (List S_api_Trigger) → (List S_api_Trigger) → S_search_clock → S_api_Trigger → Option (Int)
  | 0, _, _, _, _, _, _, _, _, _, _, _, _, _ => none
  | N + 1, v5, v10, v11, v12, v17, v18, v19, v6_g37, c25_0, c32_0, c35_0, c29, c43 =>
    bif (decide (v19 < v18)) then
      bnd (idx v17 v19) fun x48 =>
      bif (c43.Template == x48.Template) then
        bnd (search_clock_distance F c29 c43.Time x48.Time) fun r54 =>
        search_clock_loudest_3 F (search_clock_loudest_2 F hd1 N) v5 v19 (decide (r54 ≤ c29.window)) v10 v11 v12 v17 v18 v19 v6_g37 c25_0 c32_0 c35_0 c29 c43 x48
      else
        search_clock_loudest_3 F (search_clock_loudest_2 F hd1 N) v5 v19 false v10 v11 v12 v17 v18 v19 v6_g37 c25_0 c32_0 c35_0 c29 c43 x48
    else
      hd1 v10 v11 (w64 (v12 + (1 : Int))) v6_g37 c25_0 c32_0 c35_0 c29

theorem search_clock_loudest_2_ok (F : Nat) (hd1 : (List S_api_Trigger) → Int → Int → Int → Int → (List S_api_Trigger) → (List S_api_Trigger) → S_search_clock → Option (Int)) (hhd1 : ∀ (v10 : (List S_api_Trigger)) (v11 v12 v6_g37 c25_0 : Int) (c32_0 c35_0 : (List S_api_Trigger)) (c29 : S_search_clock) (sv10 sc32_0 sc35_0 : SV) (b37 b25 b32 b35 b29 b38 : Pos) (Fr : Rd) (M : Mem) (r : Int) (hv10 : Slc Fr 3 (FlatR enc43) sv10 v10) (hc32_0 : Slc Fr 3 (FlatR enc43) sc32_0 c32_0) (hc35_0 : Slc Fr 3 (FlatR enc43) sc35_0 c35_0) (hH : Has Fr M [.obj b37 (.loop ⟨.ready, none, 36, 19, treeOf [(6, (.int .i64 v6_g37)), (7, (.ptr b25 0)), (12, (.fn (.func 74) [] [(.ptr b32 0), (.ptr b35 0), (.ptr b29 0)]))], [13], (atC Try.prog 36 [1, 1, 0, 1, 0, 0]), (atC Try.prog 36 [1, 1, 0, 1, 0, 1]), b38⟩), .obj b25 (.row 3 .whole [(.int .i64 c25_0)]), .obj b32 (.row 38 .whole [sc32_0]), .obj b35 (.row 38 .whole [sc35_0]), .obj b29 (.row 86 .whole [(.int .i64 c29.live), (.int .i64 c29.window), (.int .i64 c29.step)]), .obj b38 .defd]), hd1 v10 v11 v12 v6_g37 c25_0 c32_0 c35_0 c29 = some r → Run Try.prog ⟨⟨74, [], none⟩, [.mk ⟨36, [b38], none⟩ 19 (treeOf [(7, (.ptr b25 0))]) [.inRange b37, .inBlock 0, codeC Try.prog 36 [1, 1, 1]]]⟩ 56 (search_clock_loudest_post r) [(0, (.yield b37)), (2, (.ptr b35 0)), (3, (.ptr b29 0)), (10, sv10), (11, (.int .i64 v11)), (12, (.int .i64 v12))] [codeC Try.prog 74 [1, 0, 0], loopC Try.prog 74 [1, 0, 0], .inBlock 0] M) : ∀ (N : Nat), ∀ (v5 : Int) (v10 : (List S_api_Trigger)) (v11 v12 : Int) (v17 : (List S_api_Trigger)) (v18 v19 v6_g37 c25_0 : Int) (c32_0 c35_0 : (List S_api_Trigger)) (c29 : S_search_clock) (c43 : S_api_Trigger) (sv10 sv17 sc32_0 sc35_0 : SV) (b37 b25 b32 b35 b29 b38 b43 : Pos) (Fr : Rd) (M : Mem) (r : Int) (hv10 : Slc Fr 3 (FlatR enc43) sv10 v10) (hv17 : Slc Fr 3 (FlatR enc43) sv17 v17) (hc32_0 : Slc Fr 3 (FlatR enc43) sc32_0 c32_0) (hc35_0 : Slc Fr 3 (FlatR enc43) sc35_0 c35_0) (hH : Has Fr M [.obj b37 (.loop ⟨.ready, none, 36, 19, treeOf [(6, (.int .i64 v6_g37)), (7, (.ptr b25 0)), (12, (.fn (.func 74) [] [(.ptr b32 0), (.ptr b35 0), (.ptr b29 0)]))], [13], (atC Try.prog 36 [1, 1, 0, 1, 0, 0]), (atC Try.prog 36 [1, 1, 0, 1, 0, 1]), b38⟩), .obj b25 (.row 3 .whole [(.int .i64 c25_0)]), .obj b32 (.row 38 .whole [sc32_0]), .obj b35 (.row 38 .whole [sc35_0]), .obj b29 (.row 86 .whole [(.int .i64 c29.live), (.int .i64 c29.window), (.int .i64 c29.step)]), .obj b38 .defd, .obj b43 (.row 43 .whole [(.int .i64 c43.Time), (.int .i64 c43.Loud), (.int .i64 c43.Template)])]), search_clock_loudest_2 F hd1 N v5 v10 v11 v12 v17 v18 v19 v6_g37 c25_0 c32_0 c35_0 c29 c43 = some r → Run Try.prog ⟨⟨74, [], none⟩, [.mk ⟨36, [b38], none⟩ 19 (treeOf [(7, (.ptr b25 0))]) [.inRange b37, .inBlock 0, codeC Try.prog 36 [1, 1, 1]]]⟩ 56 (search_clock_loudest_post r) [(0, (.yield b37)), (2, (.ptr b35 0)), (3, (.ptr b29 0)), (5, (.int .i64 v5)), (6, (.ptr b43 0)), (10, sv10), (11, (.int .i64 v11)), (12, (.int .i64 v12)), (17, sv17), (18, (.int .i64 v18)), (19, (.int .i64 v19))] [codeC Try.prog 74 [1, 0, 0, 1, 1, 0, 0, 1, 1, 0, 0], loopC Try.prog 74 [1, 0, 0, 1, 1, 0, 0, 1, 1, 0, 0], .inBlock 2, .inBlock 1, codeC Try.prog 74 [1, 0, 0, 1, 1, 1], loopC Try.prog 74 [1, 0, 0], .inBlock 0] M := by
  intro N
  induction N with
  | zero =>
    intro v5 v10 v11 v12 v17 v18 v19 v6_g37 c25_0 c32_0 c35_0 c29 c43 sv10 sv17 sc32_0 sc35_0 b37 b25 b32 b35 b29 b38 b43 Fr M r hv10 hv17 hc32_0 hc35_0 hH h
    simp [search_clock_loudest_2] at h
  | succ N ih =>
    intro v5 v10 v11 v12 v17 v18 v19 v6_g37 c25_0 c32_0 c35_0 c29 c43 sv10 sv17 sc32_0 sc35_0 b37 b25 b32 b35 b29 b38 b43 Fr M r hv10 hv17 hc32_0 hc35_0 hH h
    rw [search_clock_loudest_2] at h
    refine Run.seq (Run.region ?_)
    refine Run.opG wantS_none (ex_lss rfl rfl) rfl ?_
    refine Run.opsEnd (Run.seq ?_)
    rcases btf ((decide (v19 < v18))) with hc46 | hc46
    · have h := bif_t hc46 h
      refine Run.condT' rfl hc46 ?_
      refine Run.skip (Run.seq (Run.block (Run.seq (Run.region ?_))))
      refine Run.opG wantS_none (ex_move rfl) rfl ?_
      obtain ⟨x48, hx48, h⟩ := bnd_some h
      obtain ⟨p48, o48, _, hx48, hp48, rfl⟩ := sl_elem (P := Try.prog) (t := 38) (kk := .i64) hv17 hx48 els38
      refine Run.opG wantS_none (ex_elX rfl rfl hx48) rfl ?_
      refine Run.opG wantS_none (ex_loadA rfl (hH.ptrF hp48) rdLe_rfl agg43 rfl rfl rfl) rfl ?_
      refine Run.opX wantS_none rfl (ExG.new (v := fun b => .ptr b 0) (ex_alloc zer43) hH) ?_
      rintro _ M51 ⟨b50, rfl, hH51⟩
      refine Run.opG wantS_none (ex_assign rfl) rfl ?_
      refine Run.opX wantS_none rfl (ExG.storeC (c' := [(.int .i64 x48.Time), (.int .i64 x48.Loud), (.int .i64 x48.Template)]) rfl rfl rfl hH51 (i := 0) rfl sz43 rfl rfl rfl rfl rfl) ?_
      rintro _ M52 ⟨rfl, (hH52 : Has Fr M52 [.obj b50 (.row 43 .whole [(.int .i64 x48.Time), (.int .i64 x48.Loud), (.int .i64 x48.Template)]), .obj b37 (.loop ⟨.ready, none, 36, 19, treeOf [(6, (.int .i64 v6_g37)), (7, (.ptr b25 0)), (12, (.fn (.func 74) [] [(.ptr b32 0), (.ptr b35 0), (.ptr b29 0)]))], [13], (atC Try.prog 36 [1, 1, 0, 1, 0, 0]), (atC Try.prog 36 [1, 1, 0, 1, 0, 1]), b38⟩), .obj b25 (.row 3 .whole [(.int .i64 c25_0)]), .obj b32 (.row 38 .whole [sc32_0]), .obj b35 (.row 38 .whole [sc35_0]), .obj b29 (.row 86 .whole [(.int .i64 c29.live), (.int .i64 c29.window), (.int .i64 c29.step)]), .obj b38 .defd, .obj b43 (.row 43 .whole [(.int .i64 c43.Time), (.int .i64 c43.Loud), (.int .i64 c43.Template)])])⟩
      refine Run.opsEnd (Run.seq ?_)
      refine Run.drawG plan74_1_0_0_1_1_0_0_1_1_0_0_1_1_0_0_1_0 ?_
      refine DrawG.fl rfl (ev_ex wantS_none (ex_fieldAddr rfl off43_2)) rfl ?_
      refine DrawG.fl rfl (ev_ex wantS_none (ex_load1 rfl (hH52.cells (i := 7) rfl 2 rfl) rdLe_rfl agg3)) rfl ?_
      refine DrawG.fl rfl (ev_ex wantS_none (ex_fieldAddr rfl off43_2)) rfl ?_
      refine DrawG.fl rfl (ev_ex wantS_none (ex_load1 rfl (hH52.cells (i := 0) rfl 2 rfl) rdLe_rfl agg3)) rfl ?_
      refine DrawG.fl rfl (ev_ex wantS_none (ex_eql rfl rfl)) rfl ?_
      refine DrawG.fl rfl (ev_ex wantS_none (ex_move rfl)) rfl ?_
      rcases btf ((c43.Template == x48.Template)) with hc53 | hc53
      · have h := bif_t hc53 h
        refine DrawG.fl rfl (ev_ex (wantS_yes' rfl rfl hc53) (ex_loadA rfl (hH52.cells (i := 5) rfl 0 rfl) rdLe_rfl agg86 rfl rfl rfl)) rfl ?_
        refine DrawG.fl rfl (ev_ex (wantS_yes' rfl rfl hc53) (ex_fieldAddr rfl off43_0)) rfl ?_
        refine DrawG.fl rfl (ev_ex (wantS_yes' rfl rfl hc53) (ex_load1 rfl (hH52.cells (i := 7) rfl 0 rfl) rdLe_rfl agg3)) rfl ?_
        refine DrawG.fl rfl (ev_ex (wantS_yes' rfl rfl hc53) (ex_fieldAddr rfl off43_0)) rfl ?_
        refine DrawG.fl rfl (ev_ex (wantS_yes' rfl rfl hc53) (ex_load1 rfl (hH52.cells (i := 0) rfl 0 rfl) rdLe_rfl agg3)) rfl ?_
        refine DrawG.fl rfl (ev_ex (wantS_yes' rfl rfl hc53) (ex_fieldAddr rfl off86_1)) rfl ?_
        refine DrawG.fl rfl (ev_ex (wantS_yes' rfl rfl hc53) (ex_load1 rfl (hH52.cells (i := 5) rfl 1 rfl) rdLe_rfl agg3)) rfl ?_
        obtain ⟨r54, hr54, h⟩ := bnd_some h
        refine DrawG.callP rfl (wantS_yes' rfl rfl hc53) (ex_call rfl mkk75 cal75) rfl (search_clock_distance_ok F c29 c43.Time x48.Time _ _ hr54) (st_cons rfl (ev_ex (wantS_yes' rfl rfl hc53) (ex_load1 rfl (hH52.cells (i := 5) rfl 1 rfl) rdLe_rfl agg3)) rfl rfl rfl (st_cons rfl (ev_ex (wantS_yes' rfl rfl hc53) (ex_fieldAddr rfl off86_1)) rfl rfl rfl st_nil)) ?_
        refine DrawG.fl rfl (ev_ex (wantS_yes' rfl rfl hc53) (ex_leq rfl rfl)) rfl ?_
        refine DrawG.fl rfl (ev_ex wantS_none (ex_pickT' rfl hc53 rfl rfl)) rfl ?_
        refine DrawG.fl rfl (ev_ex wantS_none (ex_assign rfl)) rfl ?_
        refine DrawG.sync ?_
        refine DrawG.nil ?_
        refine Run.seq (Run.region ?_)
        exact Run.low (.cons (fle_pick [7] rfl) .nil) (Run.pick [0, 2, 3, 5, 6, 7, 8, 9, 10, 11, 12, 17, 18, 19] (search_clock_loudest_3_ok F (search_clock_loudest_2 F hd1 N) ih v5 v19 (decide (r54 ≤ c29.window)) v10 v11 v12 v17 v18 v19 v6_g37 c25_0 c32_0 c35_0 c29 c43 x48 sv10 sv17 sc32_0 sc35_0 b37 b25 b32 b35 b29 b38 b43 b50 _ _ _ hv10 hv17 hc32_0 hc35_0 (hH52.pick [1, 2, 3, 4, 5, 6, 7, 0] rfl rfl) h))
      · have h := bif_f hc53 h
        refine DrawG.fl rfl (ev_no (wantS_not' rfl rfl hc53)) rfl ?_
        refine DrawG.fl rfl (ev_no (wantS_not' rfl rfl hc53)) rfl ?_
        refine DrawG.fl rfl (ev_no (wantS_not' rfl rfl hc53)) rfl ?_
        refine DrawG.fl rfl (ev_no (wantS_not' rfl rfl hc53)) rfl ?_
        refine DrawG.fl rfl (ev_no (wantS_not' rfl rfl hc53)) rfl ?_
        refine DrawG.fl rfl (ev_no (wantS_not' rfl rfl hc53)) rfl ?_
        refine DrawG.fl rfl (ev_no (wantS_not' rfl rfl hc53)) rfl ?_
        refine DrawG.no rfl (wantS_not' rfl rfl hc53) rfl (st_cons rfl (ev_no (wantS_not' rfl rfl hc53)) rfl rfl rfl (st_cons rfl (ev_no (wantS_not' rfl rfl hc53)) rfl rfl rfl st_nil)) ?_
        refine DrawG.fl rfl (ev_no (wantS_not' rfl rfl hc53)) rfl ?_
        refine DrawG.fl rfl (ev_ex wantS_none (ex_pickF' rfl hc53 rfl rfl)) rfl ?_
        refine DrawG.fl rfl (ev_ex wantS_none (ex_assign rfl)) rfl ?_
        refine DrawG.sync ?_
        refine DrawG.nil ?_
        refine Run.seq (Run.region ?_)
        exact Run.low (.cons (fle_pick [7] rfl) .nil) (Run.pick [0, 2, 3, 5, 6, 7, 8, 9, 10, 11, 12, 17, 18, 19] (search_clock_loudest_3_ok F (search_clock_loudest_2 F hd1 N) ih v5 v19 false v10 v11 v12 v17 v18 v19 v6_g37 c25_0 c32_0 c35_0 c29 c43 x48 sv10 sv17 sc32_0 sc35_0 b37 b25 b32 b35 b29 b38 b43 b50 _ _ _ hv10 hv17 hc32_0 hc35_0 (hH52.pick [1, 2, 3, 4, 5, 6, 7, 0] rfl rfl) h))
    · have h := bif_f hc46 h
      refine Run.condF' rfl hc46 ?_
      refine Run.exit rfl (Run.inBlock (Run.region ?_))
      refine Run.opG wantS_none (ex_add rfl rfl) rfl ?_
      refine Run.opG wantS_none (ex_move rfl) rfl ?_
      refine Run.opsEnd (Run.inLoop ?_)
      exact Run.low (.cons (fle_pick [7] rfl) .nil) (Run.pick [0, 2, 3, 10, 11, 12] (hhd1 v10 v11 (w64 (v12 + (1 : Int))) v6_g37 c25_0 c32_0 c35_0 c29 sv10 sc32_0 sc35_0 b37 b25 b32 b35 b29 b38 _ _ _ hv10 hc32_0 hc35_0 (hH.pick [0, 1, 2, 3, 4, 5] rfl rfl) h))

def search_clock_loudest_1 (F : Nat) : Nat → (List S_api_Trigger) → Int → Int → Int → Int → (List S_api_Trigger) → (List S_api_Trigger) → S_search_clock → Option (Int)
  | 0, _, _, _, _, _, _, _, _ => none
  | N + 1, v10, v11, v12, v6_g37, c25_0, c32_0, c35_0, c29 =>
    bif (decide (v12 < v11)) then
      bnd (idx v10 v12) fun x41 =>
      search_clock_loudest_2 F (search_clock_loudest_1 F N) F v12 v10 v11 v12 c35_0 (c35_0.length : Int) (0 : Int) v6_g37 c25_0 c32_0 c35_0 c29 x41
    else
      some c25_0

theorem search_clock_loudest_1_ok (F : Nat) : ∀ (N : Nat), ∀ (v10 : (List S_api_Trigger)) (v11 v12 v6_g37 c25_0 : Int) (c32_0 c35_0 : (List S_api_Trigger)) (c29 : S_search_clock) (sv10 sc32_0 sc35_0 : SV) (b37 b25 b32 b35 b29 b38 : Pos) (Fr : Rd) (M : Mem) (r : Int) (hv10 : Slc Fr 3 (FlatR enc43) sv10 v10) (hc32_0 : Slc Fr 3 (FlatR enc43) sc32_0 c32_0) (hc35_0 : Slc Fr 3 (FlatR enc43) sc35_0 c35_0) (hH : Has Fr M [.obj b37 (.loop ⟨.ready, none, 36, 19, treeOf [(6, (.int .i64 v6_g37)), (7, (.ptr b25 0)), (12, (.fn (.func 74) [] [(.ptr b32 0), (.ptr b35 0), (.ptr b29 0)]))], [13], (atC Try.prog 36 [1, 1, 0, 1, 0, 0]), (atC Try.prog 36 [1, 1, 0, 1, 0, 1]), b38⟩), .obj b25 (.row 3 .whole [(.int .i64 c25_0)]), .obj b32 (.row 38 .whole [sc32_0]), .obj b35 (.row 38 .whole [sc35_0]), .obj b29 (.row 86 .whole [(.int .i64 c29.live), (.int .i64 c29.window), (.int .i64 c29.step)]), .obj b38 .defd]), search_clock_loudest_1 F N v10 v11 v12 v6_g37 c25_0 c32_0 c35_0 c29 = some r → Run Try.prog ⟨⟨74, [], none⟩, [.mk ⟨36, [b38], none⟩ 19 (treeOf [(7, (.ptr b25 0))]) [.inRange b37, .inBlock 0, codeC Try.prog 36 [1, 1, 1]]]⟩ 56 (search_clock_loudest_post r) [(0, (.yield b37)), (2, (.ptr b35 0)), (3, (.ptr b29 0)), (10, sv10), (11, (.int .i64 v11)), (12, (.int .i64 v12))] [codeC Try.prog 74 [1, 0, 0], loopC Try.prog 74 [1, 0, 0], .inBlock 0] M := by
  intro N
  induction N with
  | zero =>
    intro v10 v11 v12 v6_g37 c25_0 c32_0 c35_0 c29 sv10 sc32_0 sc35_0 b37 b25 b32 b35 b29 b38 Fr M r hv10 hc32_0 hc35_0 hH h
    simp [search_clock_loudest_1] at h
  | succ N ih =>
    intro v10 v11 v12 v6_g37 c25_0 c32_0 c35_0 c29 sv10 sc32_0 sc35_0 b37 b25 b32 b35 b29 b38 Fr M r hv10 hc32_0 hc35_0 hH h
    rw [search_clock_loudest_1] at h
    refine Run.seq (Run.region ?_)
    refine Run.opG wantS_none (ex_lss rfl rfl) rfl ?_
    refine Run.opsEnd (Run.seq ?_)
    rcases btf ((decide (v12 < v11))) with hc39 | hc39
    · have h := bif_t hc39 h
      refine Run.condT' rfl hc39 ?_
      refine Run.skip (Run.seq (Run.block (Run.seq (Run.region ?_))))
      refine Run.opG wantS_none (ex_move rfl) rfl ?_
      obtain ⟨x41, hx41, h⟩ := bnd_some h
      obtain ⟨p41, o41, _, hx41, hp41, rfl⟩ := sl_elem (P := Try.prog) (t := 38) (kk := .i64) hv10 hx41 els38
      refine Run.opG wantS_none (ex_elX rfl rfl hx41) rfl ?_
      refine Run.opG wantS_none (ex_loadA rfl (hH.ptrF hp41) rdLe_rfl agg43 rfl rfl rfl) rfl ?_
      refine Run.opX wantS_none rfl (ExG.new (v := fun b => .ptr b 0) (ex_alloc zer43) hH) ?_
      rintro _ M44 ⟨b43, rfl, hH44⟩
      refine Run.opG wantS_none (ex_assign rfl) rfl ?_
      refine Run.opX wantS_none rfl (ExG.storeC (c' := [(.int .i64 x41.Time), (.int .i64 x41.Loud), (.int .i64 x41.Template)]) rfl rfl rfl hH44 (i := 0) rfl sz43 rfl rfl rfl rfl rfl) ?_
      rintro _ M45 ⟨rfl, (hH45 : Has Fr M45 [.obj b43 (.row 43 .whole [(.int .i64 x41.Time), (.int .i64 x41.Loud), (.int .i64 x41.Template)]), .obj b37 (.loop ⟨.ready, none, 36, 19, treeOf [(6, (.int .i64 v6_g37)), (7, (.ptr b25 0)), (12, (.fn (.func 74) [] [(.ptr b32 0), (.ptr b35 0), (.ptr b29 0)]))], [13], (atC Try.prog 36 [1, 1, 0, 1, 0, 0]), (atC Try.prog 36 [1, 1, 0, 1, 0, 1]), b38⟩), .obj b25 (.row 3 .whole [(.int .i64 c25_0)]), .obj b32 (.row 38 .whole [sc32_0]), .obj b35 (.row 38 .whole [sc35_0]), .obj b29 (.row 86 .whole [(.int .i64 c29.live), (.int .i64 c29.window), (.int .i64 c29.step)]), .obj b38 .defd])⟩
      refine Run.opsEnd (Run.seq (Run.region ?_))
      refine Run.opG wantS_none (ex_load1 rfl (hH45.cells (i := 4) rfl 0 rfl) rdLe_rfl agg38) rfl ?_
      refine Run.opG wantS_none (ex_len' rfl hc35_0 lenk38) rfl ?_
      refine Run.opG wantS_none (ex_move rfl) rfl ?_
      refine Run.opsEnd (Run.block (Run.loop ?_))
      exact Run.low (.cons (fle_pick [7] rfl) .nil) (Run.pick [0, 2, 3, 5, 6, 10, 11, 12, 17, 18, 19] (search_clock_loudest_2_ok F (search_clock_loudest_1 F N) ih F v12 v10 v11 v12 c35_0 (c35_0.length : Int) (0 : Int) v6_g37 c25_0 c32_0 c35_0 c29 x41 sv10 sc35_0 sc32_0 sc35_0 b37 b25 b32 b35 b29 b38 b43 _ _ _ hv10 hc35_0 hc32_0 hc35_0 (hH45.pick [1, 2, 3, 4, 5, 6, 0] rfl rfl) h))
    · have h := bif_f hc39 h
      refine Run.condF' rfl hc39 ?_
      refine Run.exit rfl ?_
      refine Run.fallRange Try.func74 rfl res_nil ?_
      refine Run.endX hH (i := 0) rfl (fun hc => by cases hc) ?_
      intro M68 (hH68 : Has Fr M68 [.obj b37 (.loop ⟨.exhausted, none, 36, 19, treeOf [(6, (.int .i64 v6_g37)), (7, (.ptr b25 0)), (12, (.fn (.func 74) [] [(.ptr b32 0), (.ptr b35 0), (.ptr b29 0)]))], [13], (atC Try.prog 36 [1, 1, 0, 1, 0, 0]), (atC Try.prog 36 [1, 1, 0, 1, 0, 1]), b38⟩), .obj b25 (.row 3 .whole [(.int .i64 c25_0)]), .obj b32 (.row 38 .whole [sc32_0]), .obj b35 (.row 38 .whole [sc35_0]), .obj b29 (.row 86 .whole [(.int .i64 c29.live), (.int .i64 c29.window), (.int .i64 c29.step)]), .obj b38 .defd])
      refine Run.inBlock (Run.seq (Run.region ?_))
      refine Run.opG wantS_none (ex_load1 rfl (hH68.cells (i := 1) rfl 0 rfl) rdLe_rfl agg3) rfl ?_
      refine Run.opG wantS_none (ex_assign rfl) rfl ?_
      refine Run.opsEnd ?_
      obtain ⟨hH69x, hS69⟩ := hH68.shut (i := 5) (ds := []) rfl
      have hH69 : Has Fr (setT M68 b38 none) [.obj b37 (.loop ⟨.exhausted, none, 36, 19, treeOf [(6, (.int .i64 v6_g37)), (7, (.ptr b25 0)), (12, (.fn (.func 74) [] [(.ptr b32 0), (.ptr b35 0), (.ptr b29 0)]))], [13], (atC Try.prog 36 [1, 1, 0, 1, 0, 0]), (atC Try.prog 36 [1, 1, 0, 1, 0, 1]), b38⟩), .obj b25 (.row 3 .whole [(.int .i64 c25_0)]), .obj b32 (.row 38 .whole [sc32_0]), .obj b35 (.row 38 .whole [sc35_0]), .obj b29 (.row 86 .whole [(.int .i64 c29.live), (.int .i64 c29.window), (.int .i64 c29.step)]), .vec 0 0 0 .nils []] := hH69x
      cases h
      exact Run.ret Try.func36 (hS69 _ rfl) (res_tmp rfl res_nil) rfl

def search_clock_loudest (F : Nat) (a0 : S_search_clock) (a1 a2 : (List S_api_Trigger)) : Option (Int) :=
  search_clock_loudest_1 F F a1 (a1.length : Int) (0 : Int) (0 : Int) ((-1) : Int) a1 a2 a0

theorem search_clock_loudest_ok (F : Nat) (a0 : S_search_clock) (a1 a2 : (List S_api_Trigger)) (s0 s1 : SV) (r : Int) (M : Mem) (hs0 : Slc (rd M) 3 (FlatR enc43) s0 a1) (hs1 : Slc (rd M) 3 (FlatR enc43) s1 a2) (h : search_clock_loudest F a0 a1 a2 = some r) : CallsM Try.prog 36 [(.agg [(.int .i64 a0.live), (.int .i64 a0.window), (.int .i64 a0.step)]), s0, s1] M (fun s M' => s = (.int .i64 r) ∧ M' = M) := by
  refine CallsM.plain Try.func36 rfl rfl rfl (show Run _ _ _ (search_clock_loudest_post r) _ _ _ from ?_)
  rw [search_clock_loudest] at h
  replace hs0 := hs0.mono (rdLe_frozen M) (fun _ _ h => h)
  replace hs1 := hs1.mono (rdLe_frozen M) (fun _ _ h => h)
  have hH := Has.nil (frozen M)
  refine Run.seq (Run.region ?_)
  refine Run.opX wantS_none rfl (ExG.box rfl rfl hH) ?_
  rintro _ M23 ⟨b22, rfl, hH23⟩
  refine Run.opG wantS_none (ex_assign rfl) rfl ?_
  refine Run.opsEnd (Run.seq (Run.region ?_))
  refine Run.opX wantS_none rfl (ExG.new (v := fun b => .ptr b 0) (ex_alloc zer3) hH23) ?_
  rintro _ M26 ⟨b25, rfl, hH26⟩
  refine Run.opX wantS_none rfl (ExG.storeC (c' := [(.int .i64 (-1))]) rfl rfl rfl hH26 (i := 0) rfl sz3 rfl rfl rfl rfl rfl) ?_
  rintro _ M27 ⟨rfl, (hH27 : Has (ro (frozen M)) M27 [.obj b25 (.row 3 .whole [(.int .i64 (-1))]), .obj b22 (.row 86 .whole [(.int .i64 a0.live), (.int .i64 a0.window), (.int .i64 a0.step)])])⟩
  refine Run.opsEnd (Run.seq (Run.seq (Run.region ?_)))
  refine Run.opG wantS_none (ex_loadA rfl (hH27.cells (i := 1) rfl 0 rfl) rdLe_rfl agg86 rfl rfl rfl) rfl ?_
  refine Run.opG wantS_none (ex_move rfl) rfl ?_
  refine Run.opG wantS_none (ex_move rfl) rfl ?_
  refine Run.enter wantS_none (ex_call rfl mkk38 cal38) Try.func38 rfl rfl ?_
  refine Run.seq (Run.region ?_)
  refine Run.opX wantS_none rfl (ExG.box rfl rfl hH27) ?_
  rintro _ M30 ⟨b29, rfl, hH30⟩
  refine Run.opX wantS_none rfl (ExG.box rfl (cells_one (slc_one hs0)) hH30) ?_
  rintro _ M33 ⟨b32, rfl, hH33⟩
  refine Run.opX wantS_none rfl (ExG.box rfl (cells_one (slc_one hs1)) hH33) ?_
  rintro _ M36 ⟨b35, rfl, hH36⟩
  refine Run.opG wantS_none (ex_assign rfl) rfl ?_
  refine Run.opsEnd (Run.seq (Run.region ?_))
  refine Run.opG wantS_none (ex_makeFunc rfl rfl) rfl ?_
  refine Run.opG wantS_none (ex_assign rfl) rfl ?_
  refine Run.opsEnd ?_
  refine Run.retTo Try.func38 rfl (res_tmp rfl res_nil) rfl ?_
  refine Run.opsEnd (Run.block ?_)
  refine Run.pick [6, 7, 12] ?_
  refine Run.rangeX rfl cal74 Try.func74 rfl rfl hH36 ?_
  intro b38 b37 M37 (hH37 : Has (ro (frozen M)) M37 [.obj b37 (.loop ⟨.ready, none, 36, 19, treeOf [(6, (.int .i64 0)), (7, (.ptr b25 0)), (12, (.fn (.func 74) [] [(.ptr b32 0), (.ptr b35 0), (.ptr b29 0)]))], [13], (atC Try.prog 36 [1, 1, 0, 1, 0, 0]), (atC Try.prog 36 [1, 1, 0, 1, 0, 1]), b38⟩), .obj b38 .defd, .obj b35 (.row 38 .whole [s1]), .obj b32 (.row 38 .whole [s0]), .obj b29 (.row 86 .whole [(.int .i64 a0.live), (.int .i64 a0.window), (.int .i64 a0.step)]), .obj b25 (.row 3 .whole [(.int .i64 (-1))]), .obj b22 (.row 86 .whole [(.int .i64 a0.live), (.int .i64 a0.window), (.int .i64 a0.step)])])
  refine Run.seq (Run.region ?_)
  refine Run.opG wantS_none (ex_load1 rfl (hH37.cells (i := 3) rfl 0 rfl) rdLe_rfl agg38) rfl ?_
  refine Run.opG wantS_none (ex_len' rfl hs0 lenk38) rfl ?_
  refine Run.opG wantS_none (ex_move rfl) rfl ?_
  refine Run.opsEnd (Run.block (Run.loop ?_))
  exact Run.low (.cons (fle_pick [7] rfl) .nil) (Run.pick [0, 2, 3, 10, 11, 12] (search_clock_loudest_1_ok F F a1 (a1.length : Int) (0 : Int) (0 : Int) ((-1) : Int) a1 a2 a0 s0 s0 s1 b37 b25 b32 b35 b29 b38 _ _ _ hs0 hs0 hs1 (hH37.pick [0, 5, 3, 2, 4, 1] rfl rfl) h))

theorem mkk36 : makeK Try.prog 36 = none := by kernel_rfl
theorem cal36 : callable Try.prog 36 = true := by kernel_rfl
abbrev search_Loudest_post (r : Int × Int) : SV → Mem → Prop := fun s _ => s = (.tuple [(.int .i64 r.1), (.int .i64 r.2)])

def search_Loudest (F : Nat) (a0 a1 : (List S_api_Trigger)) (a2 a3 : Int) : Option (Int × Int) :=
  bnd (search_clock_check F (S_search_clock.mk a2 a3 a2) ([a0, a1] : List (List S_api_Trigger))) fun r29 =>
  bif (!(r29 == (0 : Int))) then
    some ((0 : Int), r29)
  else
    bnd (search_clock_loudest F (S_search_clock.mk a2 a3 a2) a0 a1) fun r33 =>
    some (r33, (0 : Int))

theorem search_Loudest_ok (F : Nat) (a0 a1 : (List S_api_Trigger)) (a2 a3 : Int) (s0 s1 : SV) (r : Int × Int) (M : Mem) (hs0 : Slc (rd M) 3 (FlatR enc43) s0 a0) (hs1 : Slc (rd M) 3 (FlatR enc43) s1 a1) (h : search_Loudest F a0 a1 a2 a3 = some r) : CallsM Try.prog 12 [s0, s1, (.int .i64 a2), (.int .i64 a3)] M (fun s M' => s = (.tuple [(.int .i64 r.1), (.int .i64 r.2)]) ∧ M' = M) := by
  refine CallsM.plain Try.func12 rfl rfl rfl (show Run _ _ _ (search_Loudest_post r) _ _ _ from ?_)
  rw [search_Loudest] at h
  replace hs0 := hs0.mono (rdLe_frozen M) (fun _ _ h => h)
  replace hs1 := hs1.mono (rdLe_frozen M) (fun _ _ h => h)
  have hH := Has.nil (frozen M)
  refine Run.seq (Run.region ?_)
  refine Run.opG wantS_none (ex_assign rfl) rfl ?_
  refine Run.opG wantS_none (ex_assign rfl) rfl ?_
  refine Run.opsEnd (Run.seq (Run.region ?_))
  refine Run.opG wantS_none (ex_move rfl) rfl ?_
  refine Run.opG wantS_none (ex_move rfl) rfl ?_
  refine Run.opG wantS_none (ex_move rfl) rfl ?_
  refine Run.opG wantS_none (ex_build (r := [(.int .i64 a2), (.int .i64 a3), (.int .i64 a2)]) rfl zer86 pls86 rfl) rfl ?_
  refine Run.opX wantS_none rfl (ExG.new (v := fun b => .ptr b 0) (ex_alloc zer86) hH) ?_
  rintro _ M23 ⟨b22, rfl, hH23⟩
  refine Run.opX wantS_none rfl (ExG.storeC (c' := [(.int .i64 a2), (.int .i64 a3), (.int .i64 a2)]) rfl rfl rfl hH23 (i := 0) rfl sz86 rfl rfl rfl rfl rfl) ?_
  rintro _ M24 ⟨rfl, (hH24 : Has (ro (frozen M)) M24 [.obj b22 (.row 86 .whole [(.int .i64 a2), (.int .i64 a3), (.int .i64 a2)])])⟩
  refine Run.opsEnd (Run.seq (Run.seq (Run.region ?_)))
  refine Run.opG wantS_none (ex_loadA rfl (hH24.cells (i := 0) rfl 0 rfl) rdLe_rfl agg86 rfl rfl rfl) rfl ?_
  refine Run.opG wantS_none (ex_move rfl) rfl ?_
  refine Run.opG wantS_none (ex_move rfl) rfl ?_
  have hr26 : Rows (rep38 (ro (frozen M))) 1 [s0, s1] ([a0, a1] : List (List S_api_Trigger)) := (Rows.cons (cs := [s0]) rfl ⟨s0, rfl, hs0⟩ (Rows.cons (cs := [s1]) rfl ⟨s1, rfl, hs1⟩ Rows.nil))
  refine Run.opX wantS_none rfl (ExG.builtR (z := 1) (c := [s0, s1]) rfl elt128 rfl (by simp only [fillS, cells_one (slc_one hs0), cells_one (slc_one hs1)]; rfl) rfl hH24) ?_
  rintro s26 M27 (hH27 : Has (ro (frozen M)) M27 [.vec 38 1 ([a0, a1] : List (List S_api_Trigger)).length s26 [s0, s1], .obj b22 (.row 86 .whole [(.int .i64 a2), (.int .i64 a3), (.int .i64 a2)])])
  obtain ⟨r29, hr29, h⟩ := bnd_some h
  refine Run.callP wantS_none (ex_call rfl mkk35 cal35) rfl (search_clock_check_ok F (S_search_clock.mk a2 a3 a2) ([a0, a1] : List (List S_api_Trigger)) s26 _ _ (((hH27.slcR (i := 0) rfl hr26)).mono (fun _ _ h => h) (fun _ _ => rep38_mo hH27.le)) hr29) ?_
  refine Run.opG wantS_none (ex_assign rfl) rfl ?_
  refine Run.opsEnd (Run.seq (Run.region ?_))
  refine Run.opG wantS_none (ex_move rfl) rfl ?_
  refine Run.opG wantS_none (ex_neq rfl rfl) rfl ?_
  refine Run.opsEnd ?_
  rcases btf ((!(r29 == (0 : Int)))) with hc31 | hc31
  · have h := bif_t hc31 h
    refine Run.condT' rfl hc31 ?_
    refine Run.seq (Run.region ?_)
    refine Run.opG wantS_none (ex_move rfl) rfl ?_
    refine Run.opG wantS_none (ex_assign rfl) rfl ?_
    refine Run.opG wantS_none (ex_assign rfl) rfl ?_
    refine Run.opsEnd ?_
    cases h
    exact Run.ret Try.func12 rfl (res_tmp rfl (res_tmp rfl res_nil)) rfl
  · have h := bif_f hc31 h
    refine Run.condF' rfl hc31 ?_
    refine Run.skip (Run.seq (Run.region ?_))
    refine Run.opG wantS_none (ex_loadA rfl (hH27.cells (i := 1) rfl 0 rfl) rdLe_rfl agg86 rfl rfl rfl) rfl ?_
    refine Run.opG wantS_none (ex_move rfl) rfl ?_
    refine Run.opG wantS_none (ex_move rfl) rfl ?_
    obtain ⟨r33, hr33, h⟩ := bnd_some h
    refine Run.callP wantS_none (ex_call rfl mkk36 cal36) rfl (search_clock_loudest_ok F (S_search_clock.mk a2 a3 a2) a0 a1 s0 s1 _ _ (hH27.slcF hs0) (hH27.slcF hs1) hr33) ?_
    refine Run.opG wantS_none (ex_assign rfl) rfl ?_
    refine Run.opG wantS_none (ex_assign rfl) rfl ?_
    refine Run.opsEnd ?_
    cases h
    exact Run.ret Try.func12 rfl (res_tmp rfl (res_tmp rfl res_nil)) rfl

theorem mkk12 : makeK Try.prog 12 = none := by kernel_rfl
theorem cal12 : callable Try.prog 12 = true := by kernel_rfl
structure S_api_Pair where
  A : Int
  B : Int
  Loud : Int

def enc64 (a : S_api_Pair) : List SV := [(.int .i64 a.A), (.int .i64 a.B), (.int .i64 a.Loud)]
theorem enc64_len (a : S_api_Pair) : (enc64 a).length = 3 := rfl
theorem enc64_ones (a : S_api_Pair) : ones (enc64 a) = true := rfl
theorem mkk37 : makeK Try.prog 37 = none := by kernel_rfl
theorem cal37 : callable Try.prog 37 = true := by kernel_rfl
theorem mkk73 : makeK Try.prog 73 = none := by kernel_rfl
theorem cal73 : callable Try.prog 73 = true := by kernel_rfl
theorem agg49 : aggSize Try.prog 49 = some none := by kernel_rfl
theorem agg64 : aggSize Try.prog 64 = some (some 3) := by kernel_rfl
theorem elt49 : sliceElt Try.prog 49 = some (⟨3, 24, [(.int .i64 0), (.int .i64 0), (.int .i64 0)], 64⟩ : Elt) := by kernel_rfl
theorem appt49_49 : appT Try.prog 49 49 = some (⟨3, 24, [(.int .i64 0), (.int .i64 0), (.int .i64 0)], 64⟩ : Elt) := by kernel_rfl
theorem sz49 : szOf Try.prog 49 = some 1 := by kernel_rfl
abbrev search_Coincide_post (r : (List S_api_Pair) × Int) : SV → Mem → Prop := fun s Me => ∃ q1, s = (.tuple [q1, (.int .i64 r.2)]) ∧ Has (fun _ => none) Me [.vec 64 3 r.1.length q1 (r.1.flatMap enc64)]

def search_Coincide_4 (F : Nat) (hd2 : Int → (List S_api_Trigger) → Int → Int → (List S_api_Trigger) → Int → Int → (List S_api_Trigger) → (List S_api_Trigger) → S_search_clock → S_api_Trigger → (List S_api_Pair) → Option ((List S_api_Pair) × Int)) (v5 : Int) (v10 : (List S_api_Trigger)) (v11 v12 : Int) (v17 : (List S_api_Trigger)) (v18 v19 : Int) (v53 : Bool) (c38_0 c41_0 : (List S_api_Trigger)) (c35 : S_search_clock) (c54 : S_api_Trigger) (l79 : (List S_api_Pair)) : Option ((List S_api_Pair) × Int) :=
  bif v53 then
    some (l79, (0 : Int))
  else
    hd2 v5 v10 v11 v12 v17 v18 (w64 (v19 + (1 : Int))) c38_0 c41_0 c35 c54 l79

theorem search_Coincide_4_ok (F : Nat) (hd2 : Int → (List S_api_Trigger) → Int → Int → (List S_api_Trigger) → Int → Int → (List S_api_Trigger) → (List S_api_Trigger) → S_search_clock → S_api_Trigger → (List S_api_Pair) → Option ((List S_api_Pair) × Int)) (hhd2 : ∀ (v5 : Int) (v10 : (List S_api_Trigger)) (v11 v12 : Int) (v17 : (List S_api_Trigger)) (v18 v19 : Int) (c38_0 c41_0 : (List S_api_Trigger)) (c35 : S_search_clock) (c54 : S_api_Trigger) (l48 : (List S_api_Pair)) (sv10 sv17 sc38_0 sc41_0 : SV) (b46 b44 : Pos) (s48 : SV) (b38 b41 b35 b47 b54 : Pos) (Fr : Rd) (M : Mem) (r : (List S_api_Pair) × Int) (hv10 : Slc Fr 3 (FlatR enc43) sv10 v10) (hv17 : Slc Fr 3 (FlatR enc43) sv17 v17) (hc38_0 : Slc Fr 3 (FlatR enc43) sc38_0 c38_0) (hc41_0 : Slc Fr 3 (FlatR enc43) sc41_0 c41_0) (hH : Has Fr M [.obj b46 (.loop ⟨.ready, none, 73, 13, treeOf [(2, (.ptr b44 0)), (4, .nils), (6, (.fn (.func 74) [] [(.ptr b38 0), (.ptr b41 0), (.ptr b35 0)]))], [7], (atC Try.prog 73 [1, 0, 1, 0, 0]), (atC Try.prog 73 [1, 0, 1, 0, 1]), b47⟩), .obj b44 (.row 49 .whole [s48]), .vec 64 3 l48.length s48 (l48.flatMap enc64), .obj b38 (.row 38 .whole [sc38_0]), .obj b41 (.row 38 .whole [sc41_0]), .obj b35 (.row 86 .whole [(.int .i64 c35.live), (.int .i64 c35.window), (.int .i64 c35.step)]), .obj b47 .defd, .obj b54 (.row 43 .whole [(.int .i64 c54.Time), (.int .i64 c54.Loud), (.int .i64 c54.Template)])]), hd2 v5 v10 v11 v12 v17 v18 v19 c38_0 c41_0 c35 c54 l48 = some r → Run Try.prog ⟨⟨74, [], none⟩, [.mk ⟨73, [b47], none⟩ 13 (treeOf [(2, (.ptr b44 0))]) [.inRange b46, .inBlock 0, codeC Try.prog 73 [1, 1]], .mk ⟨37, [], none⟩ 5 (treeOf []) [itemC Try.prog 37 [1, 0] 1, codeC Try.prog 37 [1, 1]], .mk ⟨13, [], none⟩ 29 (treeOf []) [itemC Try.prog 13 [1, 1, 1, 0] 4, codeC Try.prog 13 [1, 1, 1, 1]]]⟩ 56 (search_Coincide_post r) [(0, (.yield b46)), (2, (.ptr b41 0)), (3, (.ptr b35 0)), (5, (.int .i64 v5)), (6, (.ptr b54 0)), (10, sv10), (11, (.int .i64 v11)), (12, (.int .i64 v12)), (17, sv17), (18, (.int .i64 v18)), (19, (.int .i64 v19))] [codeC Try.prog 74 [1, 0, 0, 1, 1, 0, 0, 1, 1, 0, 0], loopC Try.prog 74 [1, 0, 0, 1, 1, 0, 0, 1, 1, 0, 0], .inBlock 2, .inBlock 1, codeC Try.prog 74 [1, 0, 0, 1, 1, 1], loopC Try.prog 74 [1, 0, 0], .inBlock 0] M) : ∀ (v5 : Int) (v10 : (List S_api_Trigger)) (v11 v12 : Int) (v17 : (List S_api_Trigger)) (v18 v19 : Int) (v53 : Bool) (c38_0 c41_0 : (List S_api_Trigger)) (c35 : S_search_clock) (c54 : S_api_Trigger) (l79 : (List S_api_Pair)) (sv10 sv17 sc38_0 sc41_0 : SV) (b46 b44 : Pos) (s79 : SV) (b38 b41 b35 b47 b54 : Pos) (Fr : Rd) (M : Mem) (r : (List S_api_Pair) × Int) (hv10 : Slc Fr 3 (FlatR enc43) sv10 v10) (hv17 : Slc Fr 3 (FlatR enc43) sv17 v17) (hc38_0 : Slc Fr 3 (FlatR enc43) sc38_0 c38_0) (hc41_0 : Slc Fr 3 (FlatR enc43) sc41_0 c41_0) (hH : Has Fr M [.obj b46 (.loop ⟨.ready, none, 73, 13, treeOf [(2, (.ptr b44 0)), (4, .nils), (6, (.fn (.func 74) [] [(.ptr b38 0), (.ptr b41 0), (.ptr b35 0)]))], [7], (atC Try.prog 73 [1, 0, 1, 0, 0]), (atC Try.prog 73 [1, 0, 1, 0, 1]), b47⟩), .obj b44 (.row 49 .whole [s79]), .vec 64 3 l79.length s79 (l79.flatMap enc64), .obj b38 (.row 38 .whole [sc38_0]), .obj b41 (.row 38 .whole [sc41_0]), .obj b35 (.row 86 .whole [(.int .i64 c35.live), (.int .i64 c35.window), (.int .i64 c35.step)]), .obj b47 .defd, .obj b54 (.row 43 .whole [(.int .i64 c54.Time), (.int .i64 c54.Loud), (.int .i64 c54.Template)])]), search_Coincide_4 F hd2 v5 v10 v11 v12 v17 v18 v19 v53 c38_0 c41_0 c35 c54 l79 = some r → Run Try.prog ⟨⟨74, [], none⟩, [.mk ⟨73, [b47], none⟩ 13 (treeOf [(2, (.ptr b44 0))]) [.inRange b46, .inBlock 0, codeC Try.prog 73 [1, 1]], .mk ⟨37, [], none⟩ 5 (treeOf []) [itemC Try.prog 37 [1, 0] 1, codeC Try.prog 37 [1, 1]], .mk ⟨13, [], none⟩ 29 (treeOf []) [itemC Try.prog 13 [1, 1, 1, 0] 4, codeC Try.prog 13 [1, 1, 1, 1]]]⟩ 56 (search_Coincide_post r) [(0, (.yield b46)), (2, (.ptr b41 0)), (3, (.ptr b35 0)), (5, (.int .i64 v5)), (6, (.ptr b54 0)), (10, sv10), (11, (.int .i64 v11)), (12, (.int .i64 v12)), (17, sv17), (18, (.int .i64 v18)), (19, (.int .i64 v19)), (53, (.bool v53))] [codeC Try.prog 74 [1, 0, 0, 1, 1, 0, 0, 1, 1, 0, 0, 1, 1, 0, 0, 1, 1, 1], .inBlock 3, codeC Try.prog 74 [1, 0, 0, 1, 1, 0, 0, 1, 1, 0, 0, 1, 1, 1], loopC Try.prog 74 [1, 0, 0, 1, 1, 0, 0, 1, 1, 0, 0], .inBlock 2, .inBlock 1, codeC Try.prog 74 [1, 0, 0, 1, 1, 1], loopC Try.prog 74 [1, 0, 0], .inBlock 0] M := by
  intro v5 v10 v11 v12 v17 v18 v19 v53 c38_0 c41_0 c35 c54 l79 sv10 sv17 sc38_0 sc41_0 b46 b44 s79 b38 b41 b35 b47 b54 Fr M r hv10 hv17 hc38_0 hc41_0 hH h
  rw [search_Coincide_4] at h
  rcases btf (v53) with hc83 | hc83
  · have h := bif_t hc83 h
    refine Run.condT' rfl hc83 ?_
    refine Run.retRange Try.func74 rfl res_nil ?_
    refine Run.endX hH (i := 0) rfl (fun hc => by cases hc) ?_
    intro M84 (hH84 : Has Fr M84 [.obj b46 (.loop ⟨.exhausted, none, 73, 13, treeOf [(2, (.ptr b44 0)), (4, .nils), (6, (.fn (.func 74) [] [(.ptr b38 0), (.ptr b41 0), (.ptr b35 0)]))], [7], (atC Try.prog 73 [1, 0, 1, 0, 0]), (atC Try.prog 73 [1, 0, 1, 0, 1]), b47⟩), .obj b44 (.row 49 .whole [s79]), .vec 64 3 l79.length s79 (l79.flatMap enc64), .obj b38 (.row 38 .whole [sc38_0]), .obj b41 (.row 38 .whole [sc41_0]), .obj b35 (.row 86 .whole [(.int .i64 c35.live), (.int .i64 c35.window), (.int .i64 c35.step)]), .obj b47 .defd, .obj b54 (.row 43 .whole [(.int .i64 c54.Time), (.int .i64 c54.Loud), (.int .i64 c54.Template)])])
    refine Run.inBlock (Run.seq (Run.region ?_))
    refine Run.opG wantS_none (ex_load1 rfl (hH84.cells (i := 1) rfl 0 rfl) rdLe_rfl agg49) rfl ?_
    refine Run.opG wantS_none (ex_assign rfl) rfl ?_
    refine Run.opsEnd ?_
    obtain ⟨hH85x, hS85⟩ := hH84.shut (i := 6) (ds := []) rfl
    have hH85 : Has Fr (setT M84 b47 none) [.obj b46 (.loop ⟨.exhausted, none, 73, 13, treeOf [(2, (.ptr b44 0)), (4, .nils), (6, (.fn (.func 74) [] [(.ptr b38 0), (.ptr b41 0), (.ptr b35 0)]))], [7], (atC Try.prog 73 [1, 0, 1, 0, 0]), (atC Try.prog 73 [1, 0, 1, 0, 1]), b47⟩), .obj b44 (.row 49 .whole [s79]), .vec 64 3 l79.length s79 (l79.flatMap enc64), .obj b38 (.row 38 .whole [sc38_0]), .obj b41 (.row 38 .whole [sc41_0]), .obj b35 (.row 86 .whole [(.int .i64 c35.live), (.int .i64 c35.window), (.int .i64 c35.step)]), .vec 0 0 0 .nils [], .obj b54 (.row 43 .whole [(.int .i64 c54.Time), (.int .i64 c54.Loud), (.int .i64 c54.Template)])] := hH85x
    refine Run.retTo Try.func73 (hS85 _ rfl) (res_tmp rfl res_nil) rfl ?_
    refine Run.opG wantS_none (ex_assign rfl) rfl ?_
    refine Run.opsEnd ?_
    refine Run.retTo Try.func37 rfl (res_tmp rfl res_nil) rfl ?_
    refine Run.opG wantS_none (ex_assign rfl) rfl ?_
    refine Run.opG wantS_none (ex_assign rfl) rfl ?_
    refine Run.opsEnd ?_
    cases h
    exact Run.ret Try.func13 rfl (res_tmp rfl (res_tmp rfl res_nil)) ⟨_, rfl, (hH85.pick [2] rfl rfl).upF (none_le _)⟩
  · have h := bif_f hc83 h
    refine Run.condF' rfl hc83 ?_
    refine Run.skip (Run.inBlock (Run.region ?_))
    refine Run.opG wantS_none (ex_add rfl rfl) rfl ?_
    refine Run.opG wantS_none (ex_move rfl) rfl ?_
    refine Run.opsEnd (Run.inLoop ?_)
    exact Run.low (.cons (fle_pick [2] rfl) (.cons (fle_pick [] rfl) (.cons (fle_pick [] rfl) .nil))) (Run.pick [0, 2, 3, 5, 6, 10, 11, 12, 17, 18, 19] (hhd2 v5 v10 v11 v12 v17 v18 (w64 (v19 + (1 : Int))) c38_0 c41_0 c35 c54 l79 sv10 sv17 sc38_0 sc41_0 b46 b44 s79 b38 b41 b35 b47 b54 _ _ _ hv10 hv17 hc38_0 hc41_0 hH h))

def search_Coincide_3 (F : Nat) (hd2 : Int → (List S_api_Trigger) → Int → Int → (List S_api_Trigger) → Int → Int → (List S_api_Trigger) → (List S_api_Trigger) → S_search_clock → S_api_Trigger → (List S_api_Pair) → Option ((List S_api_Pair) × Int)) (v5 v7 : Int) (v9 : Bool) (v10 : (List S_api_Trigger)) (v11 v12 : Int) (v17 : (List S_api_Trigger)) (v18 v19 : Int) (c38_0 c41_0 : (List S_api_Trigger)) (c35 : S_search_clock) (c54 c61 : S_api_Trigger) (l48 : (List S_api_Pair)) : Option ((List S_api_Pair) × Int) :=
  bif v9 then
    bnd (apd 24 l48 ([(S_api_Pair.mk v5 v7 (w64 (c54.Loud + c61.Loud)))] : List S_api_Pair)) fun l78 =>
    search_Coincide_4 F hd2 v5 v10 v11 v12 v17 v18 v19 (!true) c38_0 c41_0 c35 c54 l78
  else
    search_Coincide_4 F hd2 v5 v10 v11 v12 v17 v18 v19 false c38_0 c41_0 c35 c54 l48

theorem search_Coincide_3_ok (F : Nat) (hd2 : Int → (List S_api_Trigger) → Int → Int → (List S_api_Trigger) → Int → Int → (List S_api_Trigger) → (List S_api_Trigger) → S_search_clock → S_api_Trigger → (List S_api_Pair) → Option ((List S_api_Pair) × Int)) (hhd2 : ∀ (v5 : Int) (v10 : (List S_api_Trigger)) (v11 v12 : Int) (v17 : (List S_api_Trigger)) (v18 v19 : Int) (c38_0 c41_0 : (List S_api_Trigger)) (c35 : S_search_clock) (c54 : S_api_Trigger) (l48 : (List S_api_Pair)) (sv10 sv17 sc38_0 sc41_0 : SV) (b46 b44 : Pos) (s48 : SV) (b38 b41 b35 b47 b54 : Pos) (Fr : Rd) (M : Mem) (r : (List S_api_Pair) × Int) (hv10 : Slc Fr 3 (FlatR enc43) sv10 v10) (hv17 : Slc Fr 3 (FlatR enc43) sv17 v17) (hc38_0 : Slc Fr 3 (FlatR enc43) sc38_0 c38_0) (hc41_0 : Slc Fr 3 (FlatR enc43) sc41_0 c41_0) (hH : Has Fr M [.obj b46 (.loop ⟨.ready, none, 73, 13, treeOf [(2, (.ptr b44 0)), (4, .nils), (6, (.fn (.func 74) [] [(.ptr b38 0), (.ptr b41 0), (.ptr b35 0)]))], [7], (atC Try.prog 73 [1, 0, 1, 0, 0]), (atC Try.prog 73 [1, 0, 1, 0, 1]), b47⟩), .obj b44 (.row 49 .whole [s48]), .vec 64 3 l48.length s48 (l48.flatMap enc64), .obj b38 (.row 38 .whole [sc38_0]), .obj b41 (.row 38 .whole [sc41_0]), .obj b35 (.row 86 .whole [(.int .i64 c35.live), (.int .i64 c35.window), (.int .i64 c35.step)]), .obj b47 .defd, .obj b54 (.row 43 .whole [(.int .i64 c54.Time), (.int .i64 c54.Loud), (.int .i64 c54.Template)])]), hd2 v5 v10 v11 v12 v17 v18 v19 c38_0 c41_0 c35 c54 l48 = some r → Run Try.prog ⟨⟨74, [], none⟩, [.mk ⟨73, [b47], none⟩ 13 (treeOf [(2, (.ptr b44 0))]) [.inRange b46, .inBlock 0, codeC Try.prog 73 [1, 1]], .mk ⟨37, [], none⟩ 5 (treeOf []) [itemC Try.prog 37 [1, 0] 1, codeC Try.prog 37 [1, 1]], .mk ⟨13, [], none⟩ 29 (treeOf []) [itemC Try.prog 13 [1, 1, 1, 0] 4, codeC Try.prog 13 [1, 1, 1, 1]]]⟩ 56 (search_Coincide_post r) [(0, (.yield b46)), (2, (.ptr b41 0)), (3, (.ptr b35 0)), (5, (.int .i64 v5)), (6, (.ptr b54 0)), (10, sv10), (11, (.int .i64 v11)), (12, (.int .i64 v12)), (17, sv17), (18, (.int .i64 v18)), (19, (.int .i64 v19))] [codeC Try.prog 74 [1, 0, 0, 1, 1, 0, 0, 1, 1, 0, 0], loopC Try.prog 74 [1, 0, 0, 1, 1, 0, 0, 1, 1, 0, 0], .inBlock 2, .inBlock 1, codeC Try.prog 74 [1, 0, 0, 1, 1, 1], loopC Try.prog 74 [1, 0, 0], .inBlock 0] M) : ∀ (v5 v7 : Int) (v9 : Bool) (v10 : (List S_api_Trigger)) (v11 v12 : Int) (v17 : (List S_api_Trigger)) (v18 v19 : Int) (c38_0 c41_0 : (List S_api_Trigger)) (c35 : S_search_clock) (c54 c61 : S_api_Trigger) (l48 : (List S_api_Pair)) (sv10 sv17 sc38_0 sc41_0 : SV) (b46 b44 : Pos) (s48 : SV) (b38 b41 b35 b47 b54 b61 : Pos) (Fr : Rd) (M : Mem) (r : (List S_api_Pair) × Int) (hv10 : Slc Fr 3 (FlatR enc43) sv10 v10) (hv17 : Slc Fr 3 (FlatR enc43) sv17 v17) (hc38_0 : Slc Fr 3 (FlatR enc43) sc38_0 c38_0) (hc41_0 : Slc Fr 3 (FlatR enc43) sc41_0 c41_0) (hH : Has Fr M [.obj b46 (.loop ⟨.ready, none, 73, 13, treeOf [(2, (.ptr b44 0)), (4, .nils), (6, (.fn (.func 74) [] [(.ptr b38 0), (.ptr b41 0), (.ptr b35 0)]))], [7], (atC Try.prog 73 [1, 0, 1, 0, 0]), (atC Try.prog 73 [1, 0, 1, 0, 1]), b47⟩), .obj b44 (.row 49 .whole [s48]), .vec 64 3 l48.length s48 (l48.flatMap enc64), .obj b38 (.row 38 .whole [sc38_0]), .obj b41 (.row 38 .whole [sc41_0]), .obj b35 (.row 86 .whole [(.int .i64 c35.live), (.int .i64 c35.window), (.int .i64 c35.step)]), .obj b47 .defd, .obj b54 (.row 43 .whole [(.int .i64 c54.Time), (.int .i64 c54.Loud), (.int .i64 c54.Template)]), .obj b61 (.row 43 .whole [(.int .i64 c61.Time), (.int .i64 c61.Loud), (.int .i64 c61.Template)])]), search_Coincide_3 F hd2 v5 v7 v9 v10 v11 v12 v17 v18 v19 c38_0 c41_0 c35 c54 c61 l48 = some r → Run Try.prog ⟨⟨74, [], none⟩, [.mk ⟨73, [b47], none⟩ 13 (treeOf [(2, (.ptr b44 0))]) [.inRange b46, .inBlock 0, codeC Try.prog 73 [1, 1]], .mk ⟨37, [], none⟩ 5 (treeOf []) [itemC Try.prog 37 [1, 0] 1, codeC Try.prog 37 [1, 1]], .mk ⟨13, [], none⟩ 29 (treeOf []) [itemC Try.prog 13 [1, 1, 1, 0] 4, codeC Try.prog 13 [1, 1, 1, 1]]]⟩ 56 (search_Coincide_post r) [(0, (.yield b46)), (2, (.ptr b41 0)), (3, (.ptr b35 0)), (5, (.int .i64 v5)), (6, (.ptr b54 0)), (7, (.int .i64 v7)), (8, (.ptr b61 0)), (9, (.bool v9)), (10, sv10), (11, (.int .i64 v11)), (12, (.int .i64 v12)), (17, sv17), (18, (.int .i64 v18)), (19, (.int .i64 v19))] [itemC Try.prog 74 [1, 0, 0, 1, 1, 0, 0, 1, 1, 0, 0, 1, 1, 0, 0, 1, 1, 0] 0, codeC Try.prog 74 [1, 0, 0, 1, 1, 0, 0, 1, 1, 0, 0, 1, 1, 0, 0, 1, 1, 1], .inBlock 3, codeC Try.prog 74 [1, 0, 0, 1, 1, 0, 0, 1, 1, 0, 0, 1, 1, 1], loopC Try.prog 74 [1, 0, 0, 1, 1, 0, 0, 1, 1, 0, 0], .inBlock 2, .inBlock 1, codeC Try.prog 74 [1, 0, 0, 1, 1, 1], loopC Try.prog 74 [1, 0, 0], .inBlock 0] M := by
  intro v5 v7 v9 v10 v11 v12 v17 v18 v19 c38_0 c41_0 c35 c54 c61 l48 sv10 sv17 sc38_0 sc41_0 b46 b44 s48 b38 b41 b35 b47 b54 b61 Fr M r hv10 hv17 hc38_0 hc41_0 hH h
  rw [search_Coincide_3] at h
  refine Run.opG wantS_none (ex_move rfl) rfl ?_
  refine Run.opG wantS_none (ex_move rfl) rfl ?_
  rcases btf (v9) with hc67 | hc67
  · have h := bif_t hc67 h
    refine Run.opG (wantS_yes' rfl rfl hc67) (ex_move rfl) rfl ?_
    refine Run.opG (wantS_yes' rfl rfl hc67) (ex_move rfl) rfl ?_
    refine Run.opG (wantS_yes' rfl rfl hc67) (ex_move rfl) rfl ?_
    refine Run.opG (wantS_yes' rfl rfl hc67) (ex_fieldAddr rfl off43_1) rfl ?_
    refine Run.opG (wantS_yes' rfl rfl hc67) (ex_load1 rfl (hH.cells (i := 7) rfl 1 rfl) rdLe_rfl agg3) rfl ?_
    refine Run.opG (wantS_yes' rfl rfl hc67) (ex_fieldAddr rfl off43_1) rfl ?_
    refine Run.opG (wantS_yes' rfl rfl hc67) (ex_load1 rfl (hH.cells (i := 8) rfl 1 rfl) rdLe_rfl agg3) rfl ?_
    refine Run.opG (wantS_yes' rfl rfl hc67) (ex_add rfl rfl) rfl ?_
    refine Run.opG (wantS_yes' rfl rfl hc67) (ex_build (r := [(.int .i64 v5), (.int .i64 v7), (.int .i64 (w64 (c54.Loud + c61.Loud)))]) rfl zer64 pls64 rfl) rfl ?_
    refine Run.round (e' := [(7, (.agg [(.int .i64 v5), (.int .i64 v7), (.int .i64 (w64 (c54.Loud + c61.Loud)))])), (2, (.ptr b44 0)), (4, .nils), (6, (.fn (.func 74) [] [(.ptr b38 0), (.ptr b41 0), (.ptr b35 0)]))]) (wantS_yes' rfl rfl hc67) (ex_yield hH (i := 0) rfl rfl rfl rfl) (hH.loopOf (i := 0) rfl) rfl ?_
    refine Run.region ?_
    refine Run.opX wantS_none rfl (ExG.new (v := fun b => .ptr b 0) (ex_alloc zer64) hH) ?_
    rintro _ M70 ⟨b69, rfl, hH70⟩
    refine Run.opX wantS_none rfl (ExG.storeC (c' := [(.int .i64 v5), (.int .i64 v7), (.int .i64 (w64 (c54.Loud + c61.Loud)))]) rfl rfl rfl hH70 (i := 0) rfl sz64 rfl rfl rfl rfl rfl) ?_
    rintro _ M71 ⟨rfl, (hH71 : Has Fr M71 [.obj b69 (.row 64 .whole [(.int .i64 v5), (.int .i64 v7), (.int .i64 (w64 (c54.Loud + c61.Loud)))]), .obj b46 (.loop ⟨.ready, none, 73, 13, treeOf [(2, (.ptr b44 0)), (4, .nils), (6, (.fn (.func 74) [] [(.ptr b38 0), (.ptr b41 0), (.ptr b35 0)]))], [7], (atC Try.prog 73 [1, 0, 1, 0, 0]), (atC Try.prog 73 [1, 0, 1, 0, 1]), b47⟩), .obj b44 (.row 49 .whole [s48]), .vec 64 3 l48.length s48 (l48.flatMap enc64), .obj b38 (.row 38 .whole [sc38_0]), .obj b41 (.row 38 .whole [sc41_0]), .obj b35 (.row 86 .whole [(.int .i64 c35.live), (.int .i64 c35.window), (.int .i64 c35.step)]), .obj b47 .defd, .obj b54 (.row 43 .whole [(.int .i64 c54.Time), (.int .i64 c54.Loud), (.int .i64 c54.Template)]), .obj b61 (.row 43 .whole [(.int .i64 c61.Time), (.int .i64 c61.Loud), (.int .i64 c61.Template)])])⟩
    refine Run.opsEnd ?_
    refine Run.beginX hH71 (i := 1) rfl rfl ?_
    intro M72 (hH72 : Has Fr M72 [.obj b69 (.row 64 .whole [(.int .i64 v5), (.int .i64 v7), (.int .i64 (w64 (c54.Loud + c61.Loud)))]), .obj b46 (.loop ⟨.busy, none, 73, 13, treeOf [(2, (.ptr b44 0)), (4, .nils), (6, (.fn (.func 74) [] [(.ptr b38 0), (.ptr b41 0), (.ptr b35 0)]))], [7], (atC Try.prog 73 [1, 0, 1, 0, 0]), (atC Try.prog 73 [1, 0, 1, 0, 1]), b47⟩), .obj b44 (.row 49 .whole [s48]), .vec 64 3 l48.length s48 (l48.flatMap enc64), .obj b38 (.row 38 .whole [sc38_0]), .obj b41 (.row 38 .whole [sc41_0]), .obj b35 (.row 86 .whole [(.int .i64 c35.live), (.int .i64 c35.window), (.int .i64 c35.step)]), .obj b47 .defd, .obj b54 (.row 43 .whole [(.int .i64 c54.Time), (.int .i64 c54.Loud), (.int .i64 c54.Template)]), .obj b61 (.row 43 .whole [(.int .i64 c61.Time), (.int .i64 c61.Loud), (.int .i64 c61.Template)])])
    refine Run.block (Run.region ?_)
    refine Run.opG wantS_none (ex_load1 rfl (hH72.cells (i := 2) rfl 0 rfl) rdLe_rfl agg49) rfl ?_
    refine Run.opG wantS_none (ex_loadA rfl (hH72.cells (i := 0) rfl 0 rfl) rdLe_rfl agg64 rfl rfl rfl) rfl ?_
    refine Run.opX wantS_none rfl (ExG.built (enc := enc64) (l := ([(S_api_Pair.mk v5 v7 (w64 (c54.Loud + c61.Loud)))] : List S_api_Pair)) (z := 3) rfl elt49 rfl rfl rfl enc64_len hH72) ?_
    rintro s74 M75 (hH75 : Has Fr M75 [.vec 64 3 ([(S_api_Pair.mk v5 v7 (w64 (c54.Loud + c61.Loud)))] : List S_api_Pair).length s74 (([(S_api_Pair.mk v5 v7 (w64 (c54.Loud + c61.Loud)))] : List S_api_Pair).flatMap enc64), .obj b69 (.row 64 .whole [(.int .i64 v5), (.int .i64 v7), (.int .i64 (w64 (c54.Loud + c61.Loud)))]), .obj b46 (.loop ⟨.busy, none, 73, 13, treeOf [(2, (.ptr b44 0)), (4, .nils), (6, (.fn (.func 74) [] [(.ptr b38 0), (.ptr b41 0), (.ptr b35 0)]))], [7], (atC Try.prog 73 [1, 0, 1, 0, 0]), (atC Try.prog 73 [1, 0, 1, 0, 1]), b47⟩), .obj b44 (.row 49 .whole [s48]), .vec 64 3 l48.length s48 (l48.flatMap enc64), .obj b38 (.row 38 .whole [sc38_0]), .obj b41 (.row 38 .whole [sc41_0]), .obj b35 (.row 86 .whole [(.int .i64 c35.live), (.int .i64 c35.window), (.int .i64 c35.step)]), .obj b47 .defd, .obj b54 (.row 43 .whole [(.int .i64 c54.Time), (.int .i64 c54.Loud), (.int .i64 c54.Template)]), .obj b61 (.row 43 .whole [(.int .i64 c61.Time), (.int .i64 c61.Loud), (.int .i64 c61.Template)])])
    obtain ⟨l78, hl78, h⟩ := bnd_some h
    refine Run.opX wantS_none rfl (ExG.append rfl rfl hH75 (i := 4) rfl enc64_len rfl enc64_ones appt49_49 rfl (len_slc (hH75.slc (i := 0) rfl enc64_len)) (first_slc (hH75.slc (i := 0) rfl enc64_len) (rdLe_rdRow _) enc64_len) hl78) ?_
    rintro s78 M80 (hH80 : Has Fr M80 [.vec 64 3 ([(S_api_Pair.mk v5 v7 (w64 (c54.Loud + c61.Loud)))] : List S_api_Pair).length s74 (([(S_api_Pair.mk v5 v7 (w64 (c54.Loud + c61.Loud)))] : List S_api_Pair).flatMap enc64), .obj b69 (.row 64 .whole [(.int .i64 v5), (.int .i64 v7), (.int .i64 (w64 (c54.Loud + c61.Loud)))]), .obj b46 (.loop ⟨.busy, none, 73, 13, treeOf [(2, (.ptr b44 0)), (4, .nils), (6, (.fn (.func 74) [] [(.ptr b38 0), (.ptr b41 0), (.ptr b35 0)]))], [7], (atC Try.prog 73 [1, 0, 1, 0, 0]), (atC Try.prog 73 [1, 0, 1, 0, 1]), b47⟩), .obj b44 (.row 49 .whole [s48]), .vec 64 3 l78.length s78 (l78.flatMap enc64), .obj b38 (.row 38 .whole [sc38_0]), .obj b41 (.row 38 .whole [sc41_0]), .obj b35 (.row 86 .whole [(.int .i64 c35.live), (.int .i64 c35.window), (.int .i64 c35.step)]), .obj b47 .defd, .obj b54 (.row 43 .whole [(.int .i64 c54.Time), (.int .i64 c54.Loud), (.int .i64 c54.Template)]), .obj b61 (.row 43 .whole [(.int .i64 c61.Time), (.int .i64 c61.Loud), (.int .i64 c61.Template)])])
    refine Run.opX wantS_none rfl (ExG.storeC (c' := [s78]) rfl rfl (cells_one (vec_one hH80 (i := 4) rfl)) hH80 (i := 3) rfl sz49 rfl rfl rfl (ones_cons (vec_one hH80 (i := 4) rfl) ones_nil) rfl) ?_
    rintro _ M81 ⟨rfl, (hH81 : Has Fr M81 [.vec 64 3 ([(S_api_Pair.mk v5 v7 (w64 (c54.Loud + c61.Loud)))] : List S_api_Pair).length s74 (([(S_api_Pair.mk v5 v7 (w64 (c54.Loud + c61.Loud)))] : List S_api_Pair).flatMap enc64), .obj b69 (.row 64 .whole [(.int .i64 v5), (.int .i64 v7), (.int .i64 (w64 (c54.Loud + c61.Loud)))]), .obj b46 (.loop ⟨.busy, none, 73, 13, treeOf [(2, (.ptr b44 0)), (4, .nils), (6, (.fn (.func 74) [] [(.ptr b38 0), (.ptr b41 0), (.ptr b35 0)]))], [7], (atC Try.prog 73 [1, 0, 1, 0, 0]), (atC Try.prog 73 [1, 0, 1, 0, 1]), b47⟩), .obj b44 (.row 49 .whole [s78]), .vec 64 3 l78.length s78 (l78.flatMap enc64), .obj b38 (.row 38 .whole [sc38_0]), .obj b41 (.row 38 .whole [sc41_0]), .obj b35 (.row 86 .whole [(.int .i64 c35.live), (.int .i64 c35.window), (.int .i64 c35.step)]), .obj b47 .defd, .obj b54 (.row 43 .whole [(.int .i64 c54.Time), (.int .i64 c54.Loud), (.int .i64 c54.Template)]), .obj b61 (.row 43 .whole [(.int .i64 c61.Time), (.int .i64 c61.Loud), (.int .i64 c61.Template)])])⟩
    refine Run.opsEnd (Run.inBlock ?_)
    refine Run.roundEndX hH81 (i := 2) rfl rfl ?_
    intro M82 (hH82 : Has Fr M82 [.vec 64 3 ([(S_api_Pair.mk v5 v7 (w64 (c54.Loud + c61.Loud)))] : List S_api_Pair).length s74 (([(S_api_Pair.mk v5 v7 (w64 (c54.Loud + c61.Loud)))] : List S_api_Pair).flatMap enc64), .obj b69 (.row 64 .whole [(.int .i64 v5), (.int .i64 v7), (.int .i64 (w64 (c54.Loud + c61.Loud)))]), .obj b46 (.loop ⟨.ready, none, 73, 13, treeOf [(2, (.ptr b44 0)), (4, .nils), (6, (.fn (.func 74) [] [(.ptr b38 0), (.ptr b41 0), (.ptr b35 0)]))], [7], (atC Try.prog 73 [1, 0, 1, 0, 0]), (atC Try.prog 73 [1, 0, 1, 0, 1]), b47⟩), .obj b44 (.row 49 .whole [s78]), .vec 64 3 l78.length s78 (l78.flatMap enc64), .obj b38 (.row 38 .whole [sc38_0]), .obj b41 (.row 38 .whole [sc41_0]), .obj b35 (.row 86 .whole [(.int .i64 c35.live), (.int .i64 c35.window), (.int .i64 c35.step)]), .obj b47 .defd, .obj b54 (.row 43 .whole [(.int .i64 c54.Time), (.int .i64 c54.Loud), (.int .i64 c54.Template)]), .obj b61 (.row 43 .whole [(.int .i64 c61.Time), (.int .i64 c61.Loud), (.int .i64 c61.Template)])])
    refine Run.opG (wantS_yes' rfl rfl hc67) (ex_not rfl) rfl ?_
    refine Run.opG wantS_none (ex_pickT' rfl hc67 rfl rfl) rfl ?_
    refine Run.opsEnd ?_
    exact Run.low (.cons (fle_pick [2] rfl) (.cons (fle_pick [] rfl) (.cons (fle_pick [] rfl) .nil))) (Run.pick [0, 2, 3, 5, 6, 10, 11, 12, 17, 18, 19, 53] (search_Coincide_4_ok F hd2 hhd2 v5 v10 v11 v12 v17 v18 v19 (!true) c38_0 c41_0 c35 c54 l78 sv10 sv17 sc38_0 sc41_0 b46 b44 s78 b38 b41 b35 b47 b54 _ _ _ hv10 hv17 hc38_0 hc41_0 (hH82.pick [2, 3, 4, 5, 6, 7, 8, 9] rfl rfl) h))
  · have h := bif_f hc67 h
    refine Run.no (wantS_not' rfl rfl hc67) rfl ?_
    refine Run.no (wantS_not' rfl rfl hc67) rfl ?_
    refine Run.no (wantS_not' rfl rfl hc67) rfl ?_
    refine Run.no (wantS_not' rfl rfl hc67) rfl ?_
    refine Run.no (wantS_not' rfl rfl hc67) rfl ?_
    refine Run.no (wantS_not' rfl rfl hc67) rfl ?_
    refine Run.no (wantS_not' rfl rfl hc67) rfl ?_
    refine Run.no (wantS_not' rfl rfl hc67) rfl ?_
    refine Run.no (wantS_not' rfl rfl hc67) rfl ?_
    refine Run.no (wantS_not' rfl rfl hc67) rfl ?_
    refine Run.no (wantS_not' rfl rfl hc67) rfl ?_
    refine Run.opG wantS_none (ex_pickF' rfl hc67 rfl rfl) rfl ?_
    refine Run.opsEnd ?_
    exact Run.low (.cons (fle_pick [2] rfl) (.cons (fle_pick [] rfl) (.cons (fle_pick [] rfl) .nil))) (Run.pick [0, 2, 3, 5, 6, 10, 11, 12, 17, 18, 19, 53] (search_Coincide_4_ok F hd2 hhd2 v5 v10 v11 v12 v17 v18 v19 false c38_0 c41_0 c35 c54 l48 sv10 sv17 sc38_0 sc41_0 b46 b44 s48 b38 b41 b35 b47 b54 _ _ _ hv10 hv17 hc38_0 hc41_0 (hH.pick [0, 1, 2, 3, 4, 5, 6, 7] rfl rfl) h))

def search_Coincide_2 (F : Nat) (hd1 : (List S_api_Trigger) → Int → Int → (List S_api_Trigger) → (List S_api_Trigger) → S_search_clock → (List S_api_Pair) → Option ((List S_api_Pair) × Int)) : Nat → Int → (List S_api_Trigger) → Int → Int → (List S_api_Trigger) → Int → Int → (List S_api_Trigger) → (List S_api_Trigger) → S_search_clock → S_api_Trigger → (List S_api_Pair) → Option ((List S_api_Pair) × Int)
  | 0, _, _, _, _, _, _, _, _, _, _, _, _ => none
  | N + 1, v5, v10, v11, v12, v17, v18, v19, c38_0, c41_0, c35, c54, l48 =>
    bif (decide (v19 < v18)) then
      bnd (idx v17 v19) fun x59 =>
      bif (c54.Template == x59.Template) then
        bnd (search_clock_distance F c35 c54.Time x59.Time) fun r65 =>
        search_Coincide_3 F (search_Coincide_2 F hd1 N) v5 v19 (decide (r65 ≤ c35.window)) v10 v11 v12 v17 v18 v19 c38_0 c41_0 c35 c54 x59 l48
      else
        search_Coincide_3 F (search_Coincide_2 F hd1 N) v5 v19 false v10 v11 v12 v17 v18 v19 c38_0 c41_0 c35 c54 x59 l48
    else
      hd1 v10 v11 (w64 (v12 + (1 : Int))) c38_0 c41_0 c35 l48

theorem search_Coincide_2_ok (F : Nat) (hd1 : (List S_api_Trigger) → Int → Int → (List S_api_Trigger) → (List S_api_Trigger) → S_search_clock → (List S_api_Pair) → Option ((List S_api_Pair) × Int)) (hhd1 : ∀ (v10 : (List S_api_Trigger)) (v11 v12 : Int) (c38_0 c41_0 : (List S_api_Trigger)) (c35 : S_search_clock) (l48 : (List S_api_Pair)) (sv10 sc38_0 sc41_0 : SV) (b46 b44 : Pos) (s48 : SV) (b38 b41 b35 b47 : Pos) (Fr : Rd) (M : Mem) (r : (List S_api_Pair) × Int) (hv10 : Slc Fr 3 (FlatR enc43) sv10 v10) (hc38_0 : Slc Fr 3 (FlatR enc43) sc38_0 c38_0) (hc41_0 : Slc Fr 3 (FlatR enc43) sc41_0 c41_0) (hH : Has Fr M [.obj b46 (.loop ⟨.ready, none, 73, 13, treeOf [(2, (.ptr b44 0)), (4, .nils), (6, (.fn (.func 74) [] [(.ptr b38 0), (.ptr b41 0), (.ptr b35 0)]))], [7], (atC Try.prog 73 [1, 0, 1, 0, 0]), (atC Try.prog 73 [1, 0, 1, 0, 1]), b47⟩), .obj b44 (.row 49 .whole [s48]), .vec 64 3 l48.length s48 (l48.flatMap enc64), .obj b38 (.row 38 .whole [sc38_0]), .obj b41 (.row 38 .whole [sc41_0]), .obj b35 (.row 86 .whole [(.int .i64 c35.live), (.int .i64 c35.window), (.int .i64 c35.step)]), .obj b47 .defd]), hd1 v10 v11 v12 c38_0 c41_0 c35 l48 = some r → Run Try.prog ⟨⟨74, [], none⟩, [.mk ⟨73, [b47], none⟩ 13 (treeOf [(2, (.ptr b44 0))]) [.inRange b46, .inBlock 0, codeC Try.prog 73 [1, 1]], .mk ⟨37, [], none⟩ 5 (treeOf []) [itemC Try.prog 37 [1, 0] 1, codeC Try.prog 37 [1, 1]], .mk ⟨13, [], none⟩ 29 (treeOf []) [itemC Try.prog 13 [1, 1, 1, 0] 4, codeC Try.prog 13 [1, 1, 1, 1]]]⟩ 56 (search_Coincide_post r) [(0, (.yield b46)), (2, (.ptr b41 0)), (3, (.ptr b35 0)), (10, sv10), (11, (.int .i64 v11)), (12, (.int .i64 v12))] [codeC Try.prog 74 [1, 0, 0], loopC Try.prog 74 [1, 0, 0], .inBlock 0] M) : ∀ (N : Nat), ∀ (v5 : Int) (v10 : (List S_api_Trigger)) (v11 v12 : Int) (v17 : (List S_api_Trigger)) (v18 v19 : Int) (c38_0 c41_0 : (List S_api_Trigger)) (c35 : S_search_clock) (c54 : S_api_Trigger) (l48 : (List S_api_Pair)) (sv10 sv17 sc38_0 sc41_0 : SV) (b46 b44 : Pos) (s48 : SV) (b38 b41 b35 b47 b54 : Pos) (Fr : Rd) (M : Mem) (r : (List S_api_Pair) × Int) (hv10 : Slc Fr 3 (FlatR enc43) sv10 v10) (hv17 : Slc Fr 3 (FlatR enc43) sv17 v17) (hc38_0 : Slc Fr 3 (FlatR enc43) sc38_0 c38_0) (hc41_0 : Slc Fr 3 (FlatR enc43) sc41_0 c41_0) (hH : Has Fr M [.obj b46 (.loop ⟨.ready, none, 73, 13, treeOf [(2, (.ptr b44 0)), (4, .nils), (6, (.fn (.func 74) [] [(.ptr b38 0), (.ptr b41 0), (.ptr b35 0)]))], [7], (atC Try.prog 73 [1, 0, 1, 0, 0]), (atC Try.prog 73 [1, 0, 1, 0, 1]), b47⟩), .obj b44 (.row 49 .whole [s48]), .vec 64 3 l48.length s48 (l48.flatMap enc64), .obj b38 (.row 38 .whole [sc38_0]), .obj b41 (.row 38 .whole [sc41_0]), .obj b35 (.row 86 .whole [(.int .i64 c35.live), (.int .i64 c35.window), (.int .i64 c35.step)]), .obj b47 .defd, .obj b54 (.row 43 .whole [(.int .i64 c54.Time), (.int .i64 c54.Loud), (.int .i64 c54.Template)])]), search_Coincide_2 F hd1 N v5 v10 v11 v12 v17 v18 v19 c38_0 c41_0 c35 c54 l48 = some r → Run Try.prog ⟨⟨74, [], none⟩, [.mk ⟨73, [b47], none⟩ 13 (treeOf [(2, (.ptr b44 0))]) [.inRange b46, .inBlock 0, codeC Try.prog 73 [1, 1]], .mk ⟨37, [], none⟩ 5 (treeOf []) [itemC Try.prog 37 [1, 0] 1, codeC Try.prog 37 [1, 1]], .mk ⟨13, [], none⟩ 29 (treeOf []) [itemC Try.prog 13 [1, 1, 1, 0] 4, codeC Try.prog 13 [1, 1, 1, 1]]]⟩ 56 (search_Coincide_post r) [(0, (.yield b46)), (2, (.ptr b41 0)), (3, (.ptr b35 0)), (5, (.int .i64 v5)), (6, (.ptr b54 0)), (10, sv10), (11, (.int .i64 v11)), (12, (.int .i64 v12)), (17, sv17), (18, (.int .i64 v18)), (19, (.int .i64 v19))] [codeC Try.prog 74 [1, 0, 0, 1, 1, 0, 0, 1, 1, 0, 0], loopC Try.prog 74 [1, 0, 0, 1, 1, 0, 0, 1, 1, 0, 0], .inBlock 2, .inBlock 1, codeC Try.prog 74 [1, 0, 0, 1, 1, 1], loopC Try.prog 74 [1, 0, 0], .inBlock 0] M := by
  intro N
  induction N with
  | zero =>
    intro v5 v10 v11 v12 v17 v18 v19 c38_0 c41_0 c35 c54 l48 sv10 sv17 sc38_0 sc41_0 b46 b44 s48 b38 b41 b35 b47 b54 Fr M r hv10 hv17 hc38_0 hc41_0 hH h
    simp [search_Coincide_2] at h
  | succ N ih =>
    intro v5 v10 v11 v12 v17 v18 v19 c38_0 c41_0 c35 c54 l48 sv10 sv17 sc38_0 sc41_0 b46 b44 s48 b38 b41 b35 b47 b54 Fr M r hv10 hv17 hc38_0 hc41_0 hH h
    rw [search_Coincide_2] at h
    refine Run.seq (Run.region ?_)
    refine Run.opG wantS_none (ex_lss rfl rfl) rfl ?_
    refine Run.opsEnd (Run.seq ?_)
    rcases btf ((decide (v19 < v18))) with hc57 | hc57
    · have h := bif_t hc57 h
      refine Run.condT' rfl hc57 ?_
      refine Run.skip (Run.seq (Run.block (Run.seq (Run.region ?_))))
      refine Run.opG wantS_none (ex_move rfl) rfl ?_
      obtain ⟨x59, hx59, h⟩ := bnd_some h
      obtain ⟨p59, o59, _, hx59, hp59, rfl⟩ := sl_elem (P := Try.prog) (t := 38) (kk := .i64) hv17 hx59 els38
      refine Run.opG wantS_none (ex_elX rfl rfl hx59) rfl ?_
      refine Run.opG wantS_none (ex_loadA rfl (hH.ptrF hp59) rdLe_rfl agg43 rfl rfl rfl) rfl ?_
      refine Run.opX wantS_none rfl (ExG.new (v := fun b => .ptr b 0) (ex_alloc zer43) hH) ?_
      rintro _ M62 ⟨b61, rfl, hH62⟩
      refine Run.opG wantS_none (ex_assign rfl) rfl ?_
      refine Run.opX wantS_none rfl (ExG.storeC (c' := [(.int .i64 x59.Time), (.int .i64 x59.Loud), (.int .i64 x59.Template)]) rfl rfl rfl hH62 (i := 0) rfl sz43 rfl rfl rfl rfl rfl) ?_
      rintro _ M63 ⟨rfl, (hH63 : Has Fr M63 [.obj b61 (.row 43 .whole [(.int .i64 x59.Time), (.int .i64 x59.Loud), (.int .i64 x59.Template)]), .obj b46 (.loop ⟨.ready, none, 73, 13, treeOf [(2, (.ptr b44 0)), (4, .nils), (6, (.fn (.func 74) [] [(.ptr b38 0), (.ptr b41 0), (.ptr b35 0)]))], [7], (atC Try.prog 73 [1, 0, 1, 0, 0]), (atC Try.prog 73 [1, 0, 1, 0, 1]), b47⟩), .obj b44 (.row 49 .whole [s48]), .vec 64 3 l48.length s48 (l48.flatMap enc64), .obj b38 (.row 38 .whole [sc38_0]), .obj b41 (.row 38 .whole [sc41_0]), .obj b35 (.row 86 .whole [(.int .i64 c35.live), (.int .i64 c35.window), (.int .i64 c35.step)]), .obj b47 .defd, .obj b54 (.row 43 .whole [(.int .i64 c54.Time), (.int .i64 c54.Loud), (.int .i64 c54.Template)])])⟩
      refine Run.opsEnd (Run.seq ?_)
      refine Run.drawG plan74_1_0_0_1_1_0_0_1_1_0_0_1_1_0_0_1_0 ?_
      refine DrawG.fl rfl (ev_ex wantS_none (ex_fieldAddr rfl off43_2)) rfl ?_
      refine DrawG.fl rfl (ev_ex wantS_none (ex_load1 rfl (hH63.cells (i := 8) rfl 2 rfl) rdLe_rfl agg3)) rfl ?_
      refine DrawG.fl rfl (ev_ex wantS_none (ex_fieldAddr rfl off43_2)) rfl ?_
      refine DrawG.fl rfl (ev_ex wantS_none (ex_load1 rfl (hH63.cells (i := 0) rfl 2 rfl) rdLe_rfl agg3)) rfl ?_
      refine DrawG.fl rfl (ev_ex wantS_none (ex_eql rfl rfl)) rfl ?_
      refine DrawG.fl rfl (ev_ex wantS_none (ex_move rfl)) rfl ?_
      rcases btf ((c54.Template == x59.Template)) with hc64 | hc64
      · have h := bif_t hc64 h
        refine DrawG.fl rfl (ev_ex (wantS_yes' rfl rfl hc64) (ex_loadA rfl (hH63.cells (i := 6) rfl 0 rfl) rdLe_rfl agg86 rfl rfl rfl)) rfl ?_
        refine DrawG.fl rfl (ev_ex (wantS_yes' rfl rfl hc64) (ex_fieldAddr rfl off43_0)) rfl ?_
        refine DrawG.fl rfl (ev_ex (wantS_yes' rfl rfl hc64) (ex_load1 rfl (hH63.cells (i := 8) rfl 0 rfl) rdLe_rfl agg3)) rfl ?_
        refine DrawG.fl rfl (ev_ex (wantS_yes' rfl rfl hc64) (ex_fieldAddr rfl off43_0)) rfl ?_
        refine DrawG.fl rfl (ev_ex (wantS_yes' rfl rfl hc64) (ex_load1 rfl (hH63.cells (i := 0) rfl 0 rfl) rdLe_rfl agg3)) rfl ?_
        refine DrawG.fl rfl (ev_ex (wantS_yes' rfl rfl hc64) (ex_fieldAddr rfl off86_1)) rfl ?_
        refine DrawG.fl rfl (ev_ex (wantS_yes' rfl rfl hc64) (ex_load1 rfl (hH63.cells (i := 6) rfl 1 rfl) rdLe_rfl agg3)) rfl ?_
        obtain ⟨r65, hr65, h⟩ := bnd_some h
        refine DrawG.callP rfl (wantS_yes' rfl rfl hc64) (ex_call rfl mkk75 cal75) rfl (search_clock_distance_ok F c35 c54.Time x59.Time _ _ hr65) (st_cons rfl (ev_ex (wantS_yes' rfl rfl hc64) (ex_load1 rfl (hH63.cells (i := 6) rfl 1 rfl) rdLe_rfl agg3)) rfl rfl rfl (st_cons rfl (ev_ex (wantS_yes' rfl rfl hc64) (ex_fieldAddr rfl off86_1)) rfl rfl rfl st_nil)) ?_
        refine DrawG.fl rfl (ev_ex (wantS_yes' rfl rfl hc64) (ex_leq rfl rfl)) rfl ?_
        refine DrawG.fl rfl (ev_ex wantS_none (ex_pickT' rfl hc64 rfl rfl)) rfl ?_
        refine DrawG.fl rfl (ev_ex wantS_none (ex_assign rfl)) rfl ?_
        refine DrawG.sync ?_
        refine DrawG.nil ?_
        refine Run.seq (Run.region ?_)
        exact Run.low (.cons (fle_pick [2] rfl) (.cons (fle_pick [] rfl) (.cons (fle_pick [] rfl) .nil))) (Run.pick [0, 2, 3, 5, 6, 7, 8, 9, 10, 11, 12, 17, 18, 19] (search_Coincide_3_ok F (search_Coincide_2 F hd1 N) ih v5 v19 (decide (r65 ≤ c35.window)) v10 v11 v12 v17 v18 v19 c38_0 c41_0 c35 c54 x59 l48 sv10 sv17 sc38_0 sc41_0 b46 b44 s48 b38 b41 b35 b47 b54 b61 _ _ _ hv10 hv17 hc38_0 hc41_0 (hH63.pick [1, 2, 3, 4, 5, 6, 7, 8, 0] rfl rfl) h))
      · have h := bif_f hc64 h
        refine DrawG.fl rfl (ev_no (wantS_not' rfl rfl hc64)) rfl ?_
        refine DrawG.fl rfl (ev_no (wantS_not' rfl rfl hc64)) rfl ?_
        refine DrawG.fl rfl (ev_no (wantS_not' rfl rfl hc64)) rfl ?_
        refine DrawG.fl rfl (ev_no (wantS_not' rfl rfl hc64)) rfl ?_
        refine DrawG.fl rfl (ev_no (wantS_not' rfl rfl hc64)) rfl ?_
        refine DrawG.fl rfl (ev_no (wantS_not' rfl rfl hc64)) rfl ?_
        refine DrawG.fl rfl (ev_no (wantS_not' rfl rfl hc64)) rfl ?_
        refine DrawG.no rfl (wantS_not' rfl rfl hc64) rfl (st_cons rfl (ev_no (wantS_not' rfl rfl hc64)) rfl rfl rfl (st_cons rfl (ev_no (wantS_not' rfl rfl hc64)) rfl rfl rfl st_nil)) ?_
        refine DrawG.fl rfl (ev_no (wantS_not' rfl rfl hc64)) rfl ?_
        refine DrawG.fl rfl (ev_ex wantS_none (ex_pickF' rfl hc64 rfl rfl)) rfl ?_
        refine DrawG.fl rfl (ev_ex wantS_none (ex_assign rfl)) rfl ?_
        refine DrawG.sync ?_
        refine DrawG.nil ?_
        refine Run.seq (Run.region ?_)
        exact Run.low (.cons (fle_pick [2] rfl) (.cons (fle_pick [] rfl) (.cons (fle_pick [] rfl) .nil))) (Run.pick [0, 2, 3, 5, 6, 7, 8, 9, 10, 11, 12, 17, 18, 19] (search_Coincide_3_ok F (search_Coincide_2 F hd1 N) ih v5 v19 false v10 v11 v12 v17 v18 v19 c38_0 c41_0 c35 c54 x59 l48 sv10 sv17 sc38_0 sc41_0 b46 b44 s48 b38 b41 b35 b47 b54 b61 _ _ _ hv10 hv17 hc38_0 hc41_0 (hH63.pick [1, 2, 3, 4, 5, 6, 7, 8, 0] rfl rfl) h))
    · have h := bif_f hc57 h
      refine Run.condF' rfl hc57 ?_
      refine Run.exit rfl (Run.inBlock (Run.region ?_))
      refine Run.opG wantS_none (ex_add rfl rfl) rfl ?_
      refine Run.opG wantS_none (ex_move rfl) rfl ?_
      refine Run.opsEnd (Run.inLoop ?_)
      exact Run.low (.cons (fle_pick [2] rfl) (.cons (fle_pick [] rfl) (.cons (fle_pick [] rfl) .nil))) (Run.pick [0, 2, 3, 10, 11, 12] (hhd1 v10 v11 (w64 (v12 + (1 : Int))) c38_0 c41_0 c35 l48 sv10 sc38_0 sc41_0 b46 b44 s48 b38 b41 b35 b47 _ _ _ hv10 hc38_0 hc41_0 (hH.pick [0, 1, 2, 3, 4, 5, 6] rfl rfl) h))

def search_Coincide_1 (F : Nat) : Nat → (List S_api_Trigger) → Int → Int → (List S_api_Trigger) → (List S_api_Trigger) → S_search_clock → (List S_api_Pair) → Option ((List S_api_Pair) × Int)
  | 0, _, _, _, _, _, _, _ => none
  | N + 1, v10, v11, v12, c38_0, c41_0, c35, l48 =>
    bif (decide (v12 < v11)) then
      bnd (idx v10 v12) fun x52 =>
      search_Coincide_2 F (search_Coincide_1 F N) F v12 v10 v11 v12 c41_0 (c41_0.length : Int) (0 : Int) c38_0 c41_0 c35 x52 l48
    else
      some (l48, (0 : Int))

theorem search_Coincide_1_ok (F : Nat) : ∀ (N : Nat), ∀ (v10 : (List S_api_Trigger)) (v11 v12 : Int) (c38_0 c41_0 : (List S_api_Trigger)) (c35 : S_search_clock) (l48 : (List S_api_Pair)) (sv10 sc38_0 sc41_0 : SV) (b46 b44 : Pos) (s48 : SV) (b38 b41 b35 b47 : Pos) (Fr : Rd) (M : Mem) (r : (List S_api_Pair) × Int) (hv10 : Slc Fr 3 (FlatR enc43) sv10 v10) (hc38_0 : Slc Fr 3 (FlatR enc43) sc38_0 c38_0) (hc41_0 : Slc Fr 3 (FlatR enc43) sc41_0 c41_0) (hH : Has Fr M [.obj b46 (.loop ⟨.ready, none, 73, 13, treeOf [(2, (.ptr b44 0)), (4, .nils), (6, (.fn (.func 74) [] [(.ptr b38 0), (.ptr b41 0), (.ptr b35 0)]))], [7], (atC Try.prog 73 [1, 0, 1, 0, 0]), (atC Try.prog 73 [1, 0, 1, 0, 1]), b47⟩), .obj b44 (.row 49 .whole [s48]), .vec 64 3 l48.length s48 (l48.flatMap enc64), .obj b38 (.row 38 .whole [sc38_0]), .obj b41 (.row 38 .whole [sc41_0]), .obj b35 (.row 86 .whole [(.int .i64 c35.live), (.int .i64 c35.window), (.int .i64 c35.step)]), .obj b47 .defd]), search_Coincide_1 F N v10 v11 v12 c38_0 c41_0 c35 l48 = some r → Run Try.prog ⟨⟨74, [], none⟩, [.mk ⟨73, [b47], none⟩ 13 (treeOf [(2, (.ptr b44 0))]) [.inRange b46, .inBlock 0, codeC Try.prog 73 [1, 1]], .mk ⟨37, [], none⟩ 5 (treeOf []) [itemC Try.prog 37 [1, 0] 1, codeC Try.prog 37 [1, 1]], .mk ⟨13, [], none⟩ 29 (treeOf []) [itemC Try.prog 13 [1, 1, 1, 0] 4, codeC Try.prog 13 [1, 1, 1, 1]]]⟩ 56 (search_Coincide_post r) [(0, (.yield b46)), (2, (.ptr b41 0)), (3, (.ptr b35 0)), (10, sv10), (11, (.int .i64 v11)), (12, (.int .i64 v12))] [codeC Try.prog 74 [1, 0, 0], loopC Try.prog 74 [1, 0, 0], .inBlock 0] M := by
  intro N
  induction N with
  | zero =>
    intro v10 v11 v12 c38_0 c41_0 c35 l48 sv10 sc38_0 sc41_0 b46 b44 s48 b38 b41 b35 b47 Fr M r hv10 hc38_0 hc41_0 hH h
    simp [search_Coincide_1] at h
  | succ N ih =>
    intro v10 v11 v12 c38_0 c41_0 c35 l48 sv10 sc38_0 sc41_0 b46 b44 s48 b38 b41 b35 b47 Fr M r hv10 hc38_0 hc41_0 hH h
    rw [search_Coincide_1] at h
    refine Run.seq (Run.region ?_)
    refine Run.opG wantS_none (ex_lss rfl rfl) rfl ?_
    refine Run.opsEnd (Run.seq ?_)
    rcases btf ((decide (v12 < v11))) with hc50 | hc50
    · have h := bif_t hc50 h
      refine Run.condT' rfl hc50 ?_
      refine Run.skip (Run.seq (Run.block (Run.seq (Run.region ?_))))
      refine Run.opG wantS_none (ex_move rfl) rfl ?_
      obtain ⟨x52, hx52, h⟩ := bnd_some h
      obtain ⟨p52, o52, _, hx52, hp52, rfl⟩ := sl_elem (P := Try.prog) (t := 38) (kk := .i64) hv10 hx52 els38
      refine Run.opG wantS_none (ex_elX rfl rfl hx52) rfl ?_
      refine Run.opG wantS_none (ex_loadA rfl (hH.ptrF hp52) rdLe_rfl agg43 rfl rfl rfl) rfl ?_
      refine Run.opX wantS_none rfl (ExG.new (v := fun b => .ptr b 0) (ex_alloc zer43) hH) ?_
      rintro _ M55 ⟨b54, rfl, hH55⟩
      refine Run.opG wantS_none (ex_assign rfl) rfl ?_
      refine Run.opX wantS_none rfl (ExG.storeC (c' := [(.int .i64 x52.Time), (.int .i64 x52.Loud), (.int .i64 x52.Template)]) rfl rfl rfl hH55 (i := 0) rfl sz43 rfl rfl rfl rfl rfl) ?_
      rintro _ M56 ⟨rfl, (hH56 : Has Fr M56 [.obj b54 (.row 43 .whole [(.int .i64 x52.Time), (.int .i64 x52.Loud), (.int .i64 x52.Template)]), .obj b46 (.loop ⟨.ready, none, 73, 13, treeOf [(2, (.ptr b44 0)), (4, .nils), (6, (.fn (.func 74) [] [(.ptr b38 0), (.ptr b41 0), (.ptr b35 0)]))], [7], (atC Try.prog 73 [1, 0, 1, 0, 0]), (atC Try.prog 73 [1, 0, 1, 0, 1]), b47⟩), .obj b44 (.row 49 .whole [s48]), .vec 64 3 l48.length s48 (l48.flatMap enc64), .obj b38 (.row 38 .whole [sc38_0]), .obj b41 (.row 38 .whole [sc41_0]), .obj b35 (.row 86 .whole [(.int .i64 c35.live), (.int .i64 c35.window), (.int .i64 c35.step)]), .obj b47 .defd])⟩
      refine Run.opsEnd (Run.seq (Run.region ?_))
      refine Run.opG wantS_none (ex_load1 rfl (hH56.cells (i := 5) rfl 0 rfl) rdLe_rfl agg38) rfl ?_
      refine Run.opG wantS_none (ex_len' rfl hc41_0 lenk38) rfl ?_
      refine Run.opG wantS_none (ex_move rfl) rfl ?_
      refine Run.opsEnd (Run.block (Run.loop ?_))
      exact Run.low (.cons (fle_pick [2] rfl) (.cons (fle_pick [] rfl) (.cons (fle_pick [] rfl) .nil))) (Run.pick [0, 2, 3, 5, 6, 10, 11, 12, 17, 18, 19] (search_Coincide_2_ok F (search_Coincide_1 F N) ih F v12 v10 v11 v12 c41_0 (c41_0.length : Int) (0 : Int) c38_0 c41_0 c35 x52 l48 sv10 sc41_0 sc38_0 sc41_0 b46 b44 s48 b38 b41 b35 b47 b54 _ _ _ hv10 hc41_0 hc38_0 hc41_0 (hH56.pick [1, 2, 3, 4, 5, 6, 7, 0] rfl rfl) h))
    · have h := bif_f hc50 h
      refine Run.condF' rfl hc50 ?_
      refine Run.exit rfl ?_
      refine Run.fallRange Try.func74 rfl res_nil ?_
      refine Run.endX hH (i := 0) rfl (fun hc => by cases hc) ?_
      intro M87 (hH87 : Has Fr M87 [.obj b46 (.loop ⟨.exhausted, none, 73, 13, treeOf [(2, (.ptr b44 0)), (4, .nils), (6, (.fn (.func 74) [] [(.ptr b38 0), (.ptr b41 0), (.ptr b35 0)]))], [7], (atC Try.prog 73 [1, 0, 1, 0, 0]), (atC Try.prog 73 [1, 0, 1, 0, 1]), b47⟩), .obj b44 (.row 49 .whole [s48]), .vec 64 3 l48.length s48 (l48.flatMap enc64), .obj b38 (.row 38 .whole [sc38_0]), .obj b41 (.row 38 .whole [sc41_0]), .obj b35 (.row 86 .whole [(.int .i64 c35.live), (.int .i64 c35.window), (.int .i64 c35.step)]), .obj b47 .defd])
      refine Run.inBlock (Run.seq (Run.region ?_))
      refine Run.opG wantS_none (ex_load1 rfl (hH87.cells (i := 1) rfl 0 rfl) rdLe_rfl agg49) rfl ?_
      refine Run.opG wantS_none (ex_assign rfl) rfl ?_
      refine Run.opsEnd ?_
      obtain ⟨hH88x, hS88⟩ := hH87.shut (i := 6) (ds := []) rfl
      have hH88 : Has Fr (setT M87 b47 none) [.obj b46 (.loop ⟨.exhausted, none, 73, 13, treeOf [(2, (.ptr b44 0)), (4, .nils), (6, (.fn (.func 74) [] [(.ptr b38 0), (.ptr b41 0), (.ptr b35 0)]))], [7], (atC Try.prog 73 [1, 0, 1, 0, 0]), (atC Try.prog 73 [1, 0, 1, 0, 1]), b47⟩), .obj b44 (.row 49 .whole [s48]), .vec 64 3 l48.length s48 (l48.flatMap enc64), .obj b38 (.row 38 .whole [sc38_0]), .obj b41 (.row 38 .whole [sc41_0]), .obj b35 (.row 86 .whole [(.int .i64 c35.live), (.int .i64 c35.window), (.int .i64 c35.step)]), .vec 0 0 0 .nils []] := hH88x
      refine Run.retTo Try.func73 (hS88 _ rfl) (res_tmp rfl res_nil) rfl ?_
      refine Run.opG wantS_none (ex_assign rfl) rfl ?_
      refine Run.opsEnd ?_
      refine Run.retTo Try.func37 rfl (res_tmp rfl res_nil) rfl ?_
      refine Run.opG wantS_none (ex_assign rfl) rfl ?_
      refine Run.opG wantS_none (ex_assign rfl) rfl ?_
      refine Run.opsEnd ?_
      cases h
      exact Run.ret Try.func13 rfl (res_tmp rfl (res_tmp rfl res_nil)) ⟨_, rfl, (hH88.pick [2] rfl rfl).upF (none_le _)⟩

def search_Coincide (F : Nat) (a0 a1 : (List S_api_Trigger)) (a2 a3 : Int) : Option ((List S_api_Pair) × Int) :=
  bnd (search_clock_check F (S_search_clock.mk a2 a3 a2) ([a0, a1] : List (List S_api_Trigger))) fun r29 =>
  bif (!(r29 == (0 : Int))) then
    some (([] : List S_api_Pair), r29)
  else
    search_Coincide_1 F F a0 (a0.length : Int) (0 : Int) a0 a1 (S_search_clock.mk a2 a3 a2) ([] : List S_api_Pair)

theorem search_Coincide_ok (F : Nat) (a0 a1 : (List S_api_Trigger)) (a2 a3 : Int) (s0 s1 : SV) (r : (List S_api_Pair) × Int) (M : Mem) (hs0 : Slc (rd M) 3 (FlatR enc43) s0 a0) (hs1 : Slc (rd M) 3 (FlatR enc43) s1 a1) (h : search_Coincide F a0 a1 a2 a3 = some r) : CallsM Try.prog 13 [s0, s1, (.int .i64 a2), (.int .i64 a3)] M (fun s M' => ∃ q1, s = (.tuple [q1, (.int .i64 r.2)]) ∧ New M M' [.vec 64 3 r.1.length q1 (r.1.flatMap enc64)]) := by
  refine CallsM.fresh (Q := search_Coincide_post r) Try.func13 rfl rfl ?_ (by rintro s Me ⟨q1, rfl, hx⟩ ha hw; exact ⟨_, rfl, New.of rfl hx ha hw⟩)
  rw [search_Coincide] at h
  replace hs0 := hs0.mono (rdLe_frozen M) (fun _ _ h => h)
  replace hs1 := hs1.mono (rdLe_frozen M) (fun _ _ h => h)
  have hH := Has.nil (frozen M)
  refine Run.seq (Run.region ?_)
  refine Run.opG wantS_none (ex_assign rfl) rfl ?_
  refine Run.opG wantS_none (ex_assign rfl) rfl ?_
  refine Run.opsEnd (Run.seq (Run.region ?_))
  refine Run.opG wantS_none (ex_move rfl) rfl ?_
  refine Run.opG wantS_none (ex_move rfl) rfl ?_
  refine Run.opG wantS_none (ex_move rfl) rfl ?_
  refine Run.opG wantS_none (ex_build (r := [(.int .i64 a2), (.int .i64 a3), (.int .i64 a2)]) rfl zer86 pls86 rfl) rfl ?_
  refine Run.opX wantS_none rfl (ExG.new (v := fun b => .ptr b 0) (ex_alloc zer86) hH) ?_
  rintro _ M23 ⟨b22, rfl, hH23⟩
  refine Run.opX wantS_none rfl (ExG.storeC (c' := [(.int .i64 a2), (.int .i64 a3), (.int .i64 a2)]) rfl rfl rfl hH23 (i := 0) rfl sz86 rfl rfl rfl rfl rfl) ?_
  rintro _ M24 ⟨rfl, (hH24 : Has (ro (frozen M)) M24 [.obj b22 (.row 86 .whole [(.int .i64 a2), (.int .i64 a3), (.int .i64 a2)])])⟩
  refine Run.opsEnd (Run.seq (Run.seq (Run.region ?_)))
  refine Run.opG wantS_none (ex_loadA rfl (hH24.cells (i := 0) rfl 0 rfl) rdLe_rfl agg86 rfl rfl rfl) rfl ?_
  refine Run.opG wantS_none (ex_move rfl) rfl ?_
  refine Run.opG wantS_none (ex_move rfl) rfl ?_
  have hr26 : Rows (rep38 (ro (frozen M))) 1 [s0, s1] ([a0, a1] : List (List S_api_Trigger)) := (Rows.cons (cs := [s0]) rfl ⟨s0, rfl, hs0⟩ (Rows.cons (cs := [s1]) rfl ⟨s1, rfl, hs1⟩ Rows.nil))
  refine Run.opX wantS_none rfl (ExG.builtR (z := 1) (c := [s0, s1]) rfl elt128 rfl (by simp only [fillS, cells_one (slc_one hs0), cells_one (slc_one hs1)]; rfl) rfl hH24) ?_
  rintro s26 M27 (hH27 : Has (ro (frozen M)) M27 [.vec 38 1 ([a0, a1] : List (List S_api_Trigger)).length s26 [s0, s1], .obj b22 (.row 86 .whole [(.int .i64 a2), (.int .i64 a3), (.int .i64 a2)])])
  obtain ⟨r29, hr29, h⟩ := bnd_some h
  refine Run.callP wantS_none (ex_call rfl mkk35 cal35) rfl (search_clock_check_ok F (S_search_clock.mk a2 a3 a2) ([a0, a1] : List (List S_api_Trigger)) s26 _ _ (((hH27.slcR (i := 0) rfl hr26)).mono (fun _ _ h => h) (fun _ _ => rep38_mo hH27.le)) hr29) ?_
  refine Run.opG wantS_none (ex_assign rfl) rfl ?_
  refine Run.opsEnd (Run.seq (Run.region ?_))
  refine Run.opG wantS_none (ex_move rfl) rfl ?_
  refine Run.opG wantS_none (ex_neq rfl rfl) rfl ?_
  refine Run.opsEnd ?_
  rcases btf ((!(r29 == (0 : Int)))) with hc31 | hc31
  · have h := bif_t hc31 h
    refine Run.condT' rfl hc31 ?_
    refine Run.seq (Run.region ?_)
    refine Run.opG wantS_none (ex_move rfl) rfl ?_
    refine Run.opG wantS_none (ex_assign rfl) rfl ?_
    refine Run.opG wantS_none (ex_assign rfl) rfl ?_
    refine Run.opsEnd ?_
    have hH33 : Has (ro (frozen M)) M27 [.vec 64 3 ([] : List S_api_Pair).length .nils (([] : List S_api_Pair).flatMap enc64), .vec 38 1 ([a0, a1] : List (List S_api_Trigger)).length s26 [s0, s1], .obj b22 (.row 86 .whole [(.int .i64 a2), (.int .i64 a3), (.int .i64 a2)])] := hH27.nils 64 3
    cases h
    exact Run.ret Try.func13 rfl (res_tmp rfl (res_tmp rfl res_nil)) ⟨_, rfl, (hH33.pick [0] rfl rfl).upF (none_le _)⟩
  · have h := bif_f hc31 h
    refine Run.condF' rfl hc31 ?_
    refine Run.skip (Run.seq (Run.region ?_))
    refine Run.opG wantS_none (ex_loadA rfl (hH27.cells (i := 1) rfl 0 rfl) rdLe_rfl agg86 rfl rfl rfl) rfl ?_
    refine Run.opG wantS_none (ex_move rfl) rfl ?_
    refine Run.opG wantS_none (ex_move rfl) rfl ?_
    refine Run.enter wantS_none (ex_call rfl mkk38 cal38) Try.func38 rfl rfl ?_
    refine Run.seq (Run.region ?_)
    refine Run.opX wantS_none rfl (ExG.box rfl rfl hH27) ?_
    rintro _ M36 ⟨b35, rfl, hH36⟩
    refine Run.opX wantS_none rfl (ExG.box rfl (cells_one (slc_one hs0)) hH36) ?_
    rintro _ M39 ⟨b38, rfl, hH39⟩
    refine Run.opX wantS_none rfl (ExG.box rfl (cells_one (slc_one hs1)) hH39) ?_
    rintro _ M42 ⟨b41, rfl, hH42⟩
    refine Run.opG wantS_none (ex_assign rfl) rfl ?_
    refine Run.opsEnd (Run.seq (Run.region ?_))
    refine Run.opG wantS_none (ex_makeFunc rfl rfl) rfl ?_
    refine Run.opG wantS_none (ex_assign rfl) rfl ?_
    refine Run.opsEnd ?_
    refine Run.retTo Try.func38 rfl (res_tmp rfl res_nil) rfl ?_
    refine Run.enter wantS_none (ex_call rfl mkk37 cal37) Try.func37 rfl rfl ?_
    refine Run.seq (Run.region ?_)
    refine Run.opG wantS_none (ex_assign rfl) rfl ?_
    refine Run.opsEnd (Run.seq (Run.region ?_))
    refine Run.opG wantS_none (ex_move rfl) rfl ?_
    refine Run.enter wantS_none (ex_call rfl mkk73 cal73) Try.func73 rfl rfl ?_
    refine Run.seq (Run.region ?_)
    refine Run.opX wantS_none rfl (ExG.box rfl rfl hH42) ?_
    rintro _ M45 ⟨b44, rfl, hH45⟩
    refine Run.opG wantS_none (ex_assign rfl) rfl ?_
    refine Run.opsEnd (Run.seq (Run.seq (Run.region ?_)))
    refine Run.opG wantS_none (ex_move rfl) rfl ?_
    refine Run.opsEnd (Run.block ?_)
    refine Run.pick [2, 4, 6] ?_
    refine Run.rangeX rfl cal74 Try.func74 rfl rfl hH45 ?_
    intro b47 b46 M46 (hH46 : Has (ro (frozen M)) M46 [.obj b46 (.loop ⟨.ready, none, 73, 13, treeOf [(2, (.ptr b44 0)), (4, .nils), (6, (.fn (.func 74) [] [(.ptr b38 0), (.ptr b41 0), (.ptr b35 0)]))], [7], (atC Try.prog 73 [1, 0, 1, 0, 0]), (atC Try.prog 73 [1, 0, 1, 0, 1]), b47⟩), .obj b47 .defd, .obj b44 (.row 49 .whole [.nils]), .obj b41 (.row 38 .whole [s1]), .obj b38 (.row 38 .whole [s0]), .obj b35 (.row 86 .whole [(.int .i64 a2), (.int .i64 a3), (.int .i64 a2)]), .vec 38 1 ([a0, a1] : List (List S_api_Trigger)).length s26 [s0, s1], .obj b22 (.row 86 .whole [(.int .i64 a2), (.int .i64 a3), (.int .i64 a2)])])
    refine Run.seq (Run.region ?_)
    refine Run.opG wantS_none (ex_load1 rfl (hH46.cells (i := 4) rfl 0 rfl) rdLe_rfl agg38) rfl ?_
    refine Run.opG wantS_none (ex_len' rfl hs0 lenk38) rfl ?_
    refine Run.opG wantS_none (ex_move rfl) rfl ?_
    refine Run.opsEnd (Run.block (Run.loop ?_))
    have hH49 : Has (ro (frozen M)) M46 [.vec 64 3 ([] : List S_api_Pair).length .nils (([] : List S_api_Pair).flatMap enc64), .obj b46 (.loop ⟨.ready, none, 73, 13, treeOf [(2, (.ptr b44 0)), (4, .nils), (6, (.fn (.func 74) [] [(.ptr b38 0), (.ptr b41 0), (.ptr b35 0)]))], [7], (atC Try.prog 73 [1, 0, 1, 0, 0]), (atC Try.prog 73 [1, 0, 1, 0, 1]), b47⟩), .obj b47 .defd, .obj b44 (.row 49 .whole [.nils]), .obj b41 (.row 38 .whole [s1]), .obj b38 (.row 38 .whole [s0]), .obj b35 (.row 86 .whole [(.int .i64 a2), (.int .i64 a3), (.int .i64 a2)]), .vec 38 1 ([a0, a1] : List (List S_api_Trigger)).length s26 [s0, s1], .obj b22 (.row 86 .whole [(.int .i64 a2), (.int .i64 a3), (.int .i64 a2)])] := hH46.nils 64 3
    exact Run.low (.cons (fle_pick [2] rfl) (.cons (fle_pick [] rfl) (.cons (fle_pick [] rfl) .nil))) (Run.pick [0, 2, 3, 10, 11, 12] (search_Coincide_1_ok F F a0 (a0.length : Int) (0 : Int) a0 a1 (S_search_clock.mk a2 a3 a2) ([] : List S_api_Pair) s0 s0 s1 b46 b44 .nils b38 b41 b35 b47 _ _ _ hs0 hs0 hs1 (hH49.pick [1, 3, 0, 5, 4, 6, 2] rfl rfl) h))

theorem mkk13 : makeK Try.prog 13 = none := by kernel_rfl
theorem cal13 : callable Try.prog 13 = true := by kernel_rfl
theorem lenk49 : lenK Try.prog 49 = some .sl := by kernel_rfl
abbrev law08_SearchVetoed_post (r : Bool) : SV → Mem → Prop := fun s _ => s = (.bool r)

def law08_SearchVetoed_2 (F : Nat) (v43 : Bool) : Option (Bool) :=
  some v43

theorem law08_SearchVetoed_2_ok (F : Nat) : ∀ (v43 : Bool) (Fr : Rd) (M : Mem) (r : Bool) (hH : Has Fr M []), law08_SearchVetoed_2 F v43 = some r → Run Try.prog ⟨⟨4, [], none⟩, []⟩ 122 (law08_SearchVetoed_post r) [(43, (.bool v43))] [itemC Try.prog 4 [1, 1, 1, 1, 0, 1, 0, 0] 6, codeC Try.prog 4 [1, 1, 1, 1, 0, 1, 0, 1], codeC Try.prog 4 [1, 1, 1, 1, 1]] M := by
  intro v43 Fr M r hH h
  rw [law08_SearchVetoed_2] at h
  refine Run.opG wantS_none (ex_assign rfl) rfl ?_
  refine Run.opsEnd ?_
  cases h
  exact Run.ret Try.func4 rfl (res_tmp rfl res_nil) rfl

def law08_SearchVetoed_4 (F : Nat) (hd3 : (List S_api_Trigger) → Int → S_ringdownlaw08_Clock → (List Int) → (List S_api_Trigger) → Option (Bool)) (v0 : (List S_api_Trigger)) (v12 : Int) (c22 : S_ringdownlaw08_Clock) (l42 : (List Int)) (l68 : (List S_api_Trigger)) : Option (Bool) :=
  hd3 v0 (w64 (v12 + (1 : Int))) c22 l42 l68

theorem law08_SearchVetoed_4_ok (F : Nat) (hd3 : (List S_api_Trigger) → Int → S_ringdownlaw08_Clock → (List Int) → (List S_api_Trigger) → Option (Bool)) (hhd3 : ∀ (v0 : (List S_api_Trigger)) (v12 : Int) (c22 : S_ringdownlaw08_Clock) (l42 : (List Int)) (l49 : (List S_api_Trigger)) (sv0 : SV) (b22 : Pos) (s42 s49 : SV) (Fr : Rd) (M : Mem) (r : Bool) (hv0 : Slc Fr 3 (FlatR enc43) sv0 v0) (hH : Has Fr M [.obj b22 (.row 40 .whole [(.int .i64 c22.Live), (.int .i64 c22.Window), (.int .i64 c22.Step), (.int .i64 c22.Limit)]), .vec 3 1 l42.length s42 (l42.flatMap enc3), .vec 43 3 l49.length s49 (l49.flatMap enc43)]), hd3 v0 v12 c22 l42 l49 = some r → Run Try.prog ⟨⟨4, [], none⟩, []⟩ 122 (law08_SearchVetoed_post r) [(0, sv0), (4, (.ptr b22 0)), (9, s42), (11, s49), (12, (.int .i64 v12))] [codeC Try.prog 4 [1, 1, 1, 1, 1, 1, 0, 1, 0, 0], loopC Try.prog 4 [1, 1, 1, 1, 1, 1, 0, 1, 0, 0], .inBlock 2, codeC Try.prog 4 [1, 1, 1, 1, 1, 1, 1]] M) : ∀ (v0 : (List S_api_Trigger)) (v12 : Int) (c22 : S_ringdownlaw08_Clock) (l42 : (List Int)) (l68 : (List S_api_Trigger)) (sv0 : SV) (b22 : Pos) (s42 s68 : SV) (Fr : Rd) (M : Mem) (r : Bool) (hv0 : Slc Fr 3 (FlatR enc43) sv0 v0) (hH : Has Fr M [.obj b22 (.row 40 .whole [(.int .i64 c22.Live), (.int .i64 c22.Window), (.int .i64 c22.Step), (.int .i64 c22.Limit)]), .vec 3 1 l42.length s42 (l42.flatMap enc3), .vec 43 3 l68.length s68 (l68.flatMap enc43)]), law08_SearchVetoed_4 F hd3 v0 v12 c22 l42 l68 = some r → Run Try.prog ⟨⟨4, [], none⟩, []⟩ 122 (law08_SearchVetoed_post r) [(0, sv0), (4, (.ptr b22 0)), (9, s42), (11, s68), (12, (.int .i64 v12))] [itemC Try.prog 4 [1, 1, 1, 1, 1, 1, 0, 1, 0, 0, 1, 1] 0, loopC Try.prog 4 [1, 1, 1, 1, 1, 1, 0, 1, 0, 0], .inBlock 2, codeC Try.prog 4 [1, 1, 1, 1, 1, 1, 1]] M := by
  intro v0 v12 c22 l42 l68 sv0 b22 s42 s68 Fr M r hv0 hH h
  rw [law08_SearchVetoed_4] at h
  refine Run.opG wantS_none (ex_move rfl) rfl ?_
  refine Run.opG wantS_none (ex_add rfl rfl) rfl ?_
  refine Run.opG wantS_none (ex_assign rfl) rfl ?_
  refine Run.opsEnd (Run.inLoop ?_)
  exact Run.pick [0, 4, 9, 11, 12] (hhd3 v0 (w64 (v12 + (1 : Int))) c22 l42 l68 sv0 b22 s42 s68 _ _ _ hv0 hH h)

def law08_SearchVetoed_8 (F : Nat) (v121 : Bool) : Option (Bool) :=
  some v121

theorem law08_SearchVetoed_8_ok (F : Nat) : ∀ (v121 : Bool) (Fr : Rd) (M : Mem) (r : Bool) (hH : Has Fr M []), law08_SearchVetoed_8 F v121 = some r → Run Try.prog ⟨⟨4, [], none⟩, []⟩ 122 (law08_SearchVetoed_post r) [(121, (.bool v121))] [itemC Try.prog 4 [1, 1, 1, 1, 1, 1, 1, 1, 1, 1, 1, 1, 0] 12, codeC Try.prog 4 [1, 1, 1, 1, 1, 1, 1, 1, 1, 1, 1, 1, 1]] M := by
  intro v121 Fr M r hH h
  rw [law08_SearchVetoed_8] at h
  refine Run.opG wantS_none (ex_assign rfl) rfl ?_
  refine Run.opsEnd ?_
  cases h
  exact Run.ret Try.func4 rfl (res_tmp rfl res_nil) rfl

def law08_SearchVetoed_7 (F : Nat) (v118 : Bool) : Option (Bool) :=
  bif v118 then
    bnd (works F) fun r91 =>
    law08_SearchVetoed_8 F r91
  else
    law08_SearchVetoed_8 F false

theorem law08_SearchVetoed_7_ok (F : Nat) : ∀ (v118 : Bool) (Fr : Rd) (M : Mem) (r : Bool) (hH : Has Fr M []), law08_SearchVetoed_7 F v118 = some r → Run Try.prog ⟨⟨4, [], none⟩, []⟩ 122 (law08_SearchVetoed_post r) [(118, (.bool v118))] [itemC Try.prog 4 [1, 1, 1, 1, 1, 1, 1, 1, 1, 1, 1, 1, 0] 9, codeC Try.prog 4 [1, 1, 1, 1, 1, 1, 1, 1, 1, 1, 1, 1, 1]] M := by
  intro v118 Fr M r hH h
  rw [law08_SearchVetoed_7] at h
  refine Run.opG wantS_none (ex_move rfl) rfl ?_
  rcases btf (v118) with hc89 | hc89
  · have h := bif_t hc89 h
    obtain ⟨r91, hr91, h⟩ := bnd_some h
    refine Run.callP (wantS_yes' rfl rfl hc89) (ex_call rfl mkk6 cal6) rfl (works_ok F r91 _ hH  hr91) ?_
    refine Run.opG wantS_none (ex_pickT' rfl hc89 rfl rfl) rfl ?_
    exact Run.pick [121] (law08_SearchVetoed_8_ok F r91 _ _ _ hH h)
  · have h := bif_f hc89 h
    refine Run.no (wantS_not' rfl rfl hc89) rfl ?_
    refine Run.opG wantS_none (ex_pickF' rfl hc89 rfl rfl) rfl ?_
    exact Run.pick [121] (law08_SearchVetoed_8_ok F false _ _ _ hH h)

def law08_SearchVetoed_6 (F : Nat) (v0 : (List S_api_Trigger)) (v101 : Bool) (c22 : S_ringdownlaw08_Clock) (l49 : (List S_api_Trigger)) : Option (Bool) :=
  bif v101 then
    some false
  else
    bnd (search_Coincide F l49 v0 c22.Live (0 : Int)) fun r85 =>
    bif (r85.2 == (0 : Int)) then
      law08_SearchVetoed_7 F ((r85.1.length : Int) == (l49.length : Int))
    else
      law08_SearchVetoed_7 F false

theorem law08_SearchVetoed_6_ok (F : Nat) : ∀ (v0 : (List S_api_Trigger)) (v101 : Bool) (c22 : S_ringdownlaw08_Clock) (l49 : (List S_api_Trigger)) (sv0 : SV) (b22 : Pos) (s49 : SV) (Fr : Rd) (M : Mem) (r : Bool) (hv0 : Slc Fr 3 (FlatR enc43) sv0 v0) (hH : Has Fr M [.obj b22 (.row 40 .whole [(.int .i64 c22.Live), (.int .i64 c22.Window), (.int .i64 c22.Step), (.int .i64 c22.Limit)]), .vec 43 3 l49.length s49 (l49.flatMap enc43)]), law08_SearchVetoed_6 F v0 v101 c22 l49 = some r → Run Try.prog ⟨⟨4, [], none⟩, []⟩ 122 (law08_SearchVetoed_post r) [(0, sv0), (4, (.ptr b22 0)), (11, s49), (101, (.bool v101))] [codeC Try.prog 4 [1, 1, 1, 1, 1, 1, 1, 1, 1, 1, 0, 1], codeC Try.prog 4 [1, 1, 1, 1, 1, 1, 1, 1, 1, 1, 1]] M := by
  intro v0 v101 c22 l49 sv0 b22 s49 Fr M r hv0 hH h
  rw [law08_SearchVetoed_6] at h
  rcases btf (v101) with hc82 | hc82
  · have h := bif_t hc82 h
    refine Run.condT' rfl hc82 ?_
    refine Run.seq (Run.region ?_)
    refine Run.opG wantS_none (ex_assign rfl) rfl ?_
    refine Run.opsEnd ?_
    cases h
    exact Run.ret Try.func4 rfl (res_tmp rfl res_nil) rfl
  · have h := bif_f hc82 h
    refine Run.condF' rfl hc82 ?_
    refine Run.skip (Run.seq (Run.region ?_))
    refine Run.opG wantS_none (ex_move rfl) rfl ?_
    refine Run.opG wantS_none (ex_move rfl) rfl ?_
    refine Run.opG wantS_none (ex_fieldAddr rfl off40_0) rfl ?_
    refine Run.opG wantS_none (ex_load1 rfl (hH.cells (i := 0) rfl 0 rfl) rdLe_rfl agg3) rfl ?_
    obtain ⟨r85, hr85, h⟩ := bnd_some h
    refine Run.callX wantS_none (ex_call rfl mkk13 cal13) rfl (search_Coincide_ok F l49 v0 c22.Live (0 : Int) s49 sv0 _ _ (hH.slc (i := 1) rfl enc43_len) (hH.slcF hv0) hr85) ?_
    rintro _ M87 ⟨s85_0, rfl, hN85⟩
    have hH87 : Has Fr M87 [.vec 64 3 r85.1.length s85_0 (r85.1.flatMap enc64), .obj b22 (.row 40 .whole [(.int .i64 c22.Live), (.int .i64 c22.Window), (.int .i64 c22.Step), (.int .i64 c22.Limit)]), .vec 43 3 l49.length s49 (l49.flatMap enc43)] := hN85.1 _ _ hH
    refine Run.opG wantS_none (ex_move rfl) rfl ?_
    refine Run.opG wantS_none (ex_extract rfl rfl) rfl ?_
    refine Run.opG wantS_none (ex_extract rfl rfl) rfl ?_
    refine Run.opG wantS_none (ex_assign rfl) rfl ?_
    refine Run.opG wantS_none (ex_assign rfl) rfl ?_
    refine Run.opsEnd (Run.seq (Run.region ?_))
    refine Run.opG wantS_none (ex_move rfl) rfl ?_
    refine Run.opG wantS_none (ex_eql rfl rfl) rfl ?_
    refine Run.opG wantS_none (ex_move rfl) rfl ?_
    rcases btf ((r85.2 == (0 : Int))) with hc88 | hc88
    · have h := bif_t hc88 h
      refine Run.opG (wantS_yes' rfl rfl hc88) (ex_move rfl) rfl ?_
      refine Run.opG (wantS_yes' rfl rfl hc88) (ex_len' rfl (hH87.slc (i := 0) rfl enc64_len) lenk49) rfl ?_
      refine Run.opG (wantS_yes' rfl rfl hc88) (ex_move rfl) rfl ?_
      refine Run.opG (wantS_yes' rfl rfl hc88) (ex_len' rfl (hH87.slc (i := 2) rfl enc43_len) lenk38) rfl ?_
      refine Run.opG (wantS_yes' rfl rfl hc88) (ex_eql rfl rfl) rfl ?_
      refine Run.opG wantS_none (ex_pickT' rfl hc88 rfl rfl) rfl ?_
      exact Run.pick [118] (law08_SearchVetoed_7_ok F ((r85.1.length : Int) == (l49.length : Int)) _ _ _ (hH87.pick [] rfl rfl) h)
    · have h := bif_f hc88 h
      refine Run.no (wantS_not' rfl rfl hc88) rfl ?_
      refine Run.no (wantS_not' rfl rfl hc88) rfl ?_
      refine Run.no (wantS_not' rfl rfl hc88) rfl ?_
      refine Run.no (wantS_not' rfl rfl hc88) rfl ?_
      refine Run.no (wantS_not' rfl rfl hc88) rfl ?_
      refine Run.opG wantS_none (ex_pickF' rfl hc88 rfl rfl) rfl ?_
      exact Run.pick [118] (law08_SearchVetoed_7_ok F false _ _ _ (hH87.pick [] rfl rfl) h)

def law08_SearchVetoed_5 (F : Nat) (v0 : (List S_api_Trigger)) (v13 v14 : Int) (v96 : Bool) (c22 : S_ringdownlaw08_Clock) (l49 : (List S_api_Trigger)) : Option (Bool) :=
  bif v96 then
    law08_SearchVetoed_6 F v0 true c22 l49
  else
    law08_SearchVetoed_6 F v0 (decide (v13 < v14)) c22 l49

theorem law08_SearchVetoed_5_ok (F : Nat) : ∀ (v0 : (List S_api_Trigger)) (v13 v14 : Int) (v96 : Bool) (c22 : S_ringdownlaw08_Clock) (l49 : (List S_api_Trigger)) (sv0 : SV) (b22 : Pos) (s49 : SV) (Fr : Rd) (M : Mem) (r : Bool) (hv0 : Slc Fr 3 (FlatR enc43) sv0 v0) (hH : Has Fr M [.obj b22 (.row 40 .whole [(.int .i64 c22.Live), (.int .i64 c22.Window), (.int .i64 c22.Step), (.int .i64 c22.Limit)]), .vec 43 3 l49.length s49 (l49.flatMap enc43)]), law08_SearchVetoed_5 F v0 v13 v14 v96 c22 l49 = some r → Run Try.prog ⟨⟨4, [], none⟩, []⟩ 122 (law08_SearchVetoed_post r) [(0, sv0), (4, (.ptr b22 0)), (11, s49), (13, (.int .i64 v13)), (14, (.int .i64 v14)), (96, (.bool v96))] [itemC Try.prog 4 [1, 1, 1, 1, 1, 1, 1, 1, 1, 1, 0, 0] 9, codeC Try.prog 4 [1, 1, 1, 1, 1, 1, 1, 1, 1, 1, 0, 1], codeC Try.prog 4 [1, 1, 1, 1, 1, 1, 1, 1, 1, 1, 1]] M := by
  intro v0 v13 v14 v96 c22 l49 sv0 b22 s49 Fr M r hv0 hH h
  rw [law08_SearchVetoed_5] at h
  refine Run.opG wantS_none (ex_move rfl) rfl ?_
  rcases btf (v96) with hc81 | hc81
  · have h := bif_t hc81 h
    refine Run.no (wantS_not' rfl rfl hc81) rfl ?_
    refine Run.no (wantS_not' rfl rfl hc81) rfl ?_
    refine Run.no (wantS_not' rfl rfl hc81) rfl ?_
    refine Run.opG wantS_none (ex_pickT' rfl hc81 rfl rfl) rfl ?_
    refine Run.opsEnd ?_
    exact Run.pick [0, 4, 11, 101] (law08_SearchVetoed_6_ok F v0 true c22 l49 sv0 b22 s49 _ _ _ hv0 hH h)
  · have h := bif_f hc81 h
    refine Run.opG (wantS_yes' rfl rfl hc81) (ex_move rfl) rfl ?_
    refine Run.opG (wantS_yes' rfl rfl hc81) (ex_move rfl) rfl ?_
    refine Run.opG (wantS_yes' rfl rfl hc81) (ex_gtr rfl rfl) rfl ?_
    refine Run.opG wantS_none (ex_pickF' rfl hc81 rfl rfl) rfl ?_
    refine Run.opsEnd ?_
    exact Run.pick [0, 4, 11, 101] (law08_SearchVetoed_6_ok F v0 (decide (v13 < v14)) c22 l49 sv0 b22 s49 _ _ _ hv0 hH h)

def law08_SearchVetoed_3 (F : Nat) : Nat → (List S_api_Trigger) → Int → S_ringdownlaw08_Clock → (List Int) → (List S_api_Trigger) → Option (Bool)
  | 0, _, _, _, _, _ => none
  | N + 1, v0, v12, c22, l42, l49 =>
    bif (decide (v12 < (v0.length : Int))) then
      bnd (idx v0 v12) fun x53 =>
      bnd (ref00_Find F l42 x53.Time) fun r57 =>
      bif (decide ((0 : Int) ≤ r57)) then
        bnd (idx v0 v12) fun x61 =>
        bnd (apd 24 l49 ([x61] : List S_api_Trigger)) fun l67 =>
        law08_SearchVetoed_4 F (law08_SearchVetoed_3 F N) v0 v12 c22 l42 l67
      else
        law08_SearchVetoed_4 F (law08_SearchVetoed_3 F N) v0 v12 c22 l42 l49
    else
      bnd (search_Loudest F v0 v0 c22.Live c22.Window) fun r71 =>
      bif (!(r71.2 == (0 : Int))) then
        bnd (works F) fun r75 =>
        some r75
      else
        bnd (search_Loudest F l49 l49 c22.Live c22.Window) fun r78 =>
        bif (!(r78.2 == (0 : Int))) then
          law08_SearchVetoed_5 F v0 r71.1 r78.1 true c22 l49
        else
          law08_SearchVetoed_5 F v0 r71.1 r78.1 (!((l49.length : Int) == (l42.length : Int))) c22 l49

theorem law08_SearchVetoed_3_ok (F : Nat) : ∀ (N : Nat), ∀ (v0 : (List S_api_Trigger)) (v12 : Int) (c22 : S_ringdownlaw08_Clock) (l42 : (List Int)) (l49 : (List S_api_Trigger)) (sv0 : SV) (b22 : Pos) (s42 s49 : SV) (Fr : Rd) (M : Mem) (r : Bool) (hv0 : Slc Fr 3 (FlatR enc43) sv0 v0) (hH : Has Fr M [.obj b22 (.row 40 .whole [(.int .i64 c22.Live), (.int .i64 c22.Window), (.int .i64 c22.Step), (.int .i64 c22.Limit)]), .vec 3 1 l42.length s42 (l42.flatMap enc3), .vec 43 3 l49.length s49 (l49.flatMap enc43)]), law08_SearchVetoed_3 F N v0 v12 c22 l42 l49 = some r → Run Try.prog ⟨⟨4, [], none⟩, []⟩ 122 (law08_SearchVetoed_post r) [(0, sv0), (4, (.ptr b22 0)), (9, s42), (11, s49), (12, (.int .i64 v12))] [codeC Try.prog 4 [1, 1, 1, 1, 1, 1, 0, 1, 0, 0], loopC Try.prog 4 [1, 1, 1, 1, 1, 1, 0, 1, 0, 0], .inBlock 2, codeC Try.prog 4 [1, 1, 1, 1, 1, 1, 1]] M := by
  intro N
  induction N with
  | zero =>
    intro v0 v12 c22 l42 l49 sv0 b22 s42 s49 Fr M r hv0 hH h
    simp [law08_SearchVetoed_3] at h
  | succ N ih =>
    intro v0 v12 c22 l42 l49 sv0 b22 s42 s49 Fr M r hv0 hH h
    rw [law08_SearchVetoed_3] at h
    refine Run.seq (Run.seq (Run.region ?_))
    refine Run.opG wantS_none (ex_move rfl) rfl ?_
    refine Run.opG wantS_none (ex_move rfl) rfl ?_
    refine Run.opG wantS_none (ex_len' rfl hv0 lenk38) rfl ?_
    refine Run.opG wantS_none (ex_lss rfl rfl) rfl ?_
    refine Run.opsEnd ?_
    rcases btf ((decide (v12 < (v0.length : Int)))) with hc51 | hc51
    · have h := bif_t hc51 h
      refine Run.condT' rfl hc51 ?_
      refine Run.skip (Run.seq (Run.block (Run.seq (Run.region ?_))))
      refine Run.opG wantS_none (ex_move rfl) rfl ?_
      refine Run.opG wantS_none (ex_move rfl) rfl ?_
      refine Run.opG wantS_none (ex_move rfl) rfl ?_
      obtain ⟨x53, hx53, h⟩ := bnd_some h
      obtain ⟨p53, o53, _, hx53, hp53, rfl⟩ := sl_elem (P := Try.prog) (t := 38) (kk := .i64) hv0 hx53 els38
      refine Run.opG wantS_none (ex_elX rfl rfl hx53) rfl ?_
      have hp55 := (hp53.fld (o := 0) rfl)
      refine Run.opG wantS_none (ex_fieldAddr rfl off43_0) rfl ?_
      refine Run.opG wantS_none (ex_load1 rfl (hH.ptrF hp55) rdLe_rfl agg3) rfl ?_
      obtain ⟨r57, hr57, h⟩ := bnd_some h
      refine Run.callP wantS_none (ex_call rfl mkk11 cal11) rfl (ref00_Find_ok F l42 x53.Time s42 _ _ (hH.slc (i := 1) rfl enc3_len) hr57) ?_
      refine Run.opG wantS_none (ex_geq rfl rfl) rfl ?_
      refine Run.opsEnd ?_
      rcases btf ((decide ((0 : Int) ≤ r57))) with hc59 | hc59
      · have h := bif_t hc59 h
        refine Run.condT' rfl hc59 ?_
        refine Run.region ?_
        refine Run.opG wantS_none (ex_move rfl) rfl ?_
        refine Run.opG wantS_none (ex_move rfl) rfl ?_
        refine Run.opG wantS_none (ex_move rfl) rfl ?_
        obtain ⟨x61, hx61, h⟩ := bnd_some h
        obtain ⟨p61, o61, _, hx61, hp61, rfl⟩ := sl_elem (P := Try.prog) (t := 38) (kk := .i64) hv0 hx61 els38
        refine Run.opG wantS_none (ex_elX rfl rfl hx61) rfl ?_
        refine Run.opG wantS_none (ex_loadA rfl (hH.ptrF hp61) rdLe_rfl agg43 rfl rfl rfl) rfl ?_
        refine Run.opX wantS_none rfl (ExG.built (enc := enc43) (l := ([x61] : List S_api_Trigger)) (z := 3) rfl elt38 rfl rfl rfl enc43_len hH) ?_
        rintro s63 M64 (hH64 : Has Fr M64 [.vec 43 3 ([x61] : List S_api_Trigger).length s63 (([x61] : List S_api_Trigger).flatMap enc43), .obj b22 (.row 40 .whole [(.int .i64 c22.Live), (.int .i64 c22.Window), (.int .i64 c22.Step), (.int .i64 c22.Limit)]), .vec 3 1 l42.length s42 (l42.flatMap enc3), .vec 43 3 l49.length s49 (l49.flatMap enc43)])
        obtain ⟨l67, hl67, h⟩ := bnd_some h
        refine Run.opX wantS_none rfl (ExG.append rfl rfl hH64 (i := 3) rfl enc43_len rfl enc43_ones appt38_38 rfl (len_slc (hH64.slc (i := 0) rfl enc43_len)) (first_slc (hH64.slc (i := 0) rfl enc43_len) (rdLe_rdRow _) enc43_len) hl67) ?_
        rintro s67 M69 (hH69 : Has Fr M69 [.vec 43 3 ([x61] : List S_api_Trigger).length s63 (([x61] : List S_api_Trigger).flatMap enc43), .obj b22 (.row 40 .whole [(.int .i64 c22.Live), (.int .i64 c22.Window), (.int .i64 c22.Step), (.int .i64 c22.Limit)]), .vec 3 1 l42.length s42 (l42.flatMap enc3), .vec 43 3 l67.length s67 (l67.flatMap enc43)])
        refine Run.opG wantS_none (ex_assign rfl) rfl ?_
        refine Run.opsEnd (Run.inBlock (Run.region ?_))
        exact Run.pick [0, 4, 9, 11, 12] (law08_SearchVetoed_4_ok F (law08_SearchVetoed_3 F N) ih v0 v12 c22 l42 l67 sv0 b22 s42 s67 _ _ _ hv0 (hH69.pick [1, 2, 3] rfl rfl) h)
      · have h := bif_f hc59 h
        refine Run.condF' rfl hc59 ?_
        refine Run.skip (Run.inBlock (Run.region ?_))
        exact Run.pick [0, 4, 9, 11, 12] (law08_SearchVetoed_4_ok F (law08_SearchVetoed_3 F N) ih v0 v12 c22 l42 l49 sv0 b22 s42 s49 _ _ _ hv0 hH h)
    · have h := bif_f hc51 h
      refine Run.condF' rfl hc51 ?_
      refine Run.exit rfl (Run.seq (Run.region ?_))
      refine Run.opG wantS_none (ex_move rfl) rfl ?_
      refine Run.opG wantS_none (ex_move rfl) rfl ?_
      refine Run.opG wantS_none (ex_fieldAddr rfl off40_0) rfl ?_
      refine Run.opG wantS_none (ex_load1 rfl (hH.cells (i := 0) rfl 0 rfl) rdLe_rfl agg3) rfl ?_
      refine Run.opG wantS_none (ex_fieldAddr rfl off40_1) rfl ?_
      refine Run.opG wantS_none (ex_load1 rfl (hH.cells (i := 0) rfl 1 rfl) rdLe_rfl agg3) rfl ?_
      obtain ⟨r71, hr71, h⟩ := bnd_some h
      refine Run.callP wantS_none (ex_call rfl mkk12 cal12) rfl (search_Loudest_ok F v0 v0 c22.Live c22.Window sv0 sv0 _ _ (hH.slcF hv0) (hH.slcF hv0) hr71) ?_
      refine Run.opG wantS_none (ex_move rfl) rfl ?_
      refine Run.opG wantS_none (ex_extract rfl rfl) rfl ?_
      refine Run.opG wantS_none (ex_extract rfl rfl) rfl ?_
      refine Run.opG wantS_none (ex_assign rfl) rfl ?_
      refine Run.opG wantS_none (ex_assign rfl) rfl ?_
      refine Run.opsEnd (Run.seq (Run.seq (Run.region ?_)))
      refine Run.opG wantS_none (ex_move rfl) rfl ?_
      refine Run.opG wantS_none (ex_neq rfl rfl) rfl ?_
      refine Run.opsEnd ?_
      rcases btf ((!(r71.2 == (0 : Int)))) with hc73 | hc73
      · have h := bif_t hc73 h
        refine Run.condT' rfl hc73 ?_
        refine Run.seq (Run.region ?_)
        obtain ⟨r75, hr75, h⟩ := bnd_some h
        refine Run.callP wantS_none (ex_call rfl mkk6 cal6) rfl (works_ok F r75 _ hH  hr75) ?_
        refine Run.opG wantS_none (ex_assign rfl) rfl ?_
        refine Run.opsEnd ?_
        cases h
        exact Run.ret Try.func4 rfl (res_tmp rfl res_nil) rfl
      · have h := bif_f hc73 h
        refine Run.condF' rfl hc73 ?_
        refine Run.skip (Run.seq (Run.region ?_))
        refine Run.opG wantS_none (ex_move rfl) rfl ?_
        refine Run.opG wantS_none (ex_move rfl) rfl ?_
        refine Run.opG wantS_none (ex_fieldAddr rfl off40_0) rfl ?_
        refine Run.opG wantS_none (ex_load1 rfl (hH.cells (i := 0) rfl 0 rfl) rdLe_rfl agg3) rfl ?_
        refine Run.opG wantS_none (ex_fieldAddr rfl off40_1) rfl ?_
        refine Run.opG wantS_none (ex_load1 rfl (hH.cells (i := 0) rfl 1 rfl) rdLe_rfl agg3) rfl ?_
        obtain ⟨r78, hr78, h⟩ := bnd_some h
        refine Run.callP wantS_none (ex_call rfl mkk12 cal12) rfl (search_Loudest_ok F l49 l49 c22.Live c22.Window s49 s49 _ _ (hH.slc (i := 2) rfl enc43_len) (hH.slc (i := 2) rfl enc43_len) hr78) ?_
        refine Run.opG wantS_none (ex_move rfl) rfl ?_
        refine Run.opG wantS_none (ex_extract rfl rfl) rfl ?_
        refine Run.opG wantS_none (ex_extract rfl rfl) rfl ?_
        refine Run.opG wantS_none (ex_assign rfl) rfl ?_
        refine Run.opG wantS_none (ex_assign rfl) rfl ?_
        refine Run.opsEnd (Run.seq (Run.seq (Run.region ?_)))
        refine Run.opG wantS_none (ex_move rfl) rfl ?_
        refine Run.opG wantS_none (ex_neq rfl rfl) rfl ?_
        refine Run.opG wantS_none (ex_move rfl) rfl ?_
        rcases btf ((!(r78.2 == (0 : Int)))) with hc80 | hc80
        · have h := bif_t hc80 h
          refine Run.no (wantS_not' rfl rfl hc80) rfl ?_
          refine Run.no (wantS_not' rfl rfl hc80) rfl ?_
          refine Run.no (wantS_not' rfl rfl hc80) rfl ?_
          refine Run.no (wantS_not' rfl rfl hc80) rfl ?_
          refine Run.no (wantS_not' rfl rfl hc80) rfl ?_
          refine Run.opG wantS_none (ex_pickT' rfl hc80 rfl rfl) rfl ?_
          exact Run.pick [0, 4, 11, 13, 14, 96] (law08_SearchVetoed_5_ok F v0 r71.1 r78.1 true c22 l49 sv0 b22 s49 _ _ _ hv0 (hH.pick [0, 2] rfl rfl) h)
        · have h := bif_f hc80 h
          refine Run.opG (wantS_yes' rfl rfl hc80) (ex_move rfl) rfl ?_
          refine Run.opG (wantS_yes' rfl rfl hc80) (ex_len' rfl (hH.slc (i := 2) rfl enc43_len) lenk38) rfl ?_
          refine Run.opG (wantS_yes' rfl rfl hc80) (ex_move rfl) rfl ?_
          refine Run.opG (wantS_yes' rfl rfl hc80) (ex_len' rfl (hH.slc (i := 1) rfl enc3_len) lenk22) rfl ?_
          refine Run.opG (wantS_yes' rfl rfl hc80) (ex_neq rfl rfl) rfl ?_
          refine Run.opG wantS_none (ex_pickF' rfl hc80 rfl rfl) rfl ?_
          exact Run.pick [0, 4, 11, 13, 14, 96] (law08_SearchVetoed_5_ok F v0 r71.1 r78.1 (!((l49.length : Int) == (l42.length : Int))) c22 l49 sv0 b22 s49 _ _ _ hv0 (hH.pick [0, 2] rfl rfl) h)

def law08_SearchVetoed_1 (F : Nat) : Nat → (List S_api_Trigger) → (List S_api_Veto) → Int → S_ringdownlaw08_Clock → (List Int) → Option (Bool)
  | 0, _, _, _, _, _ => none
  | N + 1, v0, v2, v8, c22, l24 =>
    bif (decide (v8 < (v0.length : Int))) then
      bnd (idx v0 v8) fun x28 =>
      bnd (apd 8 l24 ([x28.Time] : List Int)) fun l36 =>
      (law08_SearchVetoed_1 F N) v0 v2 (w64 (v8 + (1 : Int))) c22 l36
    else
      bnd (glitch_Passed F v2 l24) fun r41 =>
      bif (!(r41.2 == (0 : Int))) then
        bif ((r41.1.length : Int) == (0 : Int)) then
          bnd (works F) fun r47 =>
          law08_SearchVetoed_2 F r47
        else
          law08_SearchVetoed_2 F false
      else
        law08_SearchVetoed_3 F F v0 (0 : Int) c22 r41.1 ([] : List S_api_Trigger)

theorem law08_SearchVetoed_1_ok (F : Nat) : ∀ (N : Nat), ∀ (v0 : (List S_api_Trigger)) (v2 : (List S_api_Veto)) (v8 : Int) (c22 : S_ringdownlaw08_Clock) (l24 : (List Int)) (sv0 sv2 : SV) (b22 : Pos) (s24 : SV) (Fr : Rd) (M : Mem) (r : Bool) (hv0 : Slc Fr 3 (FlatR enc43) sv0 v0) (hv2 : Slc Fr 2 (rep120 Fr) sv2 v2) (hH : Has Fr M [.obj b22 (.row 40 .whole [(.int .i64 c22.Live), (.int .i64 c22.Window), (.int .i64 c22.Step), (.int .i64 c22.Limit)]), .vec 3 1 l24.length s24 (l24.flatMap enc3)]), law08_SearchVetoed_1 F N v0 v2 v8 c22 l24 = some r → Run Try.prog ⟨⟨4, [], none⟩, []⟩ 122 (law08_SearchVetoed_post r) [(0, sv0), (2, sv2), (4, (.ptr b22 0)), (7, s24), (8, (.int .i64 v8))] [codeC Try.prog 4 [1, 1, 0, 1, 0, 0], loopC Try.prog 4 [1, 1, 0, 1, 0, 0], .inBlock 0, codeC Try.prog 4 [1, 1, 1]] M := by
  intro N
  induction N with
  | zero =>
    intro v0 v2 v8 c22 l24 sv0 sv2 b22 s24 Fr M r hv0 hv2 hH h
    simp [law08_SearchVetoed_1] at h
  | succ N ih =>
    intro v0 v2 v8 c22 l24 sv0 sv2 b22 s24 Fr M r hv0 hv2 hH h
    rw [law08_SearchVetoed_1] at h
    refine Run.seq (Run.seq (Run.region ?_))
    refine Run.opG wantS_none (ex_move rfl) rfl ?_
    refine Run.opG wantS_none (ex_move rfl) rfl ?_
    refine Run.opG wantS_none (ex_len' rfl hv0 lenk38) rfl ?_
    refine Run.opG wantS_none (ex_lss rfl rfl) rfl ?_
    refine Run.opsEnd ?_
    rcases btf ((decide (v8 < (v0.length : Int)))) with hc26 | hc26
    · have h := bif_t hc26 h
      refine Run.condT' rfl hc26 ?_
      refine Run.skip (Run.seq (Run.block (Run.region ?_)))
      refine Run.opG wantS_none (ex_move rfl) rfl ?_
      refine Run.opG wantS_none (ex_move rfl) rfl ?_
      refine Run.opG wantS_none (ex_move rfl) rfl ?_
      obtain ⟨x28, hx28, h⟩ := bnd_some h
      obtain ⟨p28, o28, _, hx28, hp28, rfl⟩ := sl_elem (P := Try.prog) (t := 38) (kk := .i64) hv0 hx28 els38
      refine Run.opG wantS_none (ex_elX rfl rfl hx28) rfl ?_
      have hp30 := (hp28.fld (o := 0) rfl)
      refine Run.opG wantS_none (ex_fieldAddr rfl off43_0) rfl ?_
      refine Run.opG wantS_none (ex_load1 rfl (hH.ptrF hp30) rdLe_rfl agg3) rfl ?_
      refine Run.opX wantS_none rfl (ExG.built (enc := enc3) (l := ([x28.Time] : List Int)) (z := 1) rfl elt22 rfl rfl rfl enc3_len hH) ?_
      rintro s32 M33 (hH33 : Has Fr M33 [.vec 3 1 ([x28.Time] : List Int).length s32 (([x28.Time] : List Int).flatMap enc3), .obj b22 (.row 40 .whole [(.int .i64 c22.Live), (.int .i64 c22.Window), (.int .i64 c22.Step), (.int .i64 c22.Limit)]), .vec 3 1 l24.length s24 (l24.flatMap enc3)])
      obtain ⟨l36, hl36, h⟩ := bnd_some h
      refine Run.opX wantS_none rfl (ExG.append rfl rfl hH33 (i := 2) rfl enc3_len rfl enc3_ones appt22_22 rfl (len_slc (hH33.slc (i := 0) rfl enc3_len)) (first_slc (hH33.slc (i := 0) rfl enc3_len) (rdLe_rdRow _) enc3_len) hl36) ?_
      rintro s36 M38 (hH38 : Has Fr M38 [.vec 3 1 ([x28.Time] : List Int).length s32 (([x28.Time] : List Int).flatMap enc3), .obj b22 (.row 40 .whole [(.int .i64 c22.Live), (.int .i64 c22.Window), (.int .i64 c22.Step), (.int .i64 c22.Limit)]), .vec 3 1 l36.length s36 (l36.flatMap enc3)])
      refine Run.opG wantS_none (ex_assign rfl) rfl ?_
      refine Run.opsEnd (Run.inBlock (Run.region ?_))
      refine Run.opG wantS_none (ex_move rfl) rfl ?_
      refine Run.opG wantS_none (ex_add rfl rfl) rfl ?_
      refine Run.opG wantS_none (ex_assign rfl) rfl ?_
      refine Run.opsEnd (Run.inLoop ?_)
      exact Run.pick [0, 2, 4, 7, 8] (ih v0 v2 (w64 (v8 + (1 : Int))) c22 l36 sv0 sv2 b22 s36 _ _ _ hv0 hv2 (hH38.pick [1, 2] rfl rfl) h)
    · have h := bif_f hc26 h
      refine Run.condF' rfl hc26 ?_
      refine Run.exit rfl (Run.seq (Run.region ?_))
      refine Run.opG wantS_none (ex_move rfl) rfl ?_
      refine Run.opG wantS_none (ex_move rfl) rfl ?_
      obtain ⟨r41, hr41, h⟩ := bnd_some h
      refine Run.callX wantS_none (ex_call rfl mkk10 cal10) rfl (glitch_Passed_ok F v2 l24 sv2 s24 _ _ ((hv2).mono hH.le (fun _ _ => rep120_mo hH.le)) (hH.slc (i := 1) rfl enc3_len) hr41) ?_
      rintro _ M43 ⟨s41_0, rfl, hN41⟩
      have hH43 : Has Fr M43 [.vec 3 1 r41.1.length s41_0 (r41.1.flatMap enc3), .obj b22 (.row 40 .whole [(.int .i64 c22.Live), (.int .i64 c22.Window), (.int .i64 c22.Step), (.int .i64 c22.Limit)]), .vec 3 1 l24.length s24 (l24.flatMap enc3)] := hN41.1 _ _ hH
      refine Run.opG wantS_none (ex_move rfl) rfl ?_
      refine Run.opG wantS_none (ex_extract rfl rfl) rfl ?_
      refine Run.opG wantS_none (ex_extract rfl rfl) rfl ?_
      refine Run.opG wantS_none (ex_assign rfl) rfl ?_
      refine Run.opG wantS_none (ex_assign rfl) rfl ?_
      refine Run.opsEnd (Run.seq (Run.seq (Run.region ?_)))
      refine Run.opG wantS_none (ex_move rfl) rfl ?_
      refine Run.opG wantS_none (ex_neq rfl rfl) rfl ?_
      refine Run.opsEnd ?_
      rcases btf ((!(r41.2 == (0 : Int)))) with hc44 | hc44
      · have h := bif_t hc44 h
        refine Run.condT' rfl hc44 ?_
        refine Run.seq (Run.region ?_)
        refine Run.opG wantS_none (ex_move rfl) rfl ?_
        refine Run.opG wantS_none (ex_len' rfl (hH43.slc (i := 0) rfl enc3_len) lenk22) rfl ?_
        refine Run.opG wantS_none (ex_eql rfl rfl) rfl ?_
        refine Run.opG wantS_none (ex_move rfl) rfl ?_
        rcases btf (((r41.1.length : Int) == (0 : Int))) with hc45 | hc45
        · have h := bif_t hc45 h
          obtain ⟨r47, hr47, h⟩ := bnd_some h
          refine Run.callP (wantS_yes' rfl rfl hc45) (ex_call rfl mkk6 cal6) rfl (works_ok F r47 _ hH43  hr47) ?_
          refine Run.opG wantS_none (ex_pickT' rfl hc45 rfl rfl) rfl ?_
          exact Run.pick [43] (law08_SearchVetoed_2_ok F r47 _ _ _ (hH43.pick [] rfl rfl) h)
        · have h := bif_f hc45 h
          refine Run.no (wantS_not' rfl rfl hc45) rfl ?_
          refine Run.opG wantS_none (ex_pickF' rfl hc45 rfl rfl) rfl ?_
          exact Run.pick [43] (law08_SearchVetoed_2_ok F false _ _ _ (hH43.pick [] rfl rfl) h)
      · have h := bif_f hc44 h
        refine Run.condF' rfl hc44 ?_
        refine Run.skip (Run.seq (Run.region ?_))
        refine Run.opG wantS_none (ex_assign rfl) rfl ?_
        refine Run.opsEnd (Run.seq (Run.seq (Run.region ?_)))
        refine Run.opG wantS_none (ex_assign rfl) rfl ?_
        refine Run.opsEnd (Run.block (Run.loop ?_))
        have hH50 : Has Fr M43 [.vec 43 3 ([] : List S_api_Trigger).length .nils (([] : List S_api_Trigger).flatMap enc43), .vec 3 1 r41.1.length s41_0 (r41.1.flatMap enc3), .obj b22 (.row 40 .whole [(.int .i64 c22.Live), (.int .i64 c22.Window), (.int .i64 c22.Step), (.int .i64 c22.Limit)]), .vec 3 1 l24.length s24 (l24.flatMap enc3)] := hH43.nils 43 3
        exact Run.pick [0, 4, 9, 11, 12] (law08_SearchVetoed_3_ok F F v0 (0 : Int) c22 r41.1 ([] : List S_api_Trigger) sv0 b22 s41_0 .nils _ _ _ hv0 (hH50.pick [2, 1, 0] rfl rfl) h)

def law08_SearchVetoed (F : Nat) (a0 : (List S_api_Trigger)) (a1 : S_ringdownlaw08_Clock) (a2 : (List S_api_Veto)) : Option (Bool) :=
  law08_SearchVetoed_1 F F a0 a2 (0 : Int) a1 ([] : List Int)

theorem law08_SearchVetoed_run (F : Nat) (a0 : (List S_api_Trigger)) (a1 : S_ringdownlaw08_Clock) (a2 : (List S_api_Veto)) (s0 s1 : SV) (r : Bool) (M : Mem) (hs0 : Slc (rd M) 3 (FlatR enc43) s0 a0) (hs1 : Slc (rd M) 2 (rep120 (rd M)) s1 a2) (hfx : FixIn M fixes) (h : law08_SearchVetoed F a0 a1 a2 = some r) : Run Try.prog (fx0 4) 122 (law08_SearchVetoed_post r) [(0, s0), (1, (.agg [(.int .i64 a1.Live), (.int .i64 a1.Window), (.int .i64 a1.Step), (.int .i64 a1.Limit)])), (2, s1)] [codeC Try.prog 4 []] (frozen M) := by
  rw [law08_SearchVetoed] at h
  replace hs0 := hs0.mono (rdLe_frozen M) (fun _ _ h => h)
  replace hs1 := hs1.mono (rdLe_frozen M) (fun _ _ => rep120_mo (rdLe_frozen M))
  have hH : Has (ro (frozen M)) (frozen M) [] := Has.ofFix hfx.frozen
  refine Run.seq (Run.region ?_)
  refine Run.opX wantS_none rfl (ExG.box rfl rfl hH) ?_
  rintro _ M23 ⟨b22, rfl, hH23⟩
  refine Run.opG wantS_none (ex_assign rfl) rfl ?_
  refine Run.opsEnd (Run.seq (Run.region ?_))
  refine Run.opG wantS_none (ex_assign rfl) rfl ?_
  refine Run.opsEnd (Run.seq (Run.seq (Run.region ?_)))
  refine Run.opG wantS_none (ex_assign rfl) rfl ?_
  refine Run.opsEnd (Run.block (Run.loop ?_))
  have hH25 : Has (ro (frozen M)) M23 [.vec 3 1 ([] : List Int).length .nils (([] : List Int).flatMap enc3), .obj b22 (.row 40 .whole [(.int .i64 a1.Live), (.int .i64 a1.Window), (.int .i64 a1.Step), (.int .i64 a1.Limit)])] := hH23.nils 3 1
  exact Run.pick [0, 2, 4, 7, 8] (law08_SearchVetoed_1_ok F F a0 a2 (0 : Int) a1 ([] : List Int) s0 s1 b22 .nils _ _ _ hs0 hs1 (hH25.pick [1, 0] rfl rfl) h)

end Go.Ev.SearchVetoed
