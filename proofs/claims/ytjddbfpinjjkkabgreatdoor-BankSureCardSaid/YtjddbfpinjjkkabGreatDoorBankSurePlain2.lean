/- Plain functions that say what functions of the program come to, and proofs of it, written by a program of the verifier's own. -/
import Derived.Test.YtjddbfpinjjkkabGreatDoorSort
import Derived.Test.YtjddbfpinjjkkabGreatDoorBankSurePlain
namespace Go.Ev.BankSure
open Go Go.Ev Go.Proofs
set_option maxRecDepth 100000
set_option linter.unusedVariables false

abbrev slices_Index_post (r : Int) : SV → Mem → Prop := fun s _ => s = (.int .i64 r)

def slices_Index_1 (F : Nat) : Nat → (List S_api_Chirp) → Int → Int → S_api_Chirp → Option (Int)
  | 0, _, _, _, _ => none
  | N + 1, v0, v7, v8, c22 =>
    bif (decide (v8 < v7)) then
      bnd (idx v0 v8) fun x25 =>
      bif ((c22.P == x25.P) && ((c22.Q == x25.Q) && true)) then
        some v8
      else
        (slices_Index_1 F N) v0 v7 (w64 (v8 + (1 : Int))) c22
    else
      some ((-1) : Int)

theorem slices_Index_1_ok (F : Nat) : ∀ (N : Nat), ∀ (v0 : (List S_api_Chirp)) (v7 v8 : Int) (c22 : S_api_Chirp) (sv0 : SV) (b22 : Pos) (Fr : Rd) (M : Mem) (r : Int) (hv0 : Slc Fr 2 (FlatR enc27) sv0 v0) (hH : Has Fr M [.obj b22 (.row 27 .whole [(.int .i64 c22.P), (.int .i64 c22.Q)])]), slices_Index_1 F N v0 v7 v8 c22 = some r → Run Tryz.prog ⟨⟨130, [], none⟩, []⟩ 19 (slices_Index_post r) [(0, sv0), (3, (.ptr b22 0)), (7, (.int .i64 v7)), (8, (.int .i64 v8))] [codeC Tryz.prog 130 [1, 0, 1, 0, 0], loopC Tryz.prog 130 [1, 0, 1, 0, 0], .inBlock 0, codeC Tryz.prog 130 [1, 1]] M := by
  intro N
  induction N with
  | zero =>
    intro v0 v7 v8 c22 sv0 b22 Fr M r hv0 hH h
    simp [slices_Index_1] at h
  | succ N ih =>
    intro v0 v7 v8 c22 sv0 b22 Fr M r hv0 hH h
    rw [slices_Index_1] at h
    refine Run.seq (Run.region ?_)
    refine Run.opG wantS_none (ex_lss rfl rfl) rfl ?_
    refine Run.opsEnd (Run.seq ?_)
    rcases btf ((decide (v8 < v7))) with hc24 | hc24
    · have h := bif_t hc24 h
      refine Run.condT' rfl hc24 ?_
      refine Run.skip (Run.seq (Run.block (Run.seq (Run.region ?_))))
      refine Run.opG wantS_none (ex_move rfl) rfl ?_
      refine Run.opG wantS_none (ex_assign rfl) rfl ?_
      refine Run.opsEnd (Run.seq ?_)
      refine Run.drawG plan130_1_0_1_0_0_1_1_0_0_1_0 ?_
      refine DrawG.fl rfl (ev_ex wantS_none (ex_loadA rfl (hH.cells (i := 0) rfl 0 rfl) rdLe_rfl agg27 rfl rfl rfl)) rfl ?_
      refine DrawG.fl rfl (ev_ex wantS_none (ex_move rfl)) rfl ?_
      refine DrawG.fl rfl (ev_ex wantS_none (ex_move rfl)) rfl ?_
      obtain ⟨x25, hx25, h⟩ := bnd_some h
      obtain ⟨p25, o25, _, hx25, hp25, rfl⟩ := sl_elem (P := Tryz.prog) (t := 43) (kk := .i64) hv0 hx25 els43
      refine DrawG.fl rfl (ev_ex wantS_none (ex_elX rfl rfl hx25)) rfl ?_
      refine DrawG.fl rfl (ev_ex wantS_none (ex_loadA rfl (hH.ptrF hp25) rdLe_rfl agg27 rfl rfl rfl)) rfl ?_
      refine DrawG.fl rfl (ev_ex wantS_none (ex_eqlA rfl rfl aeq27 (eqA_st agk27 (eqFs_cons (by decide) (part_one agg3 rfl) (part_one agg3 rfl) (eqA_int agk3) (eqFs_cons (by decide) (part_one agg3 rfl) (part_one agg3 rfl) (eqA_int agk3) eqFs_nil))))) rfl ?_
      refine DrawG.sync ?_
      refine DrawG.nil ?_
      rcases btf (((c22.P == x25.P) && ((c22.Q == x25.Q) && true))) with hc26 | hc26
      · have h := bif_t hc26 h
        refine Run.condT' rfl hc26 ?_
        refine Run.seq (Run.region ?_)
        refine Run.opG wantS_none (ex_move rfl) rfl ?_
        refine Run.opG wantS_none (ex_assign rfl) rfl ?_
        refine Run.opsEnd ?_
        cases h
        exact Run.ret Tryz.func130 rfl (res_tmp rfl res_nil) rfl
      · have h := bif_f hc26 h
        refine Run.condF' rfl hc26 ?_
        refine Run.skip (Run.inBlock (Run.region ?_))
        refine Run.opG wantS_none (ex_add rfl rfl) rfl ?_
        refine Run.opG wantS_none (ex_move rfl) rfl ?_
        refine Run.opsEnd (Run.inLoop ?_)
        exact Run.pick [0, 3, 7, 8] (ih v0 v7 (w64 (v8 + (1 : Int))) c22 sv0 b22 _ _ _ hv0 hH h)
    · have h := bif_f hc24 h
      refine Run.condF' rfl hc24 ?_
      refine Run.exit rfl (Run.seq (Run.region ?_))
      refine Run.opG wantS_none (ex_assign rfl) rfl ?_
      refine Run.opsEnd ?_
      cases h
      exact Run.ret Tryz.func130 rfl (res_tmp rfl res_nil) rfl

def slices_Index (F : Nat) (a0 : (List S_api_Chirp)) (a1 : S_api_Chirp) : Option (Int) :=
  slices_Index_1 F F a0 (a0.length : Int) (0 : Int) a1

theorem slices_Index_ok (F : Nat) (a0 : (List S_api_Chirp)) (a1 : S_api_Chirp) (s0 : SV) (r : Int) (M : Mem) (hs0 : Slc (rd M) 2 (FlatR enc27) s0 a0) (h : slices_Index F a0 a1 = some r) : CallsM Tryz.prog 130 [s0, (.agg [(.int .i64 a1.P), (.int .i64 a1.Q)])] M (fun s M' => s = (.int .i64 r) ∧ M' = M) := by
  refine CallsM.plain Tryz.func130 rfl rfl rfl (show Run _ _ _ (slices_Index_post r) _ _ _ from ?_)
  rw [slices_Index] at h
  replace hs0 := hs0.mono (rdLe_frozen M) (fun _ _ h => h)
  have hH := Has.nil (frozen M)
  refine Run.seq (Run.region ?_)
  refine Run.opX wantS_none rfl (ExG.box rfl rfl hH) ?_
  rintro _ M23 ⟨b22, rfl, hH23⟩
  refine Run.opG wantS_none (ex_assign rfl) rfl ?_
  refine Run.opsEnd (Run.seq (Run.seq (Run.region ?_)))
  refine Run.opG wantS_none (ex_move rfl) rfl ?_
  refine Run.opG wantS_none (ex_len' rfl hs0 lenk43) rfl ?_
  refine Run.opG wantS_none (ex_move rfl) rfl ?_
  refine Run.opsEnd (Run.block (Run.loop ?_))
  exact Run.pick [0, 3, 7, 8] (slices_Index_1_ok F F a0 (a0.length : Int) (0 : Int) a1 s0 b22 _ _ _ hs0 hH23 h)

theorem mkk130 : makeK Tryz.prog 130 = none := by kernel_rfl
theorem cal130 : callable Tryz.prog 130 = true := by kernel_rfl
abbrev slices_Contains_post (r : Bool) : SV → Mem → Prop := fun s _ => s = (.bool r)

def slices_Contains (F : Nat) (a0 : (List S_api_Chirp)) (a1 : S_api_Chirp) : Option (Bool) :=
  bnd (slices_Index F a0 a1) fun r25 =>
  some (decide ((0 : Int) ≤ r25))

theorem slices_Contains_ok (F : Nat) (a0 : (List S_api_Chirp)) (a1 : S_api_Chirp) (s0 : SV) (r : Bool) (M : Mem) (hs0 : Slc (rd M) 2 (FlatR enc27) s0 a0) (h : slices_Contains F a0 a1 = some r) : CallsM Tryz.prog 87 [s0, (.agg [(.int .i64 a1.P), (.int .i64 a1.Q)])] M (fun s M' => s = (.bool r) ∧ M' = M) := by
  refine CallsM.plain Tryz.func87 rfl rfl rfl (show Run _ _ _ (slices_Contains_post r) _ _ _ from ?_)
  rw [slices_Contains] at h
  replace hs0 := hs0.mono (rdLe_frozen M) (fun _ _ h => h)
  have hH := Has.nil (frozen M)
  refine Run.seq (Run.region ?_)
  refine Run.opX wantS_none rfl (ExG.box rfl rfl hH) ?_
  rintro _ M23 ⟨b22, rfl, hH23⟩
  refine Run.opG wantS_none (ex_assign rfl) rfl ?_
  refine Run.opsEnd (Run.seq (Run.region ?_))
  refine Run.opG wantS_none (ex_move rfl) rfl ?_
  refine Run.opG wantS_none (ex_loadA rfl (hH23.cells (i := 0) rfl 0 rfl) rdLe_rfl agg27 rfl rfl rfl) rfl ?_
  obtain ⟨r25, hr25, h⟩ := bnd_some h
  refine Run.callP wantS_none (ex_call rfl mkk130 cal130) rfl (slices_Index_ok F a0 a1 s0 _ _ (hH23.slcF hs0) hr25) ?_
  refine Run.opG wantS_none (ex_geq rfl rfl) rfl ?_
  refine Run.opG wantS_none (ex_assign rfl) rfl ?_
  refine Run.opsEnd ?_
  cases h
  exact Run.ret Tryz.func87 rfl (res_tmp rfl res_nil) rfl

theorem mkk87 : makeK Tryz.prog 87 = none := by kernel_rfl
theorem cal87 : callable Tryz.prog 87 = true := by kernel_rfl
theorem plan37_1_1_0_1_0_0_1_1_0_0_1_0 : planOf Tryz.prog (opsC (atC Tryz.prog 37 [1, 1, 0, 1, 0, 0, 1, 1, 0, 0, 1, 0])) = some [.fl 0, .an 1 [], .fl 2, .fl 3, .fl 4, .fl 5, .an 6 [], .an 7 [], .fl 8, .fl 9, .fl 10, .fl 11, .fl 12, .fl 13, .an 14 [], .fl 15, .sync] := by kernel_rfl
abbrev bank_isBank_post (r : Bool) : SV → Mem → Prop := fun s _ => s = (.bool r)

def bank_isBank_2 (F : Nat) (hd1 : Int → (List S_api_Chirp) → (List S_api_Chirp) → Int → Int → Option (Bool)) (v0 : Int) (v1 v10 : (List S_api_Chirp)) (v11 v12 : Int) (v32 : Bool) : Option (Bool) :=
  bif v32 then
    some false
  else
    hd1 v0 v1 v10 v11 (w64 (v12 + (1 : Int)))

theorem bank_isBank_2_ok (F : Nat) (hd1 : Int → (List S_api_Chirp) → (List S_api_Chirp) → Int → Int → Option (Bool)) (hhd1 : ∀ (v0 : Int) (v1 v10 : (List S_api_Chirp)) (v11 v12 : Int) (sv1 sv10 : SV) (Fr : Rd) (M : Mem) (r : Bool) (hv1 : Slc Fr 2 (FlatR enc27) sv1 v1) (hv10 : Slc Fr 2 (FlatR enc27) sv10 v10) (hH : Has Fr M [tb0, tb1, tb2, tb3]), hd1 v0 v1 v10 v11 v12 = some r → Run Tryz.prog ⟨⟨37, [], none⟩, []⟩ 34 (bank_isBank_post r) [(0, (.int .i64 v0)), (1, sv1), (10, sv10), (11, (.int .i64 v11)), (12, (.int .i64 v12))] [codeC Tryz.prog 37 [1, 1, 0, 1, 0, 0], loopC Tryz.prog 37 [1, 1, 0, 1, 0, 0], .inBlock 0, codeC Tryz.prog 37 [1, 1, 1]] M) : ∀ (v0 : Int) (v1 v10 : (List S_api_Chirp)) (v11 v12 : Int) (v32 : Bool) (sv1 sv10 : SV) (Fr : Rd) (M : Mem) (r : Bool) (hv1 : Slc Fr 2 (FlatR enc27) sv1 v1) (hv10 : Slc Fr 2 (FlatR enc27) sv10 v10) (hH : Has Fr M [tb0, tb1, tb2, tb3]), bank_isBank_2 F hd1 v0 v1 v10 v11 v12 v32 = some r → Run Tryz.prog ⟨⟨37, [], none⟩, []⟩ 34 (bank_isBank_post r) [(0, (.int .i64 v0)), (1, sv1), (10, sv10), (11, (.int .i64 v11)), (12, (.int .i64 v12)), (32, (.bool v32))] [codeC Tryz.prog 37 [1, 1, 0, 1, 0, 0, 1, 1, 0, 0, 1, 1], .inBlock 1, codeC Tryz.prog 37 [1, 1, 0, 1, 0, 0, 1, 1, 1], loopC Tryz.prog 37 [1, 1, 0, 1, 0, 0], .inBlock 0, codeC Tryz.prog 37 [1, 1, 1]] M := by
  intro v0 v1 v10 v11 v12 v32 sv1 sv10 Fr M r hv1 hv10 hH h
  rw [bank_isBank_2] at h
  rcases btf (v32) with hc36 | hc36
  · have h := bif_t hc36 h
    refine Run.condT' rfl hc36 ?_
    refine Run.seq (Run.region ?_)
    refine Run.opG wantS_none (ex_assign rfl) rfl ?_
    refine Run.opsEnd ?_
    cases h
    exact Run.ret Tryz.func37 rfl (res_tmp rfl res_nil) rfl
  · have h := bif_f hc36 h
    refine Run.condF' rfl hc36 ?_
    refine Run.skip (Run.inBlock (Run.region ?_))
    refine Run.opG wantS_none (ex_add rfl rfl) rfl ?_
    refine Run.opG wantS_none (ex_move rfl) rfl ?_
    refine Run.opsEnd (Run.inLoop ?_)
    exact Run.pick [0, 1, 10, 11, 12] (hhd1 v0 v1 v10 v11 (w64 (v12 + (1 : Int))) sv1 sv10 _ _ _ hv1 hv10 hH h)

def bank_isBank_1 (F : Nat) : Nat → Int → (List S_api_Chirp) → (List S_api_Chirp) → Int → Int → Option (Bool)
  | 0, _, _, _, _, _ => none
  | N + 1, v0, v1, v10, v11, v12 =>
    bif (decide (v12 < v11)) then
      bnd (idx v10 v12) fun x28 =>
      bnd (bank_isChirp F x28) fun r33 =>
      bif (!r33) then
        bank_isBank_2 F (bank_isBank_1 F N) v0 v1 v10 v11 v12 true
      else
        bnd (bank_waveOf_h1 F v0 x28) fun r37 =>
        bnd (bank_wave_isSilent F r37) fun r40 =>
        bif r40 then
          bank_isBank_2 F (bank_isBank_1 F N) v0 v1 v10 v11 v12 true
        else
          bnd (sub v1 0 v12) fun l43 =>
          bnd (slices_Contains F l43 x28) fun r44 =>
          bank_isBank_2 F (bank_isBank_1 F N) v0 v1 v10 v11 v12 r44
    else
      some true

theorem bank_isBank_1_ok (F : Nat) : ∀ (N : Nat), ∀ (v0 : Int) (v1 v10 : (List S_api_Chirp)) (v11 v12 : Int) (sv1 sv10 : SV) (Fr : Rd) (M : Mem) (r : Bool) (hv1 : Slc Fr 2 (FlatR enc27) sv1 v1) (hv10 : Slc Fr 2 (FlatR enc27) sv10 v10) (hH : Has Fr M [tb0, tb1, tb2, tb3]), bank_isBank_1 F N v0 v1 v10 v11 v12 = some r → Run Tryz.prog ⟨⟨37, [], none⟩, []⟩ 34 (bank_isBank_post r) [(0, (.int .i64 v0)), (1, sv1), (10, sv10), (11, (.int .i64 v11)), (12, (.int .i64 v12))] [codeC Tryz.prog 37 [1, 1, 0, 1, 0, 0], loopC Tryz.prog 37 [1, 1, 0, 1, 0, 0], .inBlock 0, codeC Tryz.prog 37 [1, 1, 1]] M := by
  intro N
  induction N with
  | zero =>
    intro v0 v1 v10 v11 v12 sv1 sv10 Fr M r hv1 hv10 hH h
    simp [bank_isBank_1] at h
  | succ N ih =>
    intro v0 v1 v10 v11 v12 sv1 sv10 Fr M r hv1 hv10 hH h
    rw [bank_isBank_1] at h
    refine Run.seq (Run.region ?_)
    refine Run.opG wantS_none (ex_lss rfl rfl) rfl ?_
    refine Run.opsEnd (Run.seq ?_)
    rcases btf ((decide (v12 < v11))) with hc26 | hc26
    · have h := bif_t hc26 h
      refine Run.condT' rfl hc26 ?_
      refine Run.skip (Run.seq (Run.block (Run.seq (Run.region ?_))))
      refine Run.opG wantS_none (ex_move rfl) rfl ?_
      obtain ⟨x28, hx28, h⟩ := bnd_some h
      obtain ⟨p28, o28, _, hx28, hp28, rfl⟩ := sl_elem (P := Tryz.prog) (t := 43) (kk := .i64) hv10 hx28 els43
      refine Run.opG wantS_none (ex_elX rfl rfl hx28) rfl ?_
      refine Run.opG wantS_none (ex_loadA rfl (hH.ptrF hp28) rdLe_rfl agg27 rfl rfl rfl) rfl ?_
      refine Run.opX wantS_none rfl (ExG.new (v := fun b => .ptr b 0) (ex_alloc zer27) hH) ?_
      rintro _ M31 ⟨b30, rfl, hH31⟩
      refine Run.opG wantS_none (ex_assign rfl) rfl ?_
      refine Run.opX wantS_none rfl (ExG.storeC (c' := [(.int .i64 x28.P), (.int .i64 x28.Q)]) rfl rfl rfl hH31 (i := 0) rfl sz27 rfl rfl rfl rfl rfl) ?_
      rintro _ M32 ⟨rfl, (hH32 : Has Fr M32 [.obj b30 (.row 27 .whole [(.int .i64 x28.P), (.int .i64 x28.Q)]), tb0, tb1, tb2, tb3])⟩
      refine Run.opsEnd (Run.seq ?_)
      refine Run.drawG plan37_1_1_0_1_0_0_1_1_0_0_1_0 ?_
      refine DrawG.fl rfl (ev_ex wantS_none (ex_loadA rfl (hH32.cells (i := 0) rfl 0 rfl) rdLe_rfl agg27 rfl rfl rfl)) rfl ?_
      obtain ⟨r33, hr33, h⟩ := bnd_some h
      refine DrawG.callP rfl wantS_none (ex_call rfl mkk71 cal71) rfl (bank_isChirp_ok F x28 _ _ hr33) st_nil ?_
      refine DrawG.fl rfl (ev_ex wantS_none (ex_not rfl)) rfl ?_
      refine DrawG.fl rfl (ev_ex wantS_none (ex_move rfl)) rfl ?_
      rcases btf ((!r33)) with hc35 | hc35
      · have h := bif_t hc35 h
        refine DrawG.fl rfl (ev_no (wantS_not' rfl rfl hc35)) rfl ?_
        refine DrawG.fl rfl (ev_no (wantS_not' rfl rfl hc35)) rfl ?_
        refine DrawG.no rfl (wantS_not' rfl rfl hc35) rfl st_nil ?_
        refine DrawG.no rfl (wantS_not' rfl rfl hc35) rfl st_nil ?_
        refine DrawG.fl rfl (ev_ex wantS_none (ex_pickT' rfl hc35 rfl rfl)) rfl ?_
        refine DrawG.fl rfl (ev_ex wantS_none (ex_move rfl)) rfl ?_
        refine DrawG.fl rfl (ev_no (wantS_not' rfl rfl rfl)) rfl ?_
        refine DrawG.fl rfl (ev_no (wantS_not' rfl rfl rfl)) rfl ?_
        refine DrawG.fl rfl (ev_no (wantS_not' rfl rfl rfl)) rfl ?_
        refine DrawG.fl rfl (ev_no (wantS_not' rfl rfl rfl)) rfl ?_
        refine DrawG.no rfl (wantS_not' rfl rfl rfl) rfl st_nil ?_
        refine DrawG.fl rfl (ev_ex wantS_none (ex_pickT' rfl rfl rfl rfl)) rfl ?_
        refine DrawG.sync ?_
        refine DrawG.nil ?_
        exact Run.pick [0, 1, 10, 11, 12, 32] (bank_isBank_2_ok F (bank_isBank_1 F N) ih v0 v1 v10 v11 v12 true sv1 sv10 _ _ _ hv1 hv10 (hH32.pick [1, 2, 3, 4] rfl rfl) h)
      · have h := bif_f hc35 h
        refine DrawG.fl rfl (ev_ex (wantS_yes' rfl rfl hc35) (ex_move rfl)) rfl ?_
        refine DrawG.fl rfl (ev_ex (wantS_yes' rfl rfl hc35) (ex_loadA rfl (hH32.cells (i := 0) rfl 0 rfl) rdLe_rfl agg27 rfl rfl rfl)) rfl ?_
        obtain ⟨r37, hr37, h⟩ := bnd_some h
        refine DrawG.call rfl (wantS_yes' rfl rfl hc35) (ex_call rfl mkk26 cal26) rfl (bank_waveOf_h1_ok F v0 x28 Fr [.obj b30 (.row 27 .whole [(.int .i64 x28.P), (.int .i64 x28.Q)])] _ _ (hH32.pick [1, 2, 3, 4, 0] rfl rfl) hr37) ?_
        rintro _ M39 ⟨s37_0, rfl, (hH39 : Has Fr M39 [.obj s37_0 (.row 105 .whole (r37.flatMap enc3)), tb0, tb1, tb2, tb3, .obj b30 (.row 27 .whole [(.int .i64 x28.P), (.int .i64 x28.Q)])])⟩
        refine ⟨st_nil, ?_⟩
        obtain ⟨r40, hr40, h⟩ := bnd_some h
        refine DrawG.callP rfl (wantS_yes' rfl rfl hc35) (ex_call rfl mkk75 cal75) rfl (bank_wave_isSilent_ok F r37 (.ptr s37_0 0) _ _ (hH39.ropO (i := 0) rfl) hr40) st_nil ?_
        refine DrawG.fl rfl (ev_ex wantS_none (ex_pickF' rfl hc35 rfl rfl)) rfl ?_
        refine DrawG.fl rfl (ev_ex wantS_none (ex_move rfl)) rfl ?_
        rcases btf (r40) with hc42 | hc42
        · have h := bif_t hc42 h
          refine DrawG.fl rfl (ev_no (wantS_not' rfl rfl hc42)) rfl ?_
          refine DrawG.fl rfl (ev_no (wantS_not' rfl rfl hc42)) rfl ?_
          refine DrawG.fl rfl (ev_no (wantS_not' rfl rfl hc42)) rfl ?_
          refine DrawG.fl rfl (ev_no (wantS_not' rfl rfl hc42)) rfl ?_
          refine DrawG.no rfl (wantS_not' rfl rfl hc42) rfl st_nil ?_
          refine DrawG.fl rfl (ev_ex wantS_none (ex_pickT' rfl hc42 rfl rfl)) rfl ?_
          refine DrawG.sync ?_
          refine DrawG.nil ?_
          exact Run.pick [0, 1, 10, 11, 12, 32] (bank_isBank_2_ok F (bank_isBank_1 F N) ih v0 v1 v10 v11 v12 true sv1 sv10 _ _ _ hv1 hv10 (hH39.pick [1, 2, 3, 4] rfl rfl) h)
        · have h := bif_f hc42 h
          refine DrawG.fl rfl (ev_ex (wantS_yes' rfl rfl hc42) (ex_move rfl)) rfl ?_
          refine DrawG.fl rfl (ev_ex (wantS_yes' rfl rfl hc42) (ex_move rfl)) rfl ?_
          obtain ⟨l43, hl43, h⟩ := bnd_some h
          obtain ⟨s43, hx43, hs43⟩ := sl_subH (P := Tryz.prog) (t := 43) (k0 := .i64) hv1 hl43 slk43
          refine DrawG.fl rfl (ev_ex (wantS_yes' rfl rfl hc42) (ex_slX rfl (argO_none) (argO_some rfl) hx43)) rfl ?_
          refine DrawG.fl rfl (ev_ex (wantS_yes' rfl rfl hc42) (ex_loadA rfl (hH39.cells (i := 5) rfl 0 rfl) rdLe_rfl agg27 rfl rfl rfl)) rfl ?_
          obtain ⟨r44, hr44, h⟩ := bnd_some h
          refine DrawG.callP rfl (wantS_yes' rfl rfl hc42) (ex_call rfl mkk87 cal87) rfl (slices_Contains_ok F l43 x28 s43 _ _ (hH39.slcF hs43) hr44) st_nil ?_
          refine DrawG.fl rfl (ev_ex wantS_none (ex_pickF' rfl hc42 rfl rfl)) rfl ?_
          refine DrawG.sync ?_
          refine DrawG.nil ?_
          exact Run.pick [0, 1, 10, 11, 12, 32] (bank_isBank_2_ok F (bank_isBank_1 F N) ih v0 v1 v10 v11 v12 r44 sv1 sv10 _ _ _ hv1 hv10 (hH39.pick [1, 2, 3, 4] rfl rfl) h)
    · have h := bif_f hc26 h
      refine Run.condF' rfl hc26 ?_
      refine Run.exit rfl (Run.seq (Run.region ?_))
      refine Run.opG wantS_none (ex_assign rfl) rfl ?_
      refine Run.opsEnd ?_
      cases h
      exact Run.ret Tryz.func37 rfl (res_tmp rfl res_nil) rfl

def bank_isBank (F : Nat) (a0 : Int) (a1 : (List S_api_Chirp)) : Option (Bool) :=
  bif (decide ((64 : Int) < (a1.length : Int))) then
    some false
  else
    bank_isBank_1 F F a0 a1 a1 (a1.length : Int) (0 : Int)

theorem bank_isBank_ok (F : Nat) (a0 : Int) (a1 : (List S_api_Chirp)) (s0 : SV) (r : Bool) (M : Mem) (hs0 : Slc (rd M) 2 (FlatR enc27) s0 a1) (hfx : FixIn M fixes) (h : bank_isBank F a0 a1 = some r) : CallsM Tryz.prog 37 [(.int .i64 a0), s0] M (fun s M' => s = (.bool r) ∧ M' = M) := by
  refine CallsM.plain Tryz.func37 rfl rfl rfl (show Run _ _ _ (bank_isBank_post r) _ _ _ from ?_)
  rw [bank_isBank] at h
  replace hs0 := hs0.mono (rdLe_frozen M) (fun _ _ h => h)
  have hH : Has (ro (frozen M)) (frozen M) [tb0, tb1, tb2, tb3] := Has.ofFix hfx.frozen
  refine Run.seq (Run.region ?_)
  refine Run.opG wantS_none (ex_assign rfl) rfl ?_
  refine Run.opsEnd (Run.seq (Run.seq (Run.region ?_)))
  refine Run.opG wantS_none (ex_move rfl) rfl ?_
  refine Run.opG wantS_none (ex_len' rfl hs0 lenk43) rfl ?_
  refine Run.opG wantS_none (ex_gtr rfl rfl) rfl ?_
  refine Run.opsEnd ?_
  rcases btf ((decide ((64 : Int) < (a1.length : Int)))) with hc25 | hc25
  · have h := bif_t hc25 h
    refine Run.condT' rfl hc25 ?_
    refine Run.seq (Run.region ?_)
    refine Run.opG wantS_none (ex_assign rfl) rfl ?_
    refine Run.opsEnd ?_
    cases h
    exact Run.ret Tryz.func37 rfl (res_tmp rfl res_nil) rfl
  · have h := bif_f hc25 h
    refine Run.condF' rfl hc25 ?_
    refine Run.skip (Run.seq (Run.seq (Run.region ?_)))
    refine Run.opG wantS_none (ex_move rfl) rfl ?_
    refine Run.opG wantS_none (ex_len' rfl hs0 lenk43) rfl ?_
    refine Run.opG wantS_none (ex_move rfl) rfl ?_
    refine Run.opsEnd (Run.block (Run.loop ?_))
    exact Run.pick [0, 1, 10, 11, 12] (bank_isBank_1_ok F F a0 a1 a1 (a1.length : Int) (0 : Int) s0 s0 _ _ _ hs0 hs0 hH h)

theorem mkk37 : makeK Tryz.prog 37 = none := by kernel_rfl
theorem cal37 : callable Tryz.prog 37 = true := by kernel_rfl
abbrev bank_CheckBank_post (r : Int) : SV → Mem → Prop := fun s _ => s = (.int .i64 r)

def bank_CheckBank (F : Nat) (a0 : Int) (a1 : (List S_api_Chirp)) : Option (Int) :=
  bnd (bank_isLength F a0) fun r26 =>
  bif (!r26) then
    some (70 : Int)
  else
    bnd (bank_isBank F a0 a1) fun r30 =>
    bif (!r30) then
      some (72 : Int)
    else
      some (0 : Int)

theorem bank_CheckBank_ok (F : Nat) (a0 : Int) (a1 : (List S_api_Chirp)) (s0 : SV) (r : Int) (M : Mem) (hs0 : Slc (rd M) 2 (FlatR enc27) s0 a1) (hfx : FixIn M fixes) (h : bank_CheckBank F a0 a1 = some r) : CallsM Tryz.prog 13 [(.int .i64 a0), s0] M (fun s M' => s = (.int .i64 r) ∧ M' = M) := by
  refine CallsM.plain Tryz.func13 rfl rfl rfl (show Run _ _ _ (bank_CheckBank_post r) _ _ _ from ?_)
  rw [bank_CheckBank] at h
  replace hs0 := hs0.mono (rdLe_frozen M) (fun _ _ h => h)
  have hH : Has (ro (frozen M)) (frozen M) [tb0, tb1, tb2, tb3] := Has.ofFix hfx.frozen
  refine Run.seq (Run.region ?_)
  refine Run.opG wantS_none (ex_assign rfl) rfl ?_
  refine Run.opsEnd (Run.seq (Run.block (Run.seq (Run.region ?_))))
  refine Run.opG wantS_none (ex_move rfl) rfl ?_
  obtain ⟨r26, hr26, h⟩ := bnd_some h
  refine Run.callP wantS_none (ex_call rfl mkk36 cal36) rfl (bank_isLength_ok F a0 _ _ hr26) ?_
  refine Run.opG wantS_none (ex_not rfl) rfl ?_
  refine Run.opG wantS_none (ex_assign rfl) rfl ?_
  refine Run.opsEnd ?_
  rcases btf ((!r26)) with hc28 | hc28
  · have h := bif_t hc28 h
    refine Run.condT' rfl hc28 ?_
    refine Run.seq (Run.region ?_)
    refine Run.opG wantS_none (ex_assign rfl) rfl ?_
    refine Run.opsEnd ?_
    cases h
    exact Run.ret Tryz.func13 rfl (res_tmp rfl res_nil) rfl
  · have h := bif_f hc28 h
    refine Run.condF' rfl hc28 ?_
    refine Run.seq (Run.region ?_)
    refine Run.opG wantS_none (ex_move rfl) rfl ?_
    refine Run.opG wantS_none (ex_move rfl) rfl ?_
    obtain ⟨r30, hr30, h⟩ := bnd_some h
    refine Run.callP wantS_none (ex_call rfl mkk37 cal37) rfl (bank_isBank_ok F a0 a1 s0 _ _ (hH.slcF hs0) (fixH hH (List.mem_of_getElem? (i := 0) rfl) (List.mem_of_getElem? (i := 1) rfl) (List.mem_of_getElem? (i := 2) rfl) (List.mem_of_getElem? (i := 3) rfl)) hr30) ?_
    refine Run.opG wantS_none (ex_not rfl) rfl ?_
    refine Run.opG wantS_none (ex_assign rfl) rfl ?_
    refine Run.opsEnd ?_
    rcases btf ((!r30)) with hc32 | hc32
    · have h := bif_t hc32 h
      refine Run.condT' rfl hc32 ?_
      refine Run.seq (Run.region ?_)
      refine Run.opG wantS_none (ex_assign rfl) rfl ?_
      refine Run.opsEnd ?_
      cases h
      exact Run.ret Tryz.func13 rfl (res_tmp rfl res_nil) rfl
    · have h := bif_f hc32 h
      refine Run.condF' rfl hc32 ?_
      refine Run.skip (Run.inBlock (Run.seq (Run.region ?_)))
      refine Run.opG wantS_none (ex_assign rfl) rfl ?_
      refine Run.opsEnd ?_
      cases h
      exact Run.ret Tryz.func13 rfl (res_tmp rfl res_nil) rfl

theorem mkk13 : makeK Tryz.prog 13 = none := by kernel_rfl
theorem cal13 : callable Tryz.prog 13 = true := by kernel_rfl
theorem mkk84 : makeK Tryz.prog 84 = none := by kernel_rfl
theorem cal84 : callable Tryz.prog 84 = true := by kernel_rfl
theorem mkk129 : makeK Tryz.prog 129 = none := by kernel_rfl
theorem cal129 : callable Tryz.prog 129 = true := by kernel_rfl
theorem mkk83 : makeK Tryz.prog 83 = none := by kernel_rfl
theorem cal83 : callable Tryz.prog 83 = true := by kernel_rfl
abbrev bank_areData_f1_post (r : Bool) : SV → Mem → Prop := fun s _ => s = (.bool r)

def bank_areData_f1 (F : Nat) (a0 : Int) : Option (Bool) :=
  bnd (bank_isFrom F ((-32768) : Int) a0 (32768 : Int)) fun r22 =>
  some (!r22)

theorem bank_areData_f1_ok (F : Nat) (a0 : Int) (r : Bool) (M : Mem) (h : bank_areData_f1 F a0 = some r) : CallsM Tryz.prog 83 [(.int .i64 a0)] M (fun s M' => s = (.bool r) ∧ M' = M) := by
  refine CallsM.plain Tryz.func83 rfl rfl rfl (show Run _ _ _ (bank_areData_f1_post r) _ _ _ from ?_)
  rw [bank_areData_f1] at h
  have hH := Has.nil (frozen M)
  refine Run.seq (Run.region ?_)
  refine Run.opG wantS_none (ex_assign rfl) rfl ?_
  refine Run.opsEnd (Run.seq (Run.region ?_))
  refine Run.opG wantS_none (ex_move rfl) rfl ?_
  obtain ⟨r22, hr22, h⟩ := bnd_some h
  refine Run.callP wantS_none (ex_call rfl mkk39 cal39) rfl (bank_isFrom_ok F ((-32768) : Int) a0 (32768 : Int) _ _ hr22) ?_
  refine Run.opG wantS_none (ex_not rfl) rfl ?_
  refine Run.opG wantS_none (ex_assign rfl) rfl ?_
  refine Run.opsEnd ?_
  cases h
  exact Run.ret Tryz.func83 rfl (res_tmp rfl res_nil) rfl

abbrev bank_areData_post (r : Bool) : SV → Mem → Prop := fun s _ => s = (.bool r)

def bank_areData_2 (F : Nat) (v12 : Bool) : Option (Bool) :=
  some v12

theorem bank_areData_2_ok (F : Nat) : ∀ (v12 : Bool) (Fr : Rd) (M : Mem) (r : Bool) (hH : Has Fr M []), bank_areData_2 F v12 = some r → Run Tryz.prog ⟨⟨34, [], none⟩, []⟩ 13 (bank_areData_post r) [(12, (.bool v12))] [itemC Tryz.prog 34 [1, 1, 0] 9, codeC Tryz.prog 34 [1, 1, 1]] M := by
  intro v12 Fr M r hH h
  rw [bank_areData_2] at h
  refine Run.opG wantS_none (ex_assign rfl) rfl ?_
  refine Run.opsEnd ?_
  cases h
  exact Run.ret Tryz.func34 rfl (res_tmp rfl res_nil) rfl

def bank_areData_1 (F : Nat) : Nat → (List Int) → Int → Int → Bool → Option (Bool)
  | 0, _, _, _, _ => none
  | N + 1, v0, v7, v8, v7_f2 =>
    bif (decide (v8 < v7)) then
      bnd (idx v0 v8) fun x24 =>
      bnd (bank_areData_f1 F x24) fun r26 =>
      bif r26 then
        bif v7_f2 then
          bank_areData_2 F (!(decide ((0 : Int) ≤ v8)))
        else
          bank_areData_2 F false
      else
        (bank_areData_1 F N) v0 v7 (w64 (v8 + (1 : Int))) v7_f2
    else
      bif v7_f2 then
        bank_areData_2 F (!(decide ((0 : Int) ≤ ((-1) : Int))))
      else
        bank_areData_2 F false

theorem bank_areData_1_ok (F : Nat) : ∀ (N : Nat), ∀ (v0 : (List Int)) (v7 v8 : Int) (v7_f2 : Bool) (sv0 : SV) (Fr : Rd) (M : Mem) (r : Bool) (hv0 : Slc Fr 1 (FlatR enc3) sv0 v0) (hH : Has Fr M []), bank_areData_1 F N v0 v7 v8 v7_f2 = some r → Run Tryz.prog ⟨⟨129, [], none⟩, [.mk ⟨84, [], none⟩ 9 (treeOf []) [itemC Tryz.prog 84 [1, 0] 2, codeC Tryz.prog 84 [1, 1]], .mk ⟨34, [], none⟩ 13 (treeOf [(7, (.bool v7_f2))]) [itemC Tryz.prog 34 [1, 1, 0] 6, codeC Tryz.prog 34 [1, 1, 1]]]⟩ 19 (bank_areData_post r) [(0, sv0), (1, (.fn (.func 83) [] [])), (7, (.int .i64 v7)), (8, (.int .i64 v8))] [codeC Tryz.prog 129 [1, 0, 1, 0, 0], loopC Tryz.prog 129 [1, 0, 1, 0, 0], .inBlock 0, codeC Tryz.prog 129 [1, 1]] M := by
  intro N
  induction N with
  | zero =>
    intro v0 v7 v8 v7_f2 sv0 Fr M r hv0 hH h
    simp [bank_areData_1] at h
  | succ N ih =>
    intro v0 v7 v8 v7_f2 sv0 Fr M r hv0 hH h
    rw [bank_areData_1] at h
    refine Run.seq (Run.region ?_)
    refine Run.opG wantS_none (ex_lss rfl rfl) rfl ?_
    refine Run.opsEnd (Run.seq ?_)
    rcases btf ((decide (v8 < v7))) with hc22 | hc22
    · have h := bif_t hc22 h
      refine Run.condT' rfl hc22 ?_
      refine Run.skip (Run.seq (Run.block (Run.seq (Run.region ?_))))
      refine Run.opG wantS_none (ex_move rfl) rfl ?_
      refine Run.opG wantS_none (ex_assign rfl) rfl ?_
      refine Run.opsEnd (Run.seq (Run.region ?_))
      refine Run.opG wantS_none (ex_move rfl) rfl ?_
      refine Run.opG wantS_none (ex_move rfl) rfl ?_
      refine Run.opG wantS_none (ex_move rfl) rfl ?_
      obtain ⟨x24, hx24, h⟩ := bnd_some h
      obtain ⟨p24, o24, _, hx24, hp24, rfl⟩ := sl_elem (P := Tryz.prog) (t := 25) (kk := .i64) hv0 hx24 els25
      refine Run.opG wantS_none (ex_elX rfl rfl hx24) rfl ?_
      refine Run.opG wantS_none (ex_load1 rfl (hH.ptrF hp24) rdLe_rfl agg3) rfl ?_
      obtain ⟨r26, hr26, h⟩ := bnd_some h
      refine Run.callP wantS_none (ex_closure rfl rfl mkk83 cal83) rfl (bank_areData_f1_ok F x24 _ _ hr26) ?_
      refine Run.opsEnd ?_
      rcases btf (r26) with hc28 | hc28
      · have h := bif_t hc28 h
        refine Run.condT' rfl hc28 ?_
        refine Run.seq (Run.region ?_)
        refine Run.opG wantS_none (ex_move rfl) rfl ?_
        refine Run.opG wantS_none (ex_assign rfl) rfl ?_
        refine Run.opsEnd ?_
        refine Run.retTo Tryz.func129 rfl (res_tmp rfl res_nil) rfl ?_
        refine Run.opG wantS_none (ex_geq rfl rfl) rfl ?_
        refine Run.opG wantS_none (ex_assign rfl) rfl ?_
        refine Run.opsEnd ?_
        refine Run.retTo Tryz.func84 rfl (res_tmp rfl res_nil) rfl ?_
        rcases btf (v7_f2) with hc29 | hc29
        · have h := bif_t hc29 h
          refine Run.opG (wantS_yes' rfl rfl hc29) (ex_not rfl) rfl ?_
          refine Run.opG wantS_none (ex_pickT' rfl hc29 rfl rfl) rfl ?_
          exact Run.pick [12] (bank_areData_2_ok F (!(decide ((0 : Int) ≤ v8))) _ _ _ hH h)
        · have h := bif_f hc29 h
          refine Run.no (wantS_not' rfl rfl hc29) rfl ?_
          refine Run.opG wantS_none (ex_pickF' rfl hc29 rfl rfl) rfl ?_
          exact Run.pick [12] (bank_areData_2_ok F false _ _ _ hH h)
      · have h := bif_f hc28 h
        refine Run.condF' rfl hc28 ?_
        refine Run.skip (Run.inBlock (Run.region ?_))
        refine Run.opG wantS_none (ex_add rfl rfl) rfl ?_
        refine Run.opG wantS_none (ex_move rfl) rfl ?_
        refine Run.opsEnd (Run.inLoop ?_)
        exact Run.low (.cons (fle_pick [] rfl) (.cons (fle_pick [7] rfl) .nil)) (Run.pick [0, 1, 7, 8] (ih v0 v7 (w64 (v8 + (1 : Int))) v7_f2 sv0 _ _ _ hv0 hH h))
    · have h := bif_f hc22 h
      refine Run.condF' rfl hc22 ?_
      refine Run.exit rfl (Run.seq (Run.region ?_))
      refine Run.opG wantS_none (ex_assign rfl) rfl ?_
      refine Run.opsEnd ?_
      refine Run.retTo Tryz.func129 rfl (res_tmp rfl res_nil) rfl ?_
      refine Run.opG wantS_none (ex_geq rfl rfl) rfl ?_
      refine Run.opG wantS_none (ex_assign rfl) rfl ?_
      refine Run.opsEnd ?_
      refine Run.retTo Tryz.func84 rfl (res_tmp rfl res_nil) rfl ?_
      rcases btf (v7_f2) with hc30 | hc30
      · have h := bif_t hc30 h
        refine Run.opG (wantS_yes' rfl rfl hc30) (ex_not rfl) rfl ?_
        refine Run.opG wantS_none (ex_pickT' rfl hc30 rfl rfl) rfl ?_
        exact Run.pick [12] (bank_areData_2_ok F (!(decide ((0 : Int) ≤ ((-1) : Int)))) _ _ _ hH h)
      · have h := bif_f hc30 h
        refine Run.no (wantS_not' rfl rfl hc30) rfl ?_
        refine Run.opG wantS_none (ex_pickF' rfl hc30 rfl rfl) rfl ?_
        exact Run.pick [12] (bank_areData_2_ok F false _ _ _ hH h)

def bank_areData (F : Nat) (a0 : (List Int)) : Option (Bool) :=
  bif (decide ((a0.length : Int) ≤ (512 : Int))) then
    bank_areData_1 F F a0 (a0.length : Int) (0 : Int) (decide ((a0.length : Int) ≤ (512 : Int)))
  else
    bank_areData_2 F false

theorem bank_areData_ok (F : Nat) (a0 : (List Int)) (s0 : SV) (r : Bool) (M : Mem) (hs0 : Slc (rd M) 1 (FlatR enc3) s0 a0) (h : bank_areData F a0 = some r) : CallsM Tryz.prog 34 [s0] M (fun s M' => s = (.bool r) ∧ M' = M) := by
  refine CallsM.plain Tryz.func34 rfl rfl rfl (show Run _ _ _ (bank_areData_post r) _ _ _ from ?_)
  rw [bank_areData] at h
  replace hs0 := hs0.mono (rdLe_frozen M) (fun _ _ h => h)
  have hH := Has.nil (frozen M)
  refine Run.seq (Run.region ?_)
  refine Run.opG wantS_none (ex_assign rfl) rfl ?_
  refine Run.opsEnd (Run.seq (Run.region ?_))
  refine Run.opG wantS_none (ex_assign rfl) rfl ?_
  refine Run.opsEnd (Run.seq (Run.region ?_))
  refine Run.opG wantS_none (ex_move rfl) rfl ?_
  refine Run.opG wantS_none (ex_len' rfl hs0 lenk25) rfl ?_
  refine Run.opG wantS_none (ex_leq rfl rfl) rfl ?_
  refine Run.opG wantS_none (ex_move rfl) rfl ?_
  rcases btf ((decide ((a0.length : Int) ≤ (512 : Int)))) with hc21 | hc21
  · have h := bif_t hc21 h
    refine Run.opG (wantS_yes' rfl rfl hc21) (ex_move rfl) rfl ?_
    refine Run.opG (wantS_yes' rfl rfl hc21) (ex_move rfl) rfl ?_
    refine Run.enter (wantS_yes' rfl rfl hc21) (ex_call rfl mkk84 cal84) Tryz.func84 rfl rfl ?_
    refine Run.seq (Run.region ?_)
    refine Run.opG wantS_none (ex_assign rfl) rfl ?_
    refine Run.opsEnd (Run.seq (Run.region ?_))
    refine Run.opG wantS_none (ex_move rfl) rfl ?_
    refine Run.opG wantS_none (ex_move rfl) rfl ?_
    refine Run.enter wantS_none (ex_call rfl mkk129 cal129) Tryz.func129 rfl rfl ?_
    refine Run.seq (Run.region ?_)
    refine Run.opG wantS_none (ex_assign rfl) rfl ?_
    refine Run.opsEnd (Run.seq (Run.seq (Run.region ?_)))
    refine Run.opG wantS_none (ex_move rfl) rfl ?_
    refine Run.opG wantS_none (ex_len' rfl hs0 lenk25) rfl ?_
    refine Run.opG wantS_none (ex_move rfl) rfl ?_
    refine Run.opsEnd (Run.block (Run.loop ?_))
    exact Run.low (.cons (fle_pick [] rfl) (.cons (fle_pick [7] rfl) .nil)) (Run.pick [0, 1, 7, 8] (bank_areData_1_ok F F a0 (a0.length : Int) (0 : Int) (decide ((a0.length : Int) ≤ (512 : Int))) s0 _ _ _ hs0 hH h))
  · have h := bif_f hc21 h
    refine Run.no (wantS_not' rfl rfl hc21) rfl ?_
    refine Run.no (wantS_not' rfl rfl hc21) rfl ?_
    refine Run.no (wantS_not' rfl rfl hc21) rfl ?_
    refine Run.no (wantS_not' rfl rfl hc21) rfl ?_
    refine Run.opG wantS_none (ex_pickF' rfl hc21 rfl rfl) rfl ?_
    exact Run.pick [12] (bank_areData_2_ok F false _ _ _ hH h)

theorem mkk34 : makeK Tryz.prog 34 = none := by kernel_rfl
theorem cal34 : callable Tryz.prog 34 = true := by kernel_rfl
abbrev bank_checkHits_post (r : Int) : SV → Mem → Prop := fun s _ => s = (.int .i64 r)

def bank_checkHits (F : Nat) (a0 : Int) (a1 : (List S_api_Chirp)) (a2 : (List Int)) (a3 a4 : Int) : Option (Int) :=
  bnd (bank_CheckBank F a0 a1) fun r26 =>
  bif (!(r26 == (0 : Int))) then
    some r26
  else
    bnd (bank_areData F a2) fun r30 =>
    bif (!r30) then
      some (73 : Int)
    else
      bnd (bank_areBounds F a3 a4) fun r34 =>
      bif (!r34) then
        some (8 : Int)
      else
        some (0 : Int)

theorem bank_checkHits_ok (F : Nat) (a0 : Int) (a1 : (List S_api_Chirp)) (a2 : (List Int)) (a3 a4 : Int) (s0 s1 : SV) (r : Int) (M : Mem) (hs0 : Slc (rd M) 2 (FlatR enc27) s0 a1) (hs1 : Slc (rd M) 1 (FlatR enc3) s1 a2) (hfx : FixIn M fixes) (h : bank_checkHits F a0 a1 a2 a3 a4 = some r) : CallsM Tryz.prog 43 [(.int .i64 a0), s0, s1, (.int .i64 a3), (.int .i64 a4)] M (fun s M' => s = (.int .i64 r) ∧ M' = M) := by
  refine CallsM.plain Tryz.func43 rfl rfl rfl (show Run _ _ _ (bank_checkHits_post r) _ _ _ from ?_)
  rw [bank_checkHits] at h
  replace hs0 := hs0.mono (rdLe_frozen M) (fun _ _ h => h)
  replace hs1 := hs1.mono (rdLe_frozen M) (fun _ _ h => h)
  have hH : Has (ro (frozen M)) (frozen M) [tb0, tb1, tb2, tb3] := Has.ofFix hfx.frozen
  refine Run.seq (Run.region ?_)
  refine Run.opG wantS_none (ex_assign rfl) rfl ?_
  refine Run.opsEnd (Run.seq (Run.seq (Run.region ?_)))
  refine Run.opG wantS_none (ex_move rfl) rfl ?_
  refine Run.opG wantS_none (ex_move rfl) rfl ?_
  obtain ⟨r26, hr26, h⟩ := bnd_some h
  refine Run.callP wantS_none (ex_call rfl mkk13 cal13) rfl (bank_CheckBank_ok F a0 a1 s0 _ _ (hH.slcF hs0) (fixH hH (List.mem_of_getElem? (i := 0) rfl) (List.mem_of_getElem? (i := 1) rfl) (List.mem_of_getElem? (i := 2) rfl) (List.mem_of_getElem? (i := 3) rfl)) hr26) ?_
  refine Run.opG wantS_none (ex_assign rfl) rfl ?_
  refine Run.opsEnd (Run.block (Run.seq (Run.region ?_)))
  refine Run.opG wantS_none (ex_move rfl) rfl ?_
  refine Run.opG wantS_none (ex_neq rfl rfl) rfl ?_
  refine Run.opG wantS_none (ex_assign rfl) rfl ?_
  refine Run.opsEnd ?_
  rcases btf ((!(r26 == (0 : Int)))) with hc28 | hc28
  · have h := bif_t hc28 h
    refine Run.condT' rfl hc28 ?_
    refine Run.seq (Run.region ?_)
    refine Run.opG wantS_none (ex_move rfl) rfl ?_
    refine Run.opG wantS_none (ex_assign rfl) rfl ?_
    refine Run.opsEnd ?_
    cases h
    exact Run.ret Tryz.func43 rfl (res_tmp rfl res_nil) rfl
  · have h := bif_f hc28 h
    refine Run.condF' rfl hc28 ?_
    refine Run.seq (Run.region ?_)
    refine Run.opG wantS_none (ex_move rfl) rfl ?_
    obtain ⟨r30, hr30, h⟩ := bnd_some h
    refine Run.callP wantS_none (ex_call rfl mkk34 cal34) rfl (bank_areData_ok F a2 s1 _ _ (hH.slcF hs1) hr30) ?_
    refine Run.opG wantS_none (ex_not rfl) rfl ?_
    refine Run.opG wantS_none (ex_assign rfl) rfl ?_
    refine Run.opsEnd ?_
    rcases btf ((!r30)) with hc32 | hc32
    · have h := bif_t hc32 h
      refine Run.condT' rfl hc32 ?_
      refine Run.seq (Run.region ?_)
      refine Run.opG wantS_none (ex_assign rfl) rfl ?_
      refine Run.opsEnd ?_
      cases h
      exact Run.ret Tryz.func43 rfl (res_tmp rfl res_nil) rfl
    · have h := bif_f hc32 h
      refine Run.condF' rfl hc32 ?_
      refine Run.seq (Run.region ?_)
      refine Run.opG wantS_none (ex_move rfl) rfl ?_
      refine Run.opG wantS_none (ex_move rfl) rfl ?_
      obtain ⟨r34, hr34, h⟩ := bnd_some h
      refine Run.callP wantS_none (ex_call rfl mkk40 cal40) rfl (bank_areBounds_ok F a3 a4 _ _ hr34) ?_
      refine Run.opG wantS_none (ex_not rfl) rfl ?_
      refine Run.opG wantS_none (ex_assign rfl) rfl ?_
      refine Run.opsEnd ?_
      rcases btf ((!r34)) with hc36 | hc36
      · have h := bif_t hc36 h
        refine Run.condT' rfl hc36 ?_
        refine Run.seq (Run.region ?_)
        refine Run.opG wantS_none (ex_assign rfl) rfl ?_
        refine Run.opsEnd ?_
        cases h
        exact Run.ret Tryz.func43 rfl (res_tmp rfl res_nil) rfl
      · have h := bif_f hc36 h
        refine Run.condF' rfl hc36 ?_
        refine Run.skip (Run.inBlock (Run.seq (Run.region ?_)))
        refine Run.opG wantS_none (ex_assign rfl) rfl ?_
        refine Run.opsEnd ?_
        cases h
        exact Run.ret Tryz.func43 rfl (res_tmp rfl res_nil) rfl

theorem mkk43 : makeK Tryz.prog 43 = none := by kernel_rfl
theorem cal43 : callable Tryz.prog 43 = true := by kernel_rfl
theorem mkk45 : makeK Tryz.prog 45 = none := by kernel_rfl
theorem cal45 : callable Tryz.prog 45 = true := by kernel_rfl
def rep72 (f : Rd) (cs : List SV) (a : (List Int)) : Prop := ∃ q1, cs = [q1] ∧ RopTo f q1 (a.flatMap enc3)
theorem rep72_mo {f g : Rd} (h : RdLe f g) {cs : List SV} {a : (List Int)} : rep72 f cs a → rep72 g cs a := by
  rintro ⟨q1, rfl, h0⟩
  exact ⟨q1, rfl, h0.mono h⟩
theorem rep72_len {f : Rd} {cs : List SV} {a : (List Int)} : rep72 f cs a → cs.length = 1 := by
  rintro ⟨_, rfl, h0⟩
  rfl
theorem rep72_ones {f : Rd} {cs : List SV} {a : (List Int)} : rep72 f cs a → ones cs = true := by
  rintro ⟨_, rfl, h0⟩
  exact (ones_cons (rop_one h0) ones_nil)
theorem elt99 : sliceElt Tryz.prog 99 = some (⟨1, 8, [.nilp], 72⟩ : Elt) := by kernel_rfl
theorem appt99_99 : appT Tryz.prog 99 99 = some (⟨1, 8, [.nilp], 72⟩ : Elt) := by kernel_rfl
theorem zer50 : zerosOf Tryz.prog 50 = some [.nils] := by kernel_rfl
theorem lenk99 : lenK Tryz.prog 99 = some .sl := by kernel_rfl
theorem els99 : elems Tryz.prog 99 = some (.sl 1) := by kernel_rfl
theorem zer3 : zerosOf Tryz.prog 3 = some [(.int .i64 0)] := by kernel_rfl
theorem zer72 : zerosOf Tryz.prog 72 = some [.nilp] := by kernel_rfl
theorem sz72 : szOf Tryz.prog 72 = some 1 := by kernel_rfl
theorem mkk35 : makeK Tryz.prog 35 = none := by kernel_rfl
theorem cal35 : callable Tryz.prog 35 = true := by kernel_rfl
theorem cal85 : callable Tryz.prog 85 = true := by kernel_rfl
abbrev bank_isTime_post (r : Bool) : SV → Mem → Prop := fun s _ => s = (.bool r)

def bank_isTime (F : Nat) (a0 : Int) (a1 : (List Int)) (a2 : Int) : Option (Bool) :=
  bnd (bank_isFrom F (0 : Int) a2 (w64 ((a1.length : Int) - a0))) fun r22 =>
  some r22

theorem bank_isTime_ok (F : Nat) (a0 : Int) (a1 : (List Int)) (a2 : Int) (s0 : SV) (r : Bool) (M : Mem) (hs0 : Slc (rd M) 1 (FlatR enc3) s0 a1) (h : bank_isTime F a0 a1 a2 = some r) : CallsM Tryz.prog 81 [(.int .i64 a0), s0, (.int .i64 a2)] M (fun s M' => s = (.bool r) ∧ M' = M) := by
  refine CallsM.plain Tryz.func81 rfl rfl rfl (show Run _ _ _ (bank_isTime_post r) _ _ _ from ?_)
  rw [bank_isTime] at h
  replace hs0 := hs0.mono (rdLe_frozen M) (fun _ _ h => h)
  have hH := Has.nil (frozen M)
  refine Run.seq (Run.region ?_)
  refine Run.opG wantS_none (ex_assign rfl) rfl ?_
  refine Run.opsEnd (Run.seq (Run.region ?_))
  refine Run.opG wantS_none (ex_move rfl) rfl ?_
  refine Run.opG wantS_none (ex_move rfl) rfl ?_
  refine Run.opG wantS_none (ex_len' rfl hs0 lenk25) rfl ?_
  refine Run.opG wantS_none (ex_move rfl) rfl ?_
  refine Run.opG wantS_none (ex_sub rfl rfl) rfl ?_
  obtain ⟨r22, hr22, h⟩ := bnd_some h
  refine Run.callP wantS_none (ex_call rfl mkk39 cal39) rfl (bank_isFrom_ok F (0 : Int) a2 (w64 ((a1.length : Int) - a0)) _ _ hr22) ?_
  refine Run.opG wantS_none (ex_assign rfl) rfl ?_
  refine Run.opsEnd ?_
  cases h
  exact Run.ret Tryz.func81 rfl (res_tmp rfl res_nil) rfl

theorem mkk81 : makeK Tryz.prog 81 = none := by kernel_rfl
theorem cal81 : callable Tryz.prog 81 = true := by kernel_rfl
abbrev bank_wave_samples_h1_post (e_v0 : (List Int)) (se_v0 : SV) (Fr0 : Rd) (Hr : List Ent) (r : (List Int)) : SV → Mem → Prop := fun s Me => ∃ q1, s = q1 ∧ ∃ F9 : Rd, RdLe Fr0 F9 ∧ Slc F9 1 (FlatR enc3) q1 r ∧ Has F9 Me (([] : List Ent) ++ Hr)

def bank_wave_samples_h1 (F : Nat) (e_v0 : (List Int)) : Option ((List Int)) :=
  bnd (e_v0[(64 : Nat)]?) fun x23 =>
  bnd (subP 64 0 x23) fun r24 =>
  bnd (parL e_v0 (0 + r24.1) r24.2) fun l24 =>
  some l24

theorem bank_wave_samples_h1_ok (F : Nat) : ∀ (e_v0 : (List Int)) (se_v0 : SV) (Fr0 : Rd) (Hr : List Ent) (M : Mem) (r : (List Int)) (he_v0 : RopTo Fr0 se_v0 (e_v0.flatMap enc3)) (hH : Has Fr0 M (([] : List Ent) ++ Hr)) (h : bank_wave_samples_h1 F e_v0 = some r), CallsM Tryz.prog 27 [se_v0] M (bank_wave_samples_h1_post e_v0 se_v0 Fr0 Hr r) := by
  intro e_v0 se_v0 Fr0 Hr M r he_v0 hH h
  refine CallsM.run Tryz.func27 rfl rfl (show Run _ _ _ (bank_wave_samples_h1_post e_v0 se_v0 Fr0 Hr r) _ _ _ from ?_)
  rw [bank_wave_samples_h1] at h
  refine Run.seq (Run.region ?_)
  refine Run.opG wantS_none (ex_assign rfl) rfl ?_
  refine Run.opsEnd (Run.seq ?_)
  refine Run.drawG plan27_1_0 ?_
  refine DrawG.fl rfl (ev_ex wantS_none (ex_move rfl)) rfl ?_
  obtain ⟨b21, hq21, hr21⟩ := rop_open he_v0
  refine DrawG.fl rfl (ev_ex wantS_none (ex_nilR rfl hq21)) rfl ?_
  refine DrawG.fl rfl (ev_ex wantS_none (ex_fieldAddr rfl off105_0)) rfl ?_
  refine DrawG.fl rfl (ev_ex wantS_none (ex_move rfl)) rfl ?_
  obtain ⟨b22, hq22, hr22⟩ := rop_open he_v0
  refine DrawG.fl rfl (ev_ex wantS_none (ex_nilR rfl hq22)) rfl ?_
  refine DrawG.fl rfl (ev_ex wantS_none (ex_fieldAddr rfl off105_1)) rfl ?_
  obtain ⟨x23, hx23, h⟩ := bnd_some h
  refine DrawG.fl rfl (ev_ex wantS_none (ex_load1 rfl (hH.ptrF (rop_at (enc := enc3) (a := x23) hr22 enc3_len hx23)) rdLe_rfl agg3)) rfl ?_
  obtain ⟨r24, hr24, h⟩ := bnd_some h
  obtain ⟨l24, hl24, h⟩ := bnd_some h
  obtain ⟨s24, hx24, hs24⟩ := rop_cutH (P := Tryz.prog) (t := 103) (off := 0) (k0 := .i64) hr21 enc3_len hr24 slk103 hl24
  refine DrawG.fl rfl (ev_ex wantS_none (ex_slX rfl (argO_none) (argO_some rfl) hx24)) rfl ?_
  refine DrawG.fl rfl (ev_ex wantS_none (ex_assign rfl)) rfl ?_
  refine DrawG.sync ?_
  refine DrawG.nil ?_
  cases h
  exact Run.ret Tryz.func27 rfl (res_tmp rfl res_nil) ⟨_, rfl, Fr0, (fun b c hb => hb), hs24, hH.pickT [] rfl rfl⟩

theorem plan86_1_0 : planOf Tryz.prog (opsC (atC Tryz.prog 86 [1, 0])) = some [.fl 0, .fl 2, .fl 3, .fl 4, .an 1 [4, 3, 2], .an 5 [], .fl 6, .sync] := by kernel_rfl
abbrev bank_output_post (r : Int) : SV → Mem → Prop := fun s _ => s = (.int .i64 r)

def bank_output (F : Nat) (a0 a1 : (List Int)) (a2 : Int) : Option (Int) :=
  bnd (sub a1 a2 (a1.length : Int)) fun l21 =>
  bnd (bank_wave_samples_h1 F a0) fun r22 =>
  bnd (bank_product F r22 l21) fun r24 =>
  some r24

theorem bank_output_ok (F : Nat) (a0 a1 : (List Int)) (a2 : Int) (s0 s1 : SV) (r : Int) (M : Mem) (hs0 : RopTo (rd M) s0 (a0.flatMap enc3)) (hs1 : Slc (rd M) 1 (FlatR enc3) s1 a1) (h : bank_output F a0 a1 a2 = some r) : CallsM Tryz.prog 86 [s0, s1, (.int .i64 a2)] M (fun s M' => s = (.int .i64 r) ∧ M' = M) := by
  refine CallsM.plain Tryz.func86 rfl rfl rfl (show Run _ _ _ (bank_output_post r) _ _ _ from ?_)
  rw [bank_output] at h
  replace hs0 := hs0.mono (rdLe_frozen M)
  replace hs1 := hs1.mono (rdLe_frozen M) (fun _ _ h => h)
  have hH := Has.nil (frozen M)
  refine Run.seq (Run.region ?_)
  refine Run.opG wantS_none (ex_assign rfl) rfl ?_
  refine Run.opsEnd (Run.seq ?_)
  refine Run.drawG plan86_1_0 ?_
  refine DrawG.fl rfl (ev_ex wantS_none (ex_move rfl)) rfl ?_
  refine DrawG.fl rfl (ev_ex wantS_none (ex_move rfl)) rfl ?_
  refine DrawG.fl rfl (ev_ex wantS_none (ex_move rfl)) rfl ?_
  obtain ⟨l21, hl21, h⟩ := bnd_some h
  obtain ⟨s21, hx21, hs21⟩ := sl_subL (P := Tryz.prog) (t := 25) (k0 := .i64) hs1 hl21 slk25
  refine DrawG.fl rfl (ev_ex wantS_none (ex_slX rfl (argO_some rfl) (argO_none) hx21)) rfl ?_
  obtain ⟨r22, hr22, h⟩ := bnd_some h
  refine DrawG.call rfl wantS_none (ex_call rfl mkk27 cal27) rfl (bank_wave_samples_h1_ok F a0 s0 (ro (frozen M)) [] _ _ hs0 hH hr22) ?_
  rintro s22_0 M23 ⟨_, rfl, F22, hle22, hq22_0, (hH23 : Has F22 M23 [])⟩
  replace hs0 := hs0.mono hle22
  replace hs1 := hs1.mono hle22 (fun _ _ h => h)
  replace hs21 := hs21.mono hle22 (fun _ _ h => h)
  refine ⟨(st_cons rfl (ev_ex wantS_none (ex_slX rfl (argO_some rfl) (argO_none) hx21)) rfl rfl (slc_self hs21) (st_cons rfl (ev_ex wantS_none (ex_move rfl)) rfl rfl rfl (st_cons rfl (ev_ex wantS_none (ex_move rfl)) rfl rfl (slc_self hs1) st_nil))), ?_⟩
  obtain ⟨r24, hr24, h⟩ := bnd_some h
  refine DrawG.callP rfl wantS_none (ex_call rfl mkk73 cal73) rfl (bank_product_ok F r22 l21 s22_0 s21 _ _ (hH23.slcF hq22_0) (hH23.slcF hs21) hr24) st_nil ?_
  refine DrawG.fl rfl (ev_ex wantS_none (ex_assign rfl)) rfl ?_
  refine DrawG.sync ?_
  refine DrawG.nil ?_
  cases h
  exact Run.ret Tryz.func86 rfl (res_tmp rfl res_nil) rfl

theorem mkk86 : makeK Tryz.prog 86 = none := by kernel_rfl
theorem cal86 : callable Tryz.prog 86 = true := by kernel_rfl
theorem agg50 : aggSize Tryz.prog 50 = some none := by kernel_rfl
theorem zer54 : zerosOf Tryz.prog 54 = some [(.int .i64 0), (.int .i64 0), (.int .i64 0)] := by kernel_rfl
theorem pls54 : placesOf Tryz.prog 54 = some (.st [(0, 1), (1, 1), (2, 1)]) := by kernel_rfl
theorem elt50 : sliceElt Tryz.prog 50 = some (⟨3, 24, [(.int .i64 0), (.int .i64 0), (.int .i64 0)], 54⟩ : Elt) := by kernel_rfl
theorem appt50_50 : appT Tryz.prog 50 50 = some (⟨3, 24, [(.int .i64 0), (.int .i64 0), (.int .i64 0)], 54⟩ : Elt) := by kernel_rfl
theorem sz50 : szOf Tryz.prog 50 = some 1 := by kernel_rfl
theorem plan44_1_1_0_1_0_0_1_1_0_0_1_1_0_1_0_0 : planOf Tryz.prog (opsC (atC Tryz.prog 44 [1, 1, 0, 1, 0, 0, 1, 1, 0, 0, 1, 1, 0, 1, 0, 0])) = some [.fl 0, .fl 1, .fl 2, .fl 3, .fl 4, .fl 5, .fl 6, .an 7 [], .sync] := by kernel_rfl
theorem plan85_1_0_0_0_0 : planOf Tryz.prog (opsC (atC Tryz.prog 85 [1, 0, 0, 0, 0])) = some [.fl 0, .fl 1, .fl 2, .fl 3, .fl 4, .fl 5, .an 6 [], .sync] := by kernel_rfl
abbrev bank_hits_post (r : (List S_api_Hit)) : SV → Mem → Prop := fun s Me => ∃ q1, s = q1 ∧ Has (fun _ => none) Me [.vec 54 3 r.length q1 (r.flatMap enc54)]

def bank_hits_2 (F : Nat) (hd1 : (List Int) → (List (List Int)) → Int → Int → Int → (List S_api_Hit) → Option ((List S_api_Hit))) : Nat → Int → (List Int) → (List (List Int)) → Int → Int → (List Int) → (List (List Int)) → Int → Int → Int → Int → (List Int) → (List Int) → (List Int) → (List S_api_Hit) → Option ((List S_api_Hit))
  | 0, _, _, _, _, _, _, _, _, _, _, _, _, _, _, _ => none
  | N + 1, v4, v1_f1, v12_f1, v13_f1, v14_f1, v1_g46, v12_g46, v13_g46, v14_g46, c22_0, c33_0, c36_0, c41_0, c44_0, l27 =>
    bnd (c41_0[(64 : Nat)]?) fun x49 =>
    bnd (bank_isTime F x49 c44_0 v4) fun r50 =>
    bif r50 then
      bnd (bank_output F c41_0 c44_0 v4) fun r54 =>
      bnd (c36_0[(65 : Nat)]?) fun x58 =>
      bnd (bank_isLoud F r54 (w64 (c22_0 * x58))) fun r59 =>
      bif r59 then
        bnd (apd 24 l27 ([(S_api_Hit.mk v4 c33_0 r54)] : List S_api_Hit)) fun l67 =>
        (bank_hits_2 F hd1 N) (w64 (v4 + (1 : Int))) v1_f1 v12_f1 v13_f1 v14_f1 v1_g46 v12_g46 v13_g46 v14_g46 c22_0 c33_0 c36_0 c41_0 c44_0 l67
      else
        (bank_hits_2 F hd1 N) (w64 (v4 + (1 : Int))) v1_f1 v12_f1 v13_f1 v14_f1 v1_g46 v12_g46 v13_g46 v14_g46 c22_0 c33_0 c36_0 c41_0 c44_0 l27
    else
      hd1 v1_f1 v12_f1 v13_f1 (w64 (v14_f1 + (1 : Int))) c22_0 l27

theorem bank_hits_2_ok (F : Nat) (hd1 : (List Int) → (List (List Int)) → Int → Int → Int → (List S_api_Hit) → Option ((List S_api_Hit))) (hhd1 : ∀ (v1 : (List Int)) (v12 : (List (List Int))) (v13 v14 c22_0 : Int) (l27 : (List S_api_Hit)) (sv1 sv12 : SV) (b22 b25 : Pos) (s27 : SV) (dz : List Pos) (Fr : Rd) (M : Mem) (r : (List S_api_Hit)) (hv1 : Slc Fr 1 (FlatR enc3) sv1 v1) (hv12 : Slc Fr 1 (rep72 Fr) sv12 v12) (hH : Has Fr M (([.obj b22 (.row 3 .whole [(.int .i64 c22_0)]), .obj b25 (.row 50 .whole [s27]), .vec 54 3 l27.length s27 (l27.flatMap enc54)] : List Ent) ++ (dsE dz ++ ([] : List Ent)))), hd1 v1 v12 v13 v14 c22_0 l27 = some r → Run Tryz.prog ⟨⟨44, (dz), none⟩, []⟩ 41 (bank_hits_post r) [(1, sv1), (5, (.ptr b22 0)), (6, .nils), (7, (.ptr b25 0)), (12, sv12), (13, (.int .i64 v13)), (14, (.int .i64 v14))] [codeC Tryz.prog 44 [1, 1, 0, 1, 0, 0], loopC Tryz.prog 44 [1, 1, 0, 1, 0, 0], .inBlock 0, codeC Tryz.prog 44 [1, 1, 1]] M) : ∀ (N : Nat), ∀ (v4 : Int) (v1_f1 : (List Int)) (v12_f1 : (List (List Int))) (v13_f1 v14_f1 : Int) (v1_g46 : (List Int)) (v12_g46 : (List (List Int))) (v13_g46 v14_g46 c22_0 c33_0 : Int) (c36_0 c41_0 c44_0 : (List Int)) (l27 : (List S_api_Hit)) (sv1_f1 sv12_f1 sv1_g46 sv12_g46 sc36_0 sc41_0 sc44_0 : SV) (b46 b22 b25 : Pos) (s27 : SV) (b33 b36 b41 b44 b47 : Pos) (dz : List Pos) (Fr : Rd) (M : Mem) (r : (List S_api_Hit)) (hv1_f1 : Slc Fr 1 (FlatR enc3) sv1_f1 v1_f1) (hv12_f1 : Slc Fr 1 (rep72 Fr) sv12_f1 v12_f1) (hv1_g46 : Slc Fr 1 (FlatR enc3) sv1_g46 v1_g46) (hv12_g46 : Slc Fr 1 (rep72 Fr) sv12_g46 v12_g46) (hc36_0 : RopTo Fr sc36_0 (c36_0.flatMap enc3)) (hc41_0 : RopTo Fr sc41_0 (c41_0.flatMap enc3)) (hc44_0 : Slc Fr 1 (FlatR enc3) sc44_0 c44_0) (hH : Has Fr M (([.obj b46 (.loop ⟨.ready, none, 44, 41, treeOf [(1, sv1_g46), (5, (.ptr b22 0)), (6, .nils), (7, (.ptr b25 0)), (8, (.ptr b33 0)), (9, (.ptr b36 0)), (12, sv12_g46), (13, (.int .i64 v13_g46)), (14, (.int .i64 v14_g46)), (21, (.fn (.func 85) [] [(.ptr b41 0), (.ptr b44 0)]))], [22, 23], (atC Tryz.prog 44 [1, 1, 0, 1, 0, 0, 1, 1, 0, 0, 1, 1, 0, 0]), (atC Tryz.prog 44 [1, 1, 0, 1, 0, 0, 1, 1, 0, 0, 1, 1, 0, 1]), b47⟩), .obj b22 (.row 3 .whole [(.int .i64 c22_0)]), .obj b25 (.row 50 .whole [s27]), .vec 54 3 l27.length s27 (l27.flatMap enc54), .obj b33 (.row 3 .whole [(.int .i64 c33_0)]), .obj b36 (.row 72 .whole [sc36_0]), .obj b41 (.row 72 .whole [sc41_0]), .obj b44 (.row 25 .whole [sc44_0]), .obj b47 .defd] : List Ent) ++ (dsE dz ++ ([] : List Ent)))), bank_hits_2 F hd1 N v4 v1_f1 v12_f1 v13_f1 v14_f1 v1_g46 v12_g46 v13_g46 v14_g46 c22_0 c33_0 c36_0 c41_0 c44_0 l27 = some r → Run Tryz.prog ⟨⟨85, [], none⟩, [.mk ⟨44, (b47 :: dz), none⟩ 41 (treeOf [(1, sv1_f1), (5, (.ptr b22 0)), (6, .nils), (7, (.ptr b25 0)), (12, sv12_f1), (13, (.int .i64 v13_f1)), (14, (.int .i64 v14_f1))]) [.inRange b46, .inBlock 2, .inBlock 1, codeC Tryz.prog 44 [1, 1, 0, 1, 0, 0, 1, 1, 1], loopC Tryz.prog 44 [1, 1, 0, 1, 0, 0], .inBlock 0, codeC Tryz.prog 44 [1, 1, 1]]]⟩ 22 (bank_hits_post r) [(0, (.yield b46)), (1, (.ptr b41 0)), (2, (.ptr b44 0)), (4, (.int .i64 v4))] [codeC Tryz.prog 85 [1, 0, 0], loopC Tryz.prog 85 [1, 0, 0], .inBlock 0] M := by
  intro N
  induction N with
  | zero =>
    intro v4 v1_f1 v12_f1 v13_f1 v14_f1 v1_g46 v12_g46 v13_g46 v14_g46 c22_0 c33_0 c36_0 c41_0 c44_0 l27 sv1_f1 sv12_f1 sv1_g46 sv12_g46 sc36_0 sc41_0 sc44_0 b46 b22 b25 s27 b33 b36 b41 b44 b47 dz Fr M r hv1_f1 hv12_f1 hv1_g46 hv12_g46 hc36_0 hc41_0 hc44_0 hH h
    simp [bank_hits_2] at h
  | succ N ih =>
    intro v4 v1_f1 v12_f1 v13_f1 v14_f1 v1_g46 v12_g46 v13_g46 v14_g46 c22_0 c33_0 c36_0 c41_0 c44_0 l27 sv1_f1 sv12_f1 sv1_g46 sv12_g46 sc36_0 sc41_0 sc44_0 b46 b22 b25 s27 b33 b36 b41 b44 b47 dz Fr M r hv1_f1 hv12_f1 hv1_g46 hv12_g46 hc36_0 hc41_0 hc44_0 hH h
    rw [bank_hits_2] at h
    refine Run.seq (Run.seq ?_)
    refine Run.drawG plan85_1_0_0_0_0 ?_
    refine DrawG.fl rfl (ev_ex wantS_none (ex_load1 rfl (hH.cells (i := 6) rfl 0 rfl) rdLe_rfl agg72)) rfl ?_
    obtain ⟨b48, hq48, hr48⟩ := rop_open hc41_0
    refine DrawG.fl rfl (ev_ex wantS_none (ex_nilR rfl hq48)) rfl ?_
    refine DrawG.fl rfl (ev_ex wantS_none (ex_fieldAddr rfl off105_1)) rfl ?_
    obtain ⟨x49, hx49, h⟩ := bnd_some h
    refine DrawG.fl rfl (ev_ex wantS_none (ex_load1 rfl (hH.ptrF (rop_at (enc := enc3) (a := x49) hr48 enc3_len hx49)) rdLe_rfl agg3)) rfl ?_
    refine DrawG.fl rfl (ev_ex wantS_none (ex_load1 rfl (hH.cells (i := 7) rfl 0 rfl) rdLe_rfl agg25)) rfl ?_
    refine DrawG.fl rfl (ev_ex wantS_none (ex_move rfl)) rfl ?_
    obtain ⟨r50, hr50, h⟩ := bnd_some h
    refine DrawG.callP rfl wantS_none (ex_call rfl mkk81 cal81) rfl (bank_isTime_ok F x49 c44_0 v4 sc44_0 _ _ (hH.slcF hc44_0) hr50) st_nil ?_
    refine DrawG.sync ?_
    refine DrawG.nil ?_
    rcases btf (r50) with hc52 | hc52
    · have h := bif_t hc52 h
      refine Run.condT' rfl hc52 ?_
      refine Run.skip (Run.seq (Run.block (Run.seq (Run.region ?_))))
      refine Run.opG wantS_none (ex_move rfl) rfl ?_
      refine Run.opG wantS_none (ex_move rfl) rfl ?_
      refine Run.opG wantS_none (ex_load1 rfl (hH.cells (i := 6) rfl 0 rfl) rdLe_rfl agg72) rfl ?_
      refine Run.opG wantS_none (ex_load1 rfl (hH.cells (i := 7) rfl 0 rfl) rdLe_rfl agg25) rfl ?_
      refine Run.opG wantS_none (ex_move rfl) rfl ?_
      obtain ⟨r54, hr54, h⟩ := bnd_some h
      refine Run.callP wantS_none (ex_call rfl mkk86 cal86) rfl (bank_output_ok F c41_0 c44_0 v4 sc41_0 sc44_0 _ _ (hH.ropF hc41_0) (hH.slcF hc44_0) hr54) ?_
      refine Run.round (e' := [(23, (.int .i64 r54)), (22, (.int .i64 v4)), (1, sv1_g46), (5, (.ptr b22 0)), (6, .nils), (7, (.ptr b25 0)), (8, (.ptr b33 0)), (9, (.ptr b36 0)), (12, sv12_g46), (13, (.int .i64 v13_g46)), (14, (.int .i64 v14_g46)), (21, (.fn (.func 85) [] [(.ptr b41 0), (.ptr b44 0)]))]) wantS_none (ex_yield hH (i := 0) rfl rfl rfl rfl) (hH.loopOf (i := 0) rfl) rfl ?_
      refine Run.seq (Run.region ?_)
      refine Run.opG wantS_none (ex_assign rfl) rfl ?_
      refine Run.opsEnd (Run.region ?_)
      refine Run.opG wantS_none (ex_assign rfl) rfl ?_
      refine Run.opsEnd ?_
      refine Run.beginX hH (i := 0) rfl rfl ?_
      intro M56 (hH56 : Has Fr M56 (([.obj b46 (.loop ⟨.busy, none, 44, 41, treeOf [(1, sv1_g46), (5, (.ptr b22 0)), (6, .nils), (7, (.ptr b25 0)), (8, (.ptr b33 0)), (9, (.ptr b36 0)), (12, sv12_g46), (13, (.int .i64 v13_g46)), (14, (.int .i64 v14_g46)), (21, (.fn (.func 85) [] [(.ptr b41 0), (.ptr b44 0)]))], [22, 23], (atC Tryz.prog 44 [1, 1, 0, 1, 0, 0, 1, 1, 0, 0, 1, 1, 0, 0]), (atC Tryz.prog 44 [1, 1, 0, 1, 0, 0, 1, 1, 0, 0, 1, 1, 0, 1]), b47⟩), .obj b22 (.row 3 .whole [(.int .i64 c22_0)]), .obj b25 (.row 50 .whole [s27]), .vec 54 3 l27.length s27 (l27.flatMap enc54), .obj b33 (.row 3 .whole [(.int .i64 c33_0)]), .obj b36 (.row 72 .whole [sc36_0]), .obj b41 (.row 72 .whole [sc41_0]), .obj b44 (.row 25 .whole [sc44_0]), .obj b47 .defd] : List Ent) ++ (dsE dz ++ ([] : List Ent))))
      refine Run.block (Run.seq ?_)
      refine Run.drawG plan44_1_1_0_1_0_0_1_1_0_0_1_1_0_1_0_0 ?_
      refine DrawG.fl rfl (ev_ex wantS_none (ex_move rfl)) rfl ?_
      refine DrawG.fl rfl (ev_ex wantS_none (ex_load1 rfl (hH56.cells (i := 1) rfl 0 rfl) rdLe_rfl agg3)) rfl ?_
      refine DrawG.fl rfl (ev_ex wantS_none (ex_load1 rfl (hH56.cells (i := 5) rfl 0 rfl) rdLe_rfl agg72)) rfl ?_
      obtain ⟨b57, hq57, hr57⟩ := rop_open hc36_0
      refine DrawG.fl rfl (ev_ex wantS_none (ex_nilR rfl hq57)) rfl ?_
      refine DrawG.fl rfl (ev_ex wantS_none (ex_fieldAddr rfl off105_2)) rfl ?_
      obtain ⟨x58, hx58, h⟩ := bnd_some h
      refine DrawG.fl rfl (ev_ex wantS_none (ex_load1 rfl (hH56.ptrF (rop_at (enc := enc3) (a := x58) hr57 enc3_len hx58)) rdLe_rfl agg3)) rfl ?_
      refine DrawG.fl rfl (ev_ex wantS_none (ex_mul rfl rfl)) rfl ?_
      obtain ⟨r59, hr59, h⟩ := bnd_some h
      refine DrawG.callP rfl wantS_none (ex_call rfl mkk90 cal90) rfl (bank_isLoud_ok F r54 (w64 (c22_0 * x58)) _ _ hr59) st_nil ?_
      refine DrawG.sync ?_
      refine DrawG.nil ?_
      rcases btf (r59) with hc61 | hc61
      · have h := bif_t hc61 h
        refine Run.condT' rfl hc61 ?_
        refine Run.region ?_
        refine Run.opG wantS_none (ex_load1 rfl (hH56.cells (i := 2) rfl 0 rfl) rdLe_rfl agg50) rfl ?_
        refine Run.opG wantS_none (ex_move rfl) rfl ?_
        refine Run.opG wantS_none (ex_load1 rfl (hH56.cells (i := 4) rfl 0 rfl) rdLe_rfl agg3) rfl ?_
        refine Run.opG wantS_none (ex_move rfl) rfl ?_
        refine Run.opG wantS_none (ex_build (r := [(.int .i64 v4), (.int .i64 c33_0), (.int .i64 r54)]) rfl zer54 pls54 rfl) rfl ?_
        refine Run.opX wantS_none rfl (ExG.built (enc := enc54) (l := ([(S_api_Hit.mk v4 c33_0 r54)] : List S_api_Hit)) (z := 3) rfl elt50 rfl rfl rfl enc54_len hH56) ?_
        rintro s63 M64 (hH64 : Has Fr M64 (([.vec 54 3 ([(S_api_Hit.mk v4 c33_0 r54)] : List S_api_Hit).length s63 (([(S_api_Hit.mk v4 c33_0 r54)] : List S_api_Hit).flatMap enc54), .obj b46 (.loop ⟨.busy, none, 44, 41, treeOf [(1, sv1_g46), (5, (.ptr b22 0)), (6, .nils), (7, (.ptr b25 0)), (8, (.ptr b33 0)), (9, (.ptr b36 0)), (12, sv12_g46), (13, (.int .i64 v13_g46)), (14, (.int .i64 v14_g46)), (21, (.fn (.func 85) [] [(.ptr b41 0), (.ptr b44 0)]))], [22, 23], (atC Tryz.prog 44 [1, 1, 0, 1, 0, 0, 1, 1, 0, 0, 1, 1, 0, 0]), (atC Tryz.prog 44 [1, 1, 0, 1, 0, 0, 1, 1, 0, 0, 1, 1, 0, 1]), b47⟩), .obj b22 (.row 3 .whole [(.int .i64 c22_0)]), .obj b25 (.row 50 .whole [s27]), .vec 54 3 l27.length s27 (l27.flatMap enc54), .obj b33 (.row 3 .whole [(.int .i64 c33_0)]), .obj b36 (.row 72 .whole [sc36_0]), .obj b41 (.row 72 .whole [sc41_0]), .obj b44 (.row 25 .whole [sc44_0]), .obj b47 .defd] : List Ent) ++ (dsE dz ++ ([] : List Ent))))
        obtain ⟨l67, hl67, h⟩ := bnd_some h
        refine Run.opX wantS_none rfl (ExG.append rfl rfl hH64 (i := 4) rfl enc54_len rfl enc54_ones appt50_50 rfl (len_slc (hH64.slc (i := 0) rfl enc54_len)) (first_slc (hH64.slc (i := 0) rfl enc54_len) (rdLe_rdRow _) enc54_len) hl67) ?_
        rintro s67 M69 (hH69 : Has Fr M69 (([.vec 54 3 ([(S_api_Hit.mk v4 c33_0 r54)] : List S_api_Hit).length s63 (([(S_api_Hit.mk v4 c33_0 r54)] : List S_api_Hit).flatMap enc54), .obj b46 (.loop ⟨.busy, none, 44, 41, treeOf [(1, sv1_g46), (5, (.ptr b22 0)), (6, .nils), (7, (.ptr b25 0)), (8, (.ptr b33 0)), (9, (.ptr b36 0)), (12, sv12_g46), (13, (.int .i64 v13_g46)), (14, (.int .i64 v14_g46)), (21, (.fn (.func 85) [] [(.ptr b41 0), (.ptr b44 0)]))], [22, 23], (atC Tryz.prog 44 [1, 1, 0, 1, 0, 0, 1, 1, 0, 0, 1, 1, 0, 0]), (atC Tryz.prog 44 [1, 1, 0, 1, 0, 0, 1, 1, 0, 0, 1, 1, 0, 1]), b47⟩), .obj b22 (.row 3 .whole [(.int .i64 c22_0)]), .obj b25 (.row 50 .whole [s27]), .vec 54 3 l67.length s67 (l67.flatMap enc54), .obj b33 (.row 3 .whole [(.int .i64 c33_0)]), .obj b36 (.row 72 .whole [sc36_0]), .obj b41 (.row 72 .whole [sc41_0]), .obj b44 (.row 25 .whole [sc44_0]), .obj b47 .defd] : List Ent) ++ (dsE dz ++ ([] : List Ent))))
        refine Run.opX wantS_none rfl (ExG.storeC (c' := [s67]) rfl rfl (cells_one (vec_one hH69 (i := 4) rfl)) hH69 (i := 3) rfl sz50 rfl rfl rfl (ones_cons (vec_one hH69 (i := 4) rfl) ones_nil) rfl) ?_
        rintro _ M70 ⟨rfl, (hH70 : Has Fr M70 (([.vec 54 3 ([(S_api_Hit.mk v4 c33_0 r54)] : List S_api_Hit).length s63 (([(S_api_Hit.mk v4 c33_0 r54)] : List S_api_Hit).flatMap enc54), .obj b46 (.loop ⟨.busy, none, 44, 41, treeOf [(1, sv1_g46), (5, (.ptr b22 0)), (6, .nils), (7, (.ptr b25 0)), (8, (.ptr b33 0)), (9, (.ptr b36 0)), (12, sv12_g46), (13, (.int .i64 v13_g46)), (14, (.int .i64 v14_g46)), (21, (.fn (.func 85) [] [(.ptr b41 0), (.ptr b44 0)]))], [22, 23], (atC Tryz.prog 44 [1, 1, 0, 1, 0, 0, 1, 1, 0, 0, 1, 1, 0, 0]), (atC Tryz.prog 44 [1, 1, 0, 1, 0, 0, 1, 1, 0, 0, 1, 1, 0, 1]), b47⟩), .obj b22 (.row 3 .whole [(.int .i64 c22_0)]), .obj b25 (.row 50 .whole [s67]), .vec 54 3 l67.length s67 (l67.flatMap enc54), .obj b33 (.row 3 .whole [(.int .i64 c33_0)]), .obj b36 (.row 72 .whole [sc36_0]), .obj b41 (.row 72 .whole [sc41_0]), .obj b44 (.row 25 .whole [sc44_0]), .obj b47 .defd] : List Ent) ++ (dsE dz ++ ([] : List Ent))))⟩
        refine Run.opsEnd (Run.inBlock ?_)
        refine Run.roundEndX hH70 (i := 1) rfl rfl ?_
        intro M71 (hH71 : Has Fr M71 (([.vec 54 3 ([(S_api_Hit.mk v4 c33_0 r54)] : List S_api_Hit).length s63 (([(S_api_Hit.mk v4 c33_0 r54)] : List S_api_Hit).flatMap enc54), .obj b46 (.loop ⟨.ready, none, 44, 41, treeOf [(1, sv1_g46), (5, (.ptr b22 0)), (6, .nils), (7, (.ptr b25 0)), (8, (.ptr b33 0)), (9, (.ptr b36 0)), (12, sv12_g46), (13, (.int .i64 v13_g46)), (14, (.int .i64 v14_g46)), (21, (.fn (.func 85) [] [(.ptr b41 0), (.ptr b44 0)]))], [22, 23], (atC Tryz.prog 44 [1, 1, 0, 1, 0, 0, 1, 1, 0, 0, 1, 1, 0, 0]), (atC Tryz.prog 44 [1, 1, 0, 1, 0, 0, 1, 1, 0, 0, 1, 1, 0, 1]), b47⟩), .obj b22 (.row 3 .whole [(.int .i64 c22_0)]), .obj b25 (.row 50 .whole [s67]), .vec 54 3 l67.length s67 (l67.flatMap enc54), .obj b33 (.row 3 .whole [(.int .i64 c33_0)]), .obj b36 (.row 72 .whole [sc36_0]), .obj b41 (.row 72 .whole [sc41_0]), .obj b44 (.row 25 .whole [sc44_0]), .obj b47 .defd] : List Ent) ++ (dsE dz ++ ([] : List Ent))))
        refine Run.opG wantS_none (ex_not rfl) rfl ?_
        refine Run.opsEnd ?_
        refine Run.condF' rfl (bnot_f rfl) ?_
        refine Run.skip (Run.inBlock (Run.region ?_))
        refine Run.opG wantS_none (ex_move rfl) rfl ?_
        refine Run.opG wantS_none (ex_add rfl rfl) rfl ?_
        refine Run.opG wantS_none (ex_assign rfl) rfl ?_
        refine Run.opsEnd (Run.inLoop ?_)
        exact Run.low (.cons (fle_pick [1, 5, 6, 7, 12, 13, 14] rfl) .nil) (Run.pick [0, 1, 2, 4] (ih (w64 (v4 + (1 : Int))) v1_f1 v12_f1 v13_f1 v14_f1 v1_g46 v12_g46 v13_g46 v14_g46 c22_0 c33_0 c36_0 c41_0 c44_0 l67 sv1_f1 sv12_f1 sv1_g46 sv12_g46 sc36_0 sc41_0 sc44_0 b46 b22 b25 s67 b33 b36 b41 b44 b47 dz _ _ _ hv1_f1 hv12_f1 hv1_g46 hv12_g46 hc36_0 hc41_0 hc44_0 (hH71.pickT [1, 2, 3, 4, 5, 6, 7, 8, 9] rfl rfl) h))
      · have h := bif_f hc61 h
        refine Run.condF' rfl hc61 ?_
        refine Run.skip (Run.inBlock ?_)
        refine Run.roundEndX hH56 (i := 0) rfl rfl ?_
        intro M72 (hH72 : Has Fr M72 (([.obj b46 (.loop ⟨.ready, none, 44, 41, treeOf [(1, sv1_g46), (5, (.ptr b22 0)), (6, .nils), (7, (.ptr b25 0)), (8, (.ptr b33 0)), (9, (.ptr b36 0)), (12, sv12_g46), (13, (.int .i64 v13_g46)), (14, (.int .i64 v14_g46)), (21, (.fn (.func 85) [] [(.ptr b41 0), (.ptr b44 0)]))], [22, 23], (atC Tryz.prog 44 [1, 1, 0, 1, 0, 0, 1, 1, 0, 0, 1, 1, 0, 0]), (atC Tryz.prog 44 [1, 1, 0, 1, 0, 0, 1, 1, 0, 0, 1, 1, 0, 1]), b47⟩), .obj b22 (.row 3 .whole [(.int .i64 c22_0)]), .obj b25 (.row 50 .whole [s27]), .vec 54 3 l27.length s27 (l27.flatMap enc54), .obj b33 (.row 3 .whole [(.int .i64 c33_0)]), .obj b36 (.row 72 .whole [sc36_0]), .obj b41 (.row 72 .whole [sc41_0]), .obj b44 (.row 25 .whole [sc44_0]), .obj b47 .defd] : List Ent) ++ (dsE dz ++ ([] : List Ent))))
        refine Run.opG wantS_none (ex_not rfl) rfl ?_
        refine Run.opsEnd ?_
        refine Run.condF' rfl (bnot_f rfl) ?_
        refine Run.skip (Run.inBlock (Run.region ?_))
        refine Run.opG wantS_none (ex_move rfl) rfl ?_
        refine Run.opG wantS_none (ex_add rfl rfl) rfl ?_
        refine Run.opG wantS_none (ex_assign rfl) rfl ?_
        refine Run.opsEnd (Run.inLoop ?_)
        exact Run.low (.cons (fle_pick [1, 5, 6, 7, 12, 13, 14] rfl) .nil) (Run.pick [0, 1, 2, 4] (ih (w64 (v4 + (1 : Int))) v1_f1 v12_f1 v13_f1 v14_f1 v1_g46 v12_g46 v13_g46 v14_g46 c22_0 c33_0 c36_0 c41_0 c44_0 l27 sv1_f1 sv12_f1 sv1_g46 sv12_g46 sc36_0 sc41_0 sc44_0 b46 b22 b25 s27 b33 b36 b41 b44 b47 dz _ _ _ hv1_f1 hv12_f1 hv1_g46 hv12_g46 hc36_0 hc41_0 hc44_0 hH72 h))
    · have h := bif_f hc52 h
      refine Run.condF' rfl hc52 ?_
      refine Run.exit rfl ?_
      refine Run.fallRange Tryz.func85 rfl res_nil ?_
      refine Run.endX hH (i := 0) rfl (fun hc => by cases hc) ?_
      intro M73 (hH73 : Has Fr M73 (([.obj b46 (.loop ⟨.exhausted, none, 44, 41, treeOf [(1, sv1_g46), (5, (.ptr b22 0)), (6, .nils), (7, (.ptr b25 0)), (8, (.ptr b33 0)), (9, (.ptr b36 0)), (12, sv12_g46), (13, (.int .i64 v13_g46)), (14, (.int .i64 v14_g46)), (21, (.fn (.func 85) [] [(.ptr b41 0), (.ptr b44 0)]))], [22, 23], (atC Tryz.prog 44 [1, 1, 0, 1, 0, 0, 1, 1, 0, 0, 1, 1, 0, 0]), (atC Tryz.prog 44 [1, 1, 0, 1, 0, 0, 1, 1, 0, 0, 1, 1, 0, 1]), b47⟩), .obj b22 (.row 3 .whole [(.int .i64 c22_0)]), .obj b25 (.row 50 .whole [s27]), .vec 54 3 l27.length s27 (l27.flatMap enc54), .obj b33 (.row 3 .whole [(.int .i64 c33_0)]), .obj b36 (.row 72 .whole [sc36_0]), .obj b41 (.row 72 .whole [sc41_0]), .obj b44 (.row 25 .whole [sc44_0]), .obj b47 .defd] : List Ent) ++ (dsE dz ++ ([] : List Ent))))
      refine Run.inBlock (Run.inBlock (Run.region ?_))
      refine Run.opG wantS_none (ex_add rfl rfl) rfl ?_
      refine Run.opG wantS_none (ex_move rfl) rfl ?_
      refine Run.opsEnd (Run.inLoop ?_)
      have hH74y : Has Fr M73 (([.obj b46 (.loop ⟨.exhausted, none, 44, 41, treeOf [(1, sv1_g46), (5, (.ptr b22 0)), (6, .nils), (7, (.ptr b25 0)), (8, (.ptr b33 0)), (9, (.ptr b36 0)), (12, sv12_g46), (13, (.int .i64 v13_g46)), (14, (.int .i64 v14_g46)), (21, (.fn (.func 85) [] [(.ptr b41 0), (.ptr b44 0)]))], [22, 23], (atC Tryz.prog 44 [1, 1, 0, 1, 0, 0, 1, 1, 0, 0, 1, 1, 0, 0]), (atC Tryz.prog 44 [1, 1, 0, 1, 0, 0, 1, 1, 0, 0, 1, 1, 0, 1]), b47⟩), .obj b22 (.row 3 .whole [(.int .i64 c22_0)]), .obj b25 (.row 50 .whole [s27]), .vec 54 3 l27.length s27 (l27.flatMap enc54), .obj b33 (.row 3 .whole [(.int .i64 c33_0)]), .obj b36 (.row 72 .whole [sc36_0]), .obj b41 (.row 72 .whole [sc41_0]), .obj b44 (.row 25 .whole [sc44_0]), .obj b47 .defd] : List Ent) ++ (dsE dz ++ ([] : List Ent))) := (hH73.pickT [0, 1, 2, 3, 4, 5, 6, 7, 8] rfl rfl)
      have hH74 : Has Fr M73 (([.obj b46 (.loop ⟨.exhausted, none, 44, 41, treeOf [(1, sv1_g46), (5, (.ptr b22 0)), (6, .nils), (7, (.ptr b25 0)), (8, (.ptr b33 0)), (9, (.ptr b36 0)), (12, sv12_g46), (13, (.int .i64 v13_g46)), (14, (.int .i64 v14_g46)), (21, (.fn (.func 85) [] [(.ptr b41 0), (.ptr b44 0)]))], [22, 23], (atC Tryz.prog 44 [1, 1, 0, 1, 0, 0, 1, 1, 0, 0, 1, 1, 0, 0]), (atC Tryz.prog 44 [1, 1, 0, 1, 0, 0, 1, 1, 0, 0, 1, 1, 0, 1]), b47⟩), .obj b22 (.row 3 .whole [(.int .i64 c22_0)]), .obj b25 (.row 50 .whole [s27]), .vec 54 3 l27.length s27 (l27.flatMap enc54), .obj b33 (.row 3 .whole [(.int .i64 c33_0)]), .obj b36 (.row 72 .whole [sc36_0]), .obj b41 (.row 72 .whole [sc41_0]), .obj b44 (.row 25 .whole [sc44_0])] : List Ent) ++ (dsE (b47 :: dz) ++ ([] : List Ent))) := hH74y
      exact Run.pick [1, 5, 6, 7, 12, 13, 14] (hhd1 v1_f1 v12_f1 v13_f1 (w64 (v14_f1 + (1 : Int))) c22_0 l27 sv1_f1 sv12_f1 b22 b25 s27 (b47 :: dz) _ _ _ hv1_f1 hv12_f1 (hH74.pickT [1, 2, 3] rfl rfl) h)

def bank_hits_1 (F : Nat) : Nat → (List Int) → (List (List Int)) → Int → Int → Int → (List S_api_Hit) → Option ((List S_api_Hit))
  | 0, _, _, _, _, _, _ => none
  | N + 1, v1, v12, v13, v14, c22_0, l27 =>
    bif (decide (v14 < v13)) then
      bnd (idx v12 v14) fun x31 =>
      bank_hits_2 F (bank_hits_1 F N) F (0 : Int) v1 v12 v13 v14 v1 v12 v13 v14 c22_0 v14 x31 x31 v1 l27
    else
      some l27

theorem bank_hits_1_ok (F : Nat) : ∀ (N : Nat), ∀ (v1 : (List Int)) (v12 : (List (List Int))) (v13 v14 c22_0 : Int) (l27 : (List S_api_Hit)) (sv1 sv12 : SV) (b22 b25 : Pos) (s27 : SV) (dz : List Pos) (Fr : Rd) (M : Mem) (r : (List S_api_Hit)) (hv1 : Slc Fr 1 (FlatR enc3) sv1 v1) (hv12 : Slc Fr 1 (rep72 Fr) sv12 v12) (hH : Has Fr M (([.obj b22 (.row 3 .whole [(.int .i64 c22_0)]), .obj b25 (.row 50 .whole [s27]), .vec 54 3 l27.length s27 (l27.flatMap enc54)] : List Ent) ++ (dsE dz ++ ([] : List Ent)))), bank_hits_1 F N v1 v12 v13 v14 c22_0 l27 = some r → Run Tryz.prog ⟨⟨44, (dz), none⟩, []⟩ 41 (bank_hits_post r) [(1, sv1), (5, (.ptr b22 0)), (6, .nils), (7, (.ptr b25 0)), (12, sv12), (13, (.int .i64 v13)), (14, (.int .i64 v14))] [codeC Tryz.prog 44 [1, 1, 0, 1, 0, 0], loopC Tryz.prog 44 [1, 1, 0, 1, 0, 0], .inBlock 0, codeC Tryz.prog 44 [1, 1, 1]] M := by
  intro N
  induction N with
  | zero =>
    intro v1 v12 v13 v14 c22_0 l27 sv1 sv12 b22 b25 s27 dz Fr M r hv1 hv12 hH h
    simp [bank_hits_1] at h
  | succ N ih =>
    intro v1 v12 v13 v14 c22_0 l27 sv1 sv12 b22 b25 s27 dz Fr M r hv1 hv12 hH h
    rw [bank_hits_1] at h
    refine Run.seq (Run.region ?_)
    refine Run.opG wantS_none (ex_lss rfl rfl) rfl ?_
    refine Run.opsEnd (Run.seq ?_)
    rcases btf ((decide (v14 < v13))) with hc29 | hc29
    · have h := bif_t hc29 h
      refine Run.condT' rfl hc29 ?_
      refine Run.skip (Run.seq (Run.block (Run.seq (Run.region ?_))))
      refine Run.opG wantS_none (ex_move rfl) rfl ?_
      obtain ⟨x31, hx31, h⟩ := bnd_some h
      obtain ⟨p31, o31, _, hx31, hp31, ⟨q31_0, rfl, hq31_0⟩⟩ := sl_elem (P := Tryz.prog) (t := 99) (kk := .i64) hv12 hx31 els99
      refine Run.opG wantS_none (ex_elX rfl rfl hx31) rfl ?_
      refine Run.opG wantS_none (ex_load1 rfl (hH.ptrF hp31) rdLe_rfl agg72) rfl ?_
      refine Run.opX wantS_none rfl (ExG.new (v := fun b => .ptr b 0) (ex_alloc zer3) hH) ?_
      rintro _ M34 ⟨b33, rfl, hH34⟩
      refine Run.opX wantS_none rfl (ExG.new (v := fun b => .ptr b 0) (ex_alloc zer72) hH34) ?_
      rintro _ M37 ⟨b36, rfl, hH37⟩
      refine Run.opX wantS_none rfl (ExG.storeC (c' := [(.int .i64 v14)]) rfl rfl rfl hH37 (i := 1) rfl sz3 rfl rfl rfl rfl rfl) ?_
      rintro _ M38 ⟨rfl, (hH38 : Has Fr M38 (([.obj b36 (.row 72 .whole [.nilp]), .obj b33 (.row 3 .whole [(.int .i64 v14)]), .obj b22 (.row 3 .whole [(.int .i64 c22_0)]), .obj b25 (.row 50 .whole [s27]), .vec 54 3 l27.length s27 (l27.flatMap enc54)] : List Ent) ++ (dsE dz ++ ([] : List Ent))))⟩
      refine Run.opX wantS_none rfl (ExG.storeC (c' := [q31_0]) rfl rfl (cells_one (rop_one hq31_0)) hH38 (i := 0) rfl sz72 rfl rfl rfl (ones_cons (rop_one hq31_0) ones_nil) rfl) ?_
      rintro _ M39 ⟨rfl, (hH39 : Has Fr M39 (([.obj b36 (.row 72 .whole [q31_0]), .obj b33 (.row 3 .whole [(.int .i64 v14)]), .obj b22 (.row 3 .whole [(.int .i64 c22_0)]), .obj b25 (.row 50 .whole [s27]), .vec 54 3 l27.length s27 (l27.flatMap enc54)] : List Ent) ++ (dsE dz ++ ([] : List Ent))))⟩
      refine Run.opsEnd (Run.seq (Run.region ?_))
      refine Run.opG wantS_none (ex_load1 rfl (hH39.cells (i := 0) rfl 0 rfl) rdLe_rfl agg72) rfl ?_
      refine Run.opG wantS_none (ex_move rfl) rfl ?_
      refine Run.enter wantS_none (ex_call rfl mkk35 cal35) Tryz.func35 rfl rfl ?_
      refine Run.seq (Run.region ?_)
      refine Run.opX wantS_none rfl (ExG.box rfl (cells_one (rop_one hq31_0)) hH39) ?_
      rintro _ M42 ⟨b41, rfl, hH42⟩
      refine Run.opX wantS_none rfl (ExG.box rfl (cells_one (slc_one hv1)) hH42) ?_
      rintro _ M45 ⟨b44, rfl, hH45⟩
      refine Run.opG wantS_none (ex_assign rfl) rfl ?_
      refine Run.opsEnd (Run.seq (Run.region ?_))
      refine Run.opG wantS_none (ex_makeFunc rfl rfl) rfl ?_
      refine Run.opG wantS_none (ex_assign rfl) rfl ?_
      refine Run.opsEnd ?_
      refine Run.retTo Tryz.func35 rfl (res_tmp rfl res_nil) rfl ?_
      refine Run.opsEnd (Run.block ?_)
      refine Run.pick [1, 5, 6, 7, 8, 9, 12, 13, 14, 21] ?_
      refine Run.rangeX rfl cal85 Tryz.func85 rfl rfl hH45 ?_
      intro b47 b46 M46 (hH46 : Has Fr M46 (([.obj b46 (.loop ⟨.ready, none, 44, 41, treeOf [(1, sv1), (5, (.ptr b22 0)), (6, .nils), (7, (.ptr b25 0)), (8, (.ptr b33 0)), (9, (.ptr b36 0)), (12, sv12), (13, (.int .i64 v13)), (14, (.int .i64 v14)), (21, (.fn (.func 85) [] [(.ptr b41 0), (.ptr b44 0)]))], [22, 23], (atC Tryz.prog 44 [1, 1, 0, 1, 0, 0, 1, 1, 0, 0, 1, 1, 0, 0]), (atC Tryz.prog 44 [1, 1, 0, 1, 0, 0, 1, 1, 0, 0, 1, 1, 0, 1]), b47⟩), .obj b47 .defd, .obj b44 (.row 25 .whole [sv1]), .obj b41 (.row 72 .whole [q31_0]), .obj b36 (.row 72 .whole [q31_0]), .obj b33 (.row 3 .whole [(.int .i64 v14)]), .obj b22 (.row 3 .whole [(.int .i64 c22_0)]), .obj b25 (.row 50 .whole [s27]), .vec 54 3 l27.length s27 (l27.flatMap enc54)] : List Ent) ++ (dsE dz ++ ([] : List Ent))))
      refine Run.seq (Run.region ?_)
      refine Run.opG wantS_none (ex_assign rfl) rfl ?_
      refine Run.opsEnd (Run.block (Run.loop ?_))
      exact Run.low (.cons (fle_pick [1, 5, 6, 7, 12, 13, 14] rfl) .nil) (Run.pick [0, 1, 2, 4] (bank_hits_2_ok F (bank_hits_1 F N) ih F (0 : Int) v1 v12 v13 v14 v1 v12 v13 v14 c22_0 v14 x31 x31 v1 l27 sv1 sv12 sv1 sv12 q31_0 q31_0 sv1 b46 b22 b25 s27 b33 b36 b41 b44 b47 dz _ _ _ hv1 hv12 hv1 hv12 hq31_0 hq31_0 hv1 (hH46.pickT [0, 6, 7, 8, 5, 4, 3, 2, 1] rfl rfl) h))
    · have h := bif_f hc29 h
      refine Run.condF' rfl hc29 ?_
      refine Run.exit rfl (Run.seq (Run.region ?_))
      refine Run.opG wantS_none (ex_load1 rfl (hH.cells (i := 1) rfl 0 rfl) rdLe_rfl agg50) rfl ?_
      refine Run.opG wantS_none (ex_assign rfl) rfl ?_
      refine Run.opsEnd ?_
      obtain ⟨M75, hS75, hH75x⟩ := Has.shutD dz hH
      have hH75 : Has Fr M75 [.obj b22 (.row 3 .whole [(.int .i64 c22_0)]), .obj b25 (.row 50 .whole [s27]), .vec 54 3 l27.length s27 (l27.flatMap enc54)] := hH75x
      cases h
      exact Run.ret Tryz.func44 hS75 (res_tmp rfl res_nil) ⟨_, rfl, (hH75.pick [2] rfl rfl).upF (none_le _)⟩

def bank_hits (F : Nat) (a0 : (List (List Int))) (a1 : (List Int)) (a2 : Int) : Option ((List S_api_Hit)) :=
  bank_hits_1 F F a1 a0 (a0.length : Int) (0 : Int) a2 ([] : List S_api_Hit)

theorem bank_hits_ok (F : Nat) (a0 : (List (List Int))) (a1 : (List Int)) (a2 : Int) (s0 s1 : SV) (r : (List S_api_Hit)) (M : Mem) (hs0 : Slc (rd M) 1 (rep72 (rd M)) s0 a0) (hs1 : Slc (rd M) 1 (FlatR enc3) s1 a1) (h : bank_hits F a0 a1 a2 = some r) : CallsM Tryz.prog 44 [s0, s1, (.int .i64 a2)] M (fun s M' => ∃ q1, s = q1 ∧ New M M' [.vec 54 3 r.length q1 (r.flatMap enc54)]) := by
  refine CallsM.fresh (Q := bank_hits_post r) Tryz.func44 rfl rfl ?_ (by rintro s Me ⟨q1, rfl, hx⟩ ha hw; exact ⟨_, rfl, New.of rfl hx ha hw⟩)
  rw [bank_hits] at h
  replace hs0 := hs0.mono (rdLe_frozen M) (fun _ _ => rep72_mo (rdLe_frozen M))
  replace hs1 := hs1.mono (rdLe_frozen M) (fun _ _ h => h)
  have hH := Has.nil (frozen M)
  have hH0 : Has (ro (frozen M)) (frozen M) (([] : List Ent) ++ (dsE [] ++ ([] : List Ent))) := hH
  refine Run.seq (Run.region ?_)
  refine Run.opX wantS_none rfl (ExG.box rfl rfl hH0) ?_
  rintro _ M23 ⟨b22, rfl, hH23⟩
  refine Run.opG wantS_none (ex_assign rfl) rfl ?_
  refine Run.opsEnd (Run.seq (Run.region ?_))
  refine Run.opX wantS_none rfl (ExG.new (v := fun b => .ptr b 0) (ex_alloc zer50) hH23) ?_
  rintro _ M26 ⟨b25, rfl, hH26⟩
  refine Run.opsEnd (Run.seq (Run.seq (Run.region ?_)))
  refine Run.opG wantS_none (ex_move rfl) rfl ?_
  refine Run.opG wantS_none (ex_len' rfl hs0 lenk99) rfl ?_
  refine Run.opG wantS_none (ex_move rfl) rfl ?_
  refine Run.opsEnd (Run.block (Run.loop ?_))
  have hH28 : Has (ro (frozen M)) M26 (([.vec 54 3 ([] : List S_api_Hit).length .nils (([] : List S_api_Hit).flatMap enc54), .obj b25 (.row 50 .whole [.nils]), .obj b22 (.row 3 .whole [(.int .i64 a2)])] : List Ent) ++ (dsE [] ++ ([] : List Ent))) := hH26.nils 54 3
  exact Run.pick [1, 5, 6, 7, 12, 13, 14] (bank_hits_1_ok F F a1 a0 (a0.length : Int) (0 : Int) a2 ([] : List S_api_Hit) s1 s0 b22 b25 .nils [] _ _ _ hs1 hs0 (hH28.pickT [2, 1, 0] rfl rfl) h)

theorem mkk44 : makeK Tryz.prog 44 = none := by kernel_rfl
theorem cal44 : callable Tryz.prog 44 = true := by kernel_rfl
theorem mkk46 : makeK Tryz.prog 46 = none := by kernel_rfl
theorem cal46 : callable Tryz.prog 46 = true := by kernel_rfl
abbrev bank_Hits_post (r : (List S_api_Hit) × Int) : SV → Mem → Prop := fun s Me => ∃ q1, s = (.tuple [q1, (.int .i64 r.2)]) ∧ Has (fun _ => none) Me [.vec 54 3 r.1.length q1 (r.1.flatMap enc54)]

def bank_Hits_2 (F : Nat) (hd1 : Int → (List S_api_Chirp) → Int → Int → (List Int) → Int → Int → (List (List Int)) → Option ((List S_api_Hit) × Int)) : Nat → Int → Int → Int → (List S_api_Chirp) → Int → Int → (List Int) → Int → Int → S_api_Chirp → (List Int) → (List (List Int)) → Option ((List S_api_Hit) × Int)
  | 0, _, _, _, _, _, _, _, _, _, _, _, _ => none
  | N + 1, v10, v11, v0_f1, v8_f1, v9_f1, v10_f1, v2_f2, v3_f2, v4_f2, c41, l44, l31 =>
    bif (decide (v11 < v10)) then
      bnd (bank_table F (Int.tmod (w64 ((w64 (c41.P * v11)) + (w64 ((w64 (c41.Q * v11)) * v11)))) (64 : Int))) fun r47 =>
      bnd (inA v11 64) fun o49 =>
      bnd (upd l44 (((0 + o49 * 1) : Nat) : Int) r47) fun l50 =>
      (bank_Hits_2 F hd1 N) v10 (w64 (v11 + (1 : Int))) v0_f1 v8_f1 v9_f1 v10_f1 v2_f2 v3_f2 v4_f2 c41 l50 l31
    else
      bnd (bank_wave_samples F l44) fun l53 =>
      bnd (bank_wave_samples F l44) fun l56 =>
      bnd (bank_product F l53 l56) fun r59 =>
      bnd (upd l44 ((65 : Nat) : Int) r59) fun l62 =>
      bnd (apd 8 l31 ([l62] : List (List Int))) fun l73 =>
      hd1 v0_f1 v8_f1 v9_f1 (w64 (v10_f1 + (1 : Int))) v2_f2 v3_f2 v4_f2 l73

theorem bank_Hits_2_ok (F : Nat) (hd1 : Int → (List S_api_Chirp) → Int → Int → (List Int) → Int → Int → (List (List Int)) → Option ((List S_api_Hit) × Int)) (hhd1 : ∀ (v0 : Int) (v8 : (List S_api_Chirp)) (v9 v10 : Int) (v2_f1 : (List Int)) (v3_f1 v4_f1 : Int) (l31 : (List (List Int))) (sv8 sv2_f1 s31 : SV) (r31 : (List SV)) (Fr : Rd) (M : Mem) (r : (List S_api_Hit) × Int) (hv8 : Slc Fr 2 (FlatR enc27) sv8 v8) (hv2_f1 : Slc Fr 1 (FlatR enc3) sv2_f1 v2_f1) (hr31 : Rows (rep72 Fr) 1 r31 l31) (hH : Has Fr M [.vec 72 1 l31.length s31 r31, tb0, tb1, tb2, tb3]), hd1 v0 v8 v9 v10 v2_f1 v3_f1 v4_f1 l31 = some r → Run Tryz.prog ⟨⟨45, [], none⟩, [.mk ⟨17, [], none⟩ 34 (treeOf [(2, sv2_f1), (3, (.int .i64 v3_f1)), (4, (.int .i64 v4_f1))]) [itemC Tryz.prog 17 [1, 1, 0] 2, codeC Tryz.prog 17 [1, 1, 1]]]⟩ 22 (bank_Hits_post r) [(0, (.int .i64 v0)), (5, s31), (8, sv8), (9, (.int .i64 v9)), (10, (.int .i64 v10))] [codeC Tryz.prog 45 [1, 1, 0, 1, 0, 0], loopC Tryz.prog 45 [1, 1, 0, 1, 0, 0], .inBlock 0, codeC Tryz.prog 45 [1, 1, 1]] M) : ∀ (N : Nat), ∀ (v10 v11 v0_f1 : Int) (v8_f1 : (List S_api_Chirp)) (v9_f1 v10_f1 : Int) (v2_f2 : (List Int)) (v3_f2 v4_f2 : Int) (c41 : S_api_Chirp) (l44 : (List Int)) (l31 : (List (List Int))) (sv8_f1 sv2_f2 : SV) (b41 b44 : Pos) (s31 : SV) (r31 : (List SV)) (Fr : Rd) (M : Mem) (r : (List S_api_Hit) × Int) (hv8_f1 : Slc Fr 2 (FlatR enc27) sv8_f1 v8_f1) (hv2_f2 : Slc Fr 1 (FlatR enc3) sv2_f2 v2_f2) (hr31 : Rows (rep72 Fr) 1 r31 l31) (hH : Has Fr M [.obj b41 (.row 27 .whole [(.int .i64 c41.P), (.int .i64 c41.Q)]), .obj b44 (.row 105 .whole (l44.flatMap enc3)), .vec 72 1 l31.length s31 r31, tb0, tb1, tb2, tb3]), bank_Hits_2 F hd1 N v10 v11 v0_f1 v8_f1 v9_f1 v10_f1 v2_f2 v3_f2 v4_f2 c41 l44 l31 = some r → Run Tryz.prog ⟨⟨26, [], none⟩, [.mk ⟨45, [], none⟩ 22 (treeOf [(0, (.int .i64 v0_f1)), (8, sv8_f1), (9, (.int .i64 v9_f1)), (10, (.int .i64 v10_f1)), (14, s31)]) [itemC Tryz.prog 45 [1, 1, 0, 1, 0, 0, 1, 1, 0, 0, 1] 3, .inBlock 1, codeC Tryz.prog 45 [1, 1, 0, 1, 0, 0, 1, 1, 1], loopC Tryz.prog 45 [1, 1, 0, 1, 0, 0], .inBlock 0, codeC Tryz.prog 45 [1, 1, 1]], .mk ⟨17, [], none⟩ 34 (treeOf [(2, sv2_f2), (3, (.int .i64 v3_f2)), (4, (.int .i64 v4_f2))]) [itemC Tryz.prog 17 [1, 1, 0] 2, codeC Tryz.prog 17 [1, 1, 1]]]⟩ 42 (bank_Hits_post r) [(3, (.ptr b41 0)), (5, (.ptr b44 0)), (10, (.int .i64 v10)), (11, (.int .i64 v11))] [codeC Tryz.prog 26 [1, 1, 0, 1, 0, 0], loopC Tryz.prog 26 [1, 1, 0, 1, 0, 0], .inBlock 0, codeC Tryz.prog 26 [1, 1, 1]] M := by
  intro N
  induction N with
  | zero =>
    intro v10 v11 v0_f1 v8_f1 v9_f1 v10_f1 v2_f2 v3_f2 v4_f2 c41 l44 l31 sv8_f1 sv2_f2 b41 b44 s31 r31 Fr M r hv8_f1 hv2_f2 hr31 hH h
    simp [bank_Hits_2] at h
  | succ N ih =>
    intro v10 v11 v0_f1 v8_f1 v9_f1 v10_f1 v2_f2 v3_f2 v4_f2 c41 l44 l31 sv8_f1 sv2_f2 b41 b44 s31 r31 Fr M r hv8_f1 hv2_f2 hr31 hH h
    rw [bank_Hits_2] at h
    refine Run.seq (Run.region ?_)
    refine Run.opG wantS_none (ex_lss rfl rfl) rfl ?_
    refine Run.opsEnd (Run.seq ?_)
    rcases btf ((decide (v11 < v10))) with hc46 | hc46
    · have h := bif_t hc46 h
      refine Run.condT' rfl hc46 ?_
      refine Run.skip (Run.seq (Run.block (Run.seq (Run.region ?_))))
      refine Run.opG wantS_none (ex_move rfl) rfl ?_
      refine Run.opG wantS_none (ex_assign rfl) rfl ?_
      refine Run.opsEnd ?_
      refine Run.drawG plan26_1_1_0_1_0_0_1_1_0_0_1 ?_
      refine DrawG.fl rfl (ev_ex wantS_none (ex_move rfl)) rfl ?_
      refine DrawG.fl rfl (ev_ex wantS_none (ex_move rfl)) rfl ?_
      refine DrawG.fl rfl (ev_ex wantS_none (ex_fieldAddr rfl off27_0)) rfl ?_
      refine DrawG.fl rfl (ev_ex wantS_none (ex_load1 rfl (hH.cells (i := 0) rfl 0 rfl) rdLe_rfl agg3)) rfl ?_
      refine DrawG.fl rfl (ev_ex wantS_none (ex_move rfl)) rfl ?_
      refine DrawG.fl rfl (ev_ex wantS_none (ex_mul rfl rfl)) rfl ?_
      refine DrawG.fl rfl (ev_ex wantS_none (ex_fieldAddr rfl off27_1)) rfl ?_
      refine DrawG.fl rfl (ev_ex wantS_none (ex_load1 rfl (hH.cells (i := 0) rfl 1 rfl) rdLe_rfl agg3)) rfl ?_
      refine DrawG.fl rfl (ev_ex wantS_none (ex_move rfl)) rfl ?_
      refine DrawG.fl rfl (ev_ex wantS_none (ex_mul rfl rfl)) rfl ?_
      refine DrawG.fl rfl (ev_ex wantS_none (ex_move rfl)) rfl ?_
      refine DrawG.fl rfl (ev_ex wantS_none (ex_mul rfl rfl)) rfl ?_
      refine DrawG.fl rfl (ev_ex wantS_none (ex_add rfl rfl)) rfl ?_
      refine DrawG.fl rfl (ev_ex wantS_none (ex_rem rfl rfl (by decide))) rfl ?_
      refine DrawG.fl rfl (ev_ex wantS_none (ex_nilP rfl)) rfl ?_
      refine DrawG.fl rfl (ev_ex wantS_none (ex_fieldAddr rfl off105_0)) rfl ?_
      obtain ⟨r47, hr47, h⟩ := bnd_some h
      refine DrawG.callP rfl wantS_none (ex_call rfl mkk72 cal72) rfl (bank_table_ok F (Int.tmod (w64 ((w64 (c41.P * v11)) + (w64 ((w64 (c41.Q * v11)) * v11)))) (64 : Int)) _ _ (fixH hH (List.mem_of_getElem? (i := 3) rfl) (List.mem_of_getElem? (i := 4) rfl) (List.mem_of_getElem? (i := 5) rfl) (List.mem_of_getElem? (i := 6) rfl)) hr47) (st_cons rfl (ev_ex wantS_none (ex_fieldAddr rfl off105_0)) rfl rfl rfl (st_cons rfl (ev_ex wantS_none (ex_nilP rfl)) rfl rfl rfl (st_cons rfl (ev_ex wantS_none (ex_move rfl)) rfl rfl rfl (st_cons rfl (ev_ex wantS_none (ex_move rfl)) rfl rfl rfl st_nil)))) ?_
      obtain ⟨o49, ho49, h⟩ := bnd_some h
      refine DrawG.fl rfl (ev_ex wantS_none (ex_elX rfl rfl (arr_place (inA_natIn ho49) els103))) rfl ?_
      obtain ⟨l50, hl50, h⟩ := bnd_some h
      refine DrawG.opX rfl wantS_none rfl (ExG.storeA rfl rfl hH (i := 1) rfl hl50 sz3 rfl enc3_len enc3_ones) ?_
      rintro _ M51 ⟨rfl, (hH51 : Has Fr M51 [.obj b41 (.row 27 .whole [(.int .i64 c41.P), (.int .i64 c41.Q)]), .obj b44 (.row 105 .whole (l50.flatMap enc3)), .vec 72 1 l31.length s31 r31, tb0, tb1, tb2, tb3])⟩
      refine ⟨st_nil, ?_⟩
      refine DrawG.sync ?_
      refine DrawG.nil ?_
      refine Run.inBlock (Run.region ?_)
      refine Run.opG wantS_none (ex_add rfl rfl) rfl ?_
      refine Run.opG wantS_none (ex_move rfl) rfl ?_
      refine Run.opsEnd (Run.inLoop ?_)
      exact Run.low (.cons (fle_pick [0, 8, 9, 10, 14] rfl) (.cons (fle_pick [2, 3, 4] rfl) .nil)) (Run.pick [3, 5, 10, 11] (ih v10 (w64 (v11 + (1 : Int))) v0_f1 v8_f1 v9_f1 v10_f1 v2_f2 v3_f2 v4_f2 c41 l50 l31 sv8_f1 sv2_f2 b41 b44 s31 r31 _ _ _ hv8_f1 hv2_f2 hr31 hH51 h))
    · have h := bif_f hc46 h
      refine Run.condF' rfl hc46 ?_
      refine Run.exit rfl (Run.seq (Run.region ?_))
      refine Run.opG wantS_none (ex_move rfl) rfl ?_
      refine Run.opG wantS_none (ex_move rfl) rfl ?_
      obtain ⟨l53, hl53, h⟩ := bnd_some h
      have hs53 := bank_wave_samples_slc F hH (i := 1) rfl hl53
      refine Run.callP wantS_none (ex_call rfl mkk27 cal27) rfl (bank_wave_samples_ok F hH (i := 1) rfl hl53) ?_
      refine Run.opG wantS_none (ex_move rfl) rfl ?_
      obtain ⟨l56, hl56, h⟩ := bnd_some h
      have hs56 := bank_wave_samples_slc F hH (i := 1) rfl hl56
      refine Run.callP wantS_none (ex_call rfl mkk27 cal27) rfl (bank_wave_samples_ok F hH (i := 1) rfl hl56) ?_
      obtain ⟨r59, hr59, h⟩ := bnd_some h
      refine Run.callP wantS_none (ex_call rfl mkk73 cal73) rfl (bank_product_ok F l53 l56 (.slice b44 0 l53.length 64) (.slice b44 0 l56.length 64) _ _ hs53 hs56 hr59) ?_
      refine Run.opG wantS_none (ex_nilP rfl) rfl ?_
      refine Run.opG wantS_none (ex_fieldAddr rfl off105_2) rfl ?_
      obtain ⟨l62, hl62, h⟩ := bnd_some h
      refine Run.opX wantS_none rfl (ExG.storeA rfl rfl hH (i := 1) rfl hl62 sz3 rfl enc3_len enc3_ones) ?_
      rintro _ M63 ⟨rfl, (hH63 : Has Fr M63 [.obj b41 (.row 27 .whole [(.int .i64 c41.P), (.int .i64 c41.Q)]), .obj b44 (.row 105 .whole (l62.flatMap enc3)), .vec 72 1 l31.length s31 r31, tb0, tb1, tb2, tb3])⟩
      refine Run.opsEnd (Run.seq (Run.region ?_))
      refine Run.opG wantS_none (ex_move rfl) rfl ?_
      refine Run.opG wantS_none (ex_assign rfl) rfl ?_
      refine Run.opsEnd ?_
      refine Run.retTo Tryz.func26 rfl (res_tmp rfl res_nil) rfl ?_
      refine Run.freezeO (t := 17) (i := 1) rfl hH63 rfl ?_
      intro F66 M66 hle66 (hH66 : Has F66 M66 [.obj b41 (.row 27 .whole [(.int .i64 c41.P), (.int .i64 c41.Q)]), .vec 0 0 0 .nils [], .vec 72 1 l31.length s31 r31, tb0, tb1, tb2, tb3]) hp66
      have hf66 := rop_of hp66
      replace hv2_f2 := hv2_f2.mono hle66 (fun _ _ h => h)
      replace hv8_f1 := hv8_f1.mono hle66 (fun _ _ h => h)
      replace hr31 := hr31.mono fun _ _ => rep72_mo hle66
      have hr69 : Rows (rep72 F66) 1 [(.ptr b44 0)] ([l62] : List (List Int)) := (Rows.cons (cs := [(.ptr b44 0)]) rfl ⟨(.ptr b44 0), rfl, hf66⟩ Rows.nil)
      refine Run.opX wantS_none rfl (ExG.builtR (z := 1) (c := [(.ptr b44 0)]) rfl elt99 rfl rfl rfl hH66) ?_
      rintro s69 M70 (hH70 : Has F66 M70 [.vec 72 1 ([l62] : List (List Int)).length s69 [(.ptr b44 0)], .obj b41 (.row 27 .whole [(.int .i64 c41.P), (.int .i64 c41.Q)]), .vec 0 0 0 .nils [], .vec 72 1 l31.length s31 r31, tb0, tb1, tb2, tb3])
      obtain ⟨l73, hl73, h⟩ := bnd_some h
      refine Run.opX wantS_none rfl (ExG.appendQ (R := (rep72 F66)) rfl rfl hH70 (i := 3) rfl hr31 (fun _ _ => rep72_ones) rfl appt99_99 rfl (hH70.slcR (i := 0) rfl hr69) (rdLe_rdRow _) hl73) ?_
      rintro s73 M75 ⟨r73, hr73, (hH75 : Has F66 M75 [.vec 72 1 ([l62] : List (List Int)).length s69 [(.ptr b44 0)], .obj b41 (.row 27 .whole [(.int .i64 c41.P), (.int .i64 c41.Q)]), .vec 0 0 0 .nils [], .vec 72 1 l73.length s73 r73, tb0, tb1, tb2, tb3])⟩
      refine Run.opG wantS_none (ex_assign rfl) rfl ?_
      refine Run.opsEnd (Run.inBlock (Run.region ?_))
      refine Run.opG wantS_none (ex_add rfl rfl) rfl ?_
      refine Run.opG wantS_none (ex_move rfl) rfl ?_
      refine Run.opsEnd (Run.inLoop ?_)
      exact Run.low (.cons (fle_pick [2, 3, 4] rfl) .nil) (Run.pick [0, 5, 8, 9, 10] (hhd1 v0_f1 v8_f1 v9_f1 (w64 (v10_f1 + (1 : Int))) v2_f2 v3_f2 v4_f2 l73 sv8_f1 sv2_f2 s73 r73 _ _ _ hv8_f1 hv2_f2 hr73 (hH75.pick [3, 4, 5, 6, 7] rfl rfl) h))

def bank_Hits_1 (F : Nat) : Nat → Int → (List S_api_Chirp) → Int → Int → (List Int) → Int → Int → (List (List Int)) → Option ((List S_api_Hit) × Int)
  | 0, _, _, _, _, _, _, _, _ => none
  | N + 1, v0, v8, v9, v10, v2_f1, v3_f1, v4_f1, l31 =>
    bif (decide (v10 < v9)) then
      bnd (idx v8 v10) fun x35 =>
      bank_Hits_2 F (bank_Hits_1 F N) F v0 (0 : Int) v0 v8 v9 v10 v2_f1 v3_f1 v4_f1 x35 ([0, 0, 0, 0, 0, 0, 0, 0, 0, 0, 0, 0, 0, 0, 0, 0, 0, 0, 0, 0, 0, 0, 0, 0, 0, 0, 0, 0, 0, 0, 0, 0, 0, 0, 0, 0, 0, 0, 0, 0, 0, 0, 0, 0, 0, 0, 0, 0, 0, 0, 0, 0, 0, 0, 0, 0, 0, 0, 0, 0, 0, 0, 0, 0, v0, 0] : List Int) l31
    else
      bnd (bank_hits F l31 v2_f1 (w64 (v4_f1 * v3_f1))) fun r78 =>
      bnd (sortCP (fun x y => orI (Lib.compareInt x.Time y.Time) (Lib.compareInt x.Chirp y.Chirp)) r78) fun l82 =>
      some (l82, (0 : Int))

theorem bank_Hits_1_ok (F : Nat) : ∀ (N : Nat), ∀ (v0 : Int) (v8 : (List S_api_Chirp)) (v9 v10 : Int) (v2_f1 : (List Int)) (v3_f1 v4_f1 : Int) (l31 : (List (List Int))) (sv8 sv2_f1 s31 : SV) (r31 : (List SV)) (Fr : Rd) (M : Mem) (r : (List S_api_Hit) × Int) (hv8 : Slc Fr 2 (FlatR enc27) sv8 v8) (hv2_f1 : Slc Fr 1 (FlatR enc3) sv2_f1 v2_f1) (hr31 : Rows (rep72 Fr) 1 r31 l31) (hH : Has Fr M [.vec 72 1 l31.length s31 r31, tb0, tb1, tb2, tb3]), bank_Hits_1 F N v0 v8 v9 v10 v2_f1 v3_f1 v4_f1 l31 = some r → Run Tryz.prog ⟨⟨45, [], none⟩, [.mk ⟨17, [], none⟩ 34 (treeOf [(2, sv2_f1), (3, (.int .i64 v3_f1)), (4, (.int .i64 v4_f1))]) [itemC Tryz.prog 17 [1, 1, 0] 2, codeC Tryz.prog 17 [1, 1, 1]]]⟩ 22 (bank_Hits_post r) [(0, (.int .i64 v0)), (5, s31), (8, sv8), (9, (.int .i64 v9)), (10, (.int .i64 v10))] [codeC Tryz.prog 45 [1, 1, 0, 1, 0, 0], loopC Tryz.prog 45 [1, 1, 0, 1, 0, 0], .inBlock 0, codeC Tryz.prog 45 [1, 1, 1]] M := by
  intro N
  induction N with
  | zero =>
    intro v0 v8 v9 v10 v2_f1 v3_f1 v4_f1 l31 sv8 sv2_f1 s31 r31 Fr M r hv8 hv2_f1 hr31 hH h
    simp [bank_Hits_1] at h
  | succ N ih =>
    intro v0 v8 v9 v10 v2_f1 v3_f1 v4_f1 l31 sv8 sv2_f1 s31 r31 Fr M r hv8 hv2_f1 hr31 hH h
    rw [bank_Hits_1] at h
    refine Run.seq (Run.region ?_)
    refine Run.opG wantS_none (ex_lss rfl rfl) rfl ?_
    refine Run.opsEnd (Run.seq ?_)
    rcases btf ((decide (v10 < v9))) with hc33 | hc33
    · have h := bif_t hc33 h
      refine Run.condT' rfl hc33 ?_
      refine Run.skip (Run.seq (Run.block (Run.seq (Run.region ?_))))
      obtain ⟨x35, hx35, h⟩ := bnd_some h
      obtain ⟨p35, o35, _, hx35, hp35, rfl⟩ := sl_elem (P := Tryz.prog) (t := 43) (kk := .i64) hv8 hx35 els43
      refine Run.opG wantS_none (ex_elX rfl rfl hx35) rfl ?_
      refine Run.opG wantS_none (ex_loadA rfl (hH.ptrF hp35) rdLe_rfl agg27 rfl rfl rfl) rfl ?_
      refine Run.opX wantS_none rfl (ExG.new (v := fun b => .ptr b 0) (ex_alloc zer27) hH) ?_
      rintro _ M38 ⟨b37, rfl, hH38⟩
      refine Run.opX wantS_none rfl (ExG.storeC (c' := [(.int .i64 x35.P), (.int .i64 x35.Q)]) rfl rfl rfl hH38 (i := 0) rfl sz27 rfl rfl rfl rfl rfl) ?_
      rintro _ M39 ⟨rfl, (hH39 : Has Fr M39 [.obj b37 (.row 27 .whole [(.int .i64 x35.P), (.int .i64 x35.Q)]), .vec 72 1 l31.length s31 r31, tb0, tb1, tb2, tb3])⟩
      refine Run.opsEnd (Run.region ?_)
      refine Run.opG wantS_none (ex_move rfl) rfl ?_
      refine Run.opG wantS_none (ex_move rfl) rfl ?_
      refine Run.opG wantS_none (ex_loadA rfl (hH39.cells (i := 0) rfl 0 rfl) rdLe_rfl agg27 rfl rfl rfl) rfl ?_
      refine Run.enter wantS_none (ex_call rfl mkk26 cal26) Tryz.func26 rfl rfl ?_
      refine Run.seq (Run.region ?_)
      refine Run.opX wantS_none rfl (ExG.box rfl rfl hH39) ?_
      rintro _ M42 ⟨b41, rfl, hH42⟩
      refine Run.opG wantS_none (ex_assign rfl) rfl ?_
      refine Run.opsEnd (Run.seq (Run.region ?_))
      refine Run.opG wantS_none (ex_move rfl) rfl ?_
      refine Run.opG wantS_none (ex_build (r := [(.int .i64 0), (.int .i64 0), (.int .i64 0), (.int .i64 0), (.int .i64 0), (.int .i64 0), (.int .i64 0), (.int .i64 0), (.int .i64 0), (.int .i64 0), (.int .i64 0), (.int .i64 0), (.int .i64 0), (.int .i64 0), (.int .i64 0), (.int .i64 0), (.int .i64 0), (.int .i64 0), (.int .i64 0), (.int .i64 0), (.int .i64 0), (.int .i64 0), (.int .i64 0), (.int .i64 0), (.int .i64 0), (.int .i64 0), (.int .i64 0), (.int .i64 0), (.int .i64 0), (.int .i64 0), (.int .i64 0), (.int .i64 0), (.int .i64 0), (.int .i64 0), (.int .i64 0), (.int .i64 0), (.int .i64 0), (.int .i64 0), (.int .i64 0), (.int .i64 0), (.int .i64 0), (.int .i64 0), (.int .i64 0), (.int .i64 0), (.int .i64 0), (.int .i64 0), (.int .i64 0), (.int .i64 0), (.int .i64 0), (.int .i64 0), (.int .i64 0), (.int .i64 0), (.int .i64 0), (.int .i64 0), (.int .i64 0), (.int .i64 0), (.int .i64 0), (.int .i64 0), (.int .i64 0), (.int .i64 0), (.int .i64 0), (.int .i64 0), (.int .i64 0), (.int .i64 0), (.int .i64 v0), (.int .i64 0)]) rfl zer105 pls105 rfl) rfl ?_
      refine Run.opX wantS_none rfl (ExG.box (c := ([0, 0, 0, 0, 0, 0, 0, 0, 0, 0, 0, 0, 0, 0, 0, 0, 0, 0, 0, 0, 0, 0, 0, 0, 0, 0, 0, 0, 0, 0, 0, 0, 0, 0, 0, 0, 0, 0, 0, 0, 0, 0, 0, 0, 0, 0, 0, 0, 0, 0, 0, 0, 0, 0, 0, 0, 0, 0, 0, 0, 0, 0, 0, 0, v0, 0] : List Int).flatMap enc3) rfl rfl hH42) ?_
      rintro _ M45 ⟨b44, rfl, hH45⟩
      refine Run.opG wantS_none (ex_assign rfl) rfl ?_
      refine Run.opsEnd (Run.seq (Run.seq (Run.region ?_)))
      refine Run.opG wantS_none (ex_move rfl) rfl ?_
      refine Run.opG wantS_none (ex_move rfl) rfl ?_
      refine Run.opsEnd (Run.block (Run.loop ?_))
      exact Run.low (.cons (fle_pick [0, 8, 9, 10, 14] rfl) (.cons (fle_pick [2, 3, 4] rfl) .nil)) (Run.pick [3, 5, 10, 11] (bank_Hits_2_ok F (bank_Hits_1 F N) ih F v0 (0 : Int) v0 v8 v9 v10 v2_f1 v3_f1 v4_f1 x35 ([0, 0, 0, 0, 0, 0, 0, 0, 0, 0, 0, 0, 0, 0, 0, 0, 0, 0, 0, 0, 0, 0, 0, 0, 0, 0, 0, 0, 0, 0, 0, 0, 0, 0, 0, 0, 0, 0, 0, 0, 0, 0, 0, 0, 0, 0, 0, 0, 0, 0, 0, 0, 0, 0, 0, 0, 0, 0, 0, 0, 0, 0, 0, 0, v0, 0] : List Int) l31 sv8 sv2_f1 b41 b44 s31 r31 _ _ _ hv8 hv2_f1 hr31 (hH45.pick [1, 0, 3, 4, 5, 6, 7] rfl rfl) h))
    · have h := bif_f hc33 h
      refine Run.condF' rfl hc33 ?_
      refine Run.exit rfl (Run.seq (Run.region ?_))
      refine Run.opG wantS_none (ex_move rfl) rfl ?_
      refine Run.opG wantS_none (ex_assign rfl) rfl ?_
      refine Run.opsEnd ?_
      refine Run.retTo Tryz.func45 rfl (res_tmp rfl res_nil) rfl ?_
      refine Run.opG wantS_none (ex_move rfl) rfl ?_
      refine Run.opG wantS_none (ex_move rfl) rfl ?_
      refine Run.opG wantS_none (ex_move rfl) rfl ?_
      refine Run.opG wantS_none (ex_mul rfl rfl) rfl ?_
      obtain ⟨r78, hr78, h⟩ := bnd_some h
      refine Run.callX wantS_none (ex_call rfl mkk44 cal44) rfl (bank_hits_ok F l31 v2_f1 (w64 (v4_f1 * v3_f1)) s31 sv2_f1 _ _ (((hH.slcR (i := 0) rfl hr31)).mono (fun _ _ h => h) (fun _ _ => rep72_mo hH.le)) (hH.slcF hv2_f1) hr78) ?_
      rintro s78_0 M80 ⟨_, rfl, hN78⟩
      have hH80 : Has Fr M80 [.vec 54 3 r78.length s78_0 (r78.flatMap enc54), .vec 72 1 l31.length s31 r31, tb0, tb1, tb2, tb3] := hN78.1 _ _ hH
      refine Run.opG wantS_none (ex_assign rfl) rfl ?_
      refine Run.opsEnd (Run.seq (Run.region ?_))
      refine Run.opG wantS_none (ex_move rfl) rfl ?_
      obtain ⟨l82, hl82, h⟩ := bnd_some h
      refine Run.callX wantS_none (ex_call rfl mkk46 cal46) rfl ((sort46 enc54 (fun a => a.Time) (fun a => a.Chirp) (fun a => a.Out) (fun _ => rfl)).callsC hH80 (i := 0) rfl hl82) ?_
      rintro _ M83 ⟨rfl, (hH83 : Has Fr M83 [.vec 54 3 l82.length s78_0 (l82.flatMap enc54), .vec 72 1 l31.length s31 r31, tb0, tb1, tb2, tb3])⟩
      refine Run.opsEnd (Run.seq (Run.region ?_))
      refine Run.opG wantS_none (ex_move rfl) rfl ?_
      refine Run.opG wantS_none (ex_assign rfl) rfl ?_
      refine Run.opG wantS_none (ex_assign rfl) rfl ?_
      refine Run.opsEnd ?_
      cases h
      exact Run.ret Tryz.func17 rfl (res_tmp rfl (res_tmp rfl res_nil)) ⟨_, rfl, (hH83.pick [0] rfl rfl).upF (none_le _)⟩

def bank_Hits (F : Nat) (a0 : Int) (a1 : (List S_api_Chirp)) (a2 : (List Int)) (a3 a4 : Int) : Option ((List S_api_Hit) × Int) :=
  bnd (bank_checkHits F a0 a1 a2 a3 a4) fun r26 =>
  bif (!(r26 == (0 : Int))) then
    some (([] : List S_api_Hit), r26)
  else
    bank_Hits_1 F F a0 a1 (a1.length : Int) (0 : Int) a2 a3 a4 ([] : List (List Int))

theorem bank_Hits_ok (F : Nat) (a0 : Int) (a1 : (List S_api_Chirp)) (a2 : (List Int)) (a3 a4 : Int) (s0 s1 : SV) (r : (List S_api_Hit) × Int) (M : Mem) (hs0 : Slc (rd M) 2 (FlatR enc27) s0 a1) (hs1 : Slc (rd M) 1 (FlatR enc3) s1 a2) (hfx : FixIn M fixes) (h : bank_Hits F a0 a1 a2 a3 a4 = some r) : CallsM Tryz.prog 17 [(.int .i64 a0), s0, s1, (.int .i64 a3), (.int .i64 a4)] M (fun s M' => ∃ q1, s = (.tuple [q1, (.int .i64 r.2)]) ∧ New M M' [.vec 54 3 r.1.length q1 (r.1.flatMap enc54)]) := by
  refine CallsM.fresh (Q := bank_Hits_post r) Tryz.func17 rfl rfl ?_ (by rintro s Me ⟨q1, rfl, hx⟩ ha hw; exact ⟨_, rfl, New.of rfl hx ha hw⟩)
  rw [bank_Hits] at h
  replace hs0 := hs0.mono (rdLe_frozen M) (fun _ _ h => h)
  replace hs1 := hs1.mono (rdLe_frozen M) (fun _ _ h => h)
  have hH : Has (ro (frozen M)) (frozen M) [tb0, tb1, tb2, tb3] := Has.ofFix hfx.frozen
  refine Run.seq (Run.region ?_)
  refine Run.opG wantS_none (ex_assign rfl) rfl ?_
  refine Run.opG wantS_none (ex_assign rfl) rfl ?_
  refine Run.opsEnd (Run.seq (Run.seq (Run.region ?_)))
  refine Run.opG wantS_none (ex_move rfl) rfl ?_
  refine Run.opG wantS_none (ex_move rfl) rfl ?_
  refine Run.opG wantS_none (ex_move rfl) rfl ?_
  refine Run.opG wantS_none (ex_move rfl) rfl ?_
  refine Run.opG wantS_none (ex_move rfl) rfl ?_
  obtain ⟨r26, hr26, h⟩ := bnd_some h
  refine Run.callP wantS_none (ex_call rfl mkk43 cal43) rfl (bank_checkHits_ok F a0 a1 a2 a3 a4 s0 s1 _ _ (hH.slcF hs0) (hH.slcF hs1) (fixH hH (List.mem_of_getElem? (i := 0) rfl) (List.mem_of_getElem? (i := 1) rfl) (List.mem_of_getElem? (i := 2) rfl) (List.mem_of_getElem? (i := 3) rfl)) hr26) ?_
  refine Run.opG wantS_none (ex_assign rfl) rfl ?_
  refine Run.opsEnd (Run.seq (Run.region ?_))
  refine Run.opG wantS_none (ex_move rfl) rfl ?_
  refine Run.opG wantS_none (ex_neq rfl rfl) rfl ?_
  refine Run.opsEnd ?_
  rcases btf ((!(r26 == (0 : Int)))) with hc28 | hc28
  · have h := bif_t hc28 h
    refine Run.condT' rfl hc28 ?_
    refine Run.seq (Run.region ?_)
    refine Run.opG wantS_none (ex_move rfl) rfl ?_
    refine Run.opG wantS_none (ex_assign rfl) rfl ?_
    refine Run.opG wantS_none (ex_assign rfl) rfl ?_
    refine Run.opsEnd ?_
    have hH30 : Has (ro (frozen M)) (frozen M) [.vec 54 3 ([] : List S_api_Hit).length .nils (([] : List S_api_Hit).flatMap enc54), tb0, tb1, tb2, tb3] := hH.nils 54 3
    cases h
    exact Run.ret Tryz.func17 rfl (res_tmp rfl (res_tmp rfl res_nil)) ⟨_, rfl, (hH30.pick [0] rfl rfl).upF (none_le _)⟩
  · have h := bif_f hc28 h
    refine Run.condF' rfl hc28 ?_
    refine Run.skip (Run.seq (Run.region ?_))
    refine Run.opG wantS_none (ex_move rfl) rfl ?_
    refine Run.opG wantS_none (ex_move rfl) rfl ?_
    refine Run.enter wantS_none (ex_call rfl mkk45 cal45) Tryz.func45 rfl rfl ?_
    refine Run.seq (Run.region ?_)
    refine Run.opG wantS_none (ex_assign rfl) rfl ?_
    refine Run.opsEnd (Run.seq (Run.region ?_))
    refine Run.opG wantS_none (ex_assign rfl) rfl ?_
    refine Run.opsEnd (Run.seq (Run.seq (Run.region ?_)))
    refine Run.opG wantS_none (ex_move rfl) rfl ?_
    refine Run.opG wantS_none (ex_len' rfl hs0 lenk43) rfl ?_
    refine Run.opG wantS_none (ex_move rfl) rfl ?_
    refine Run.opsEnd (Run.block (Run.loop ?_))
    have hH32 : Has (ro (frozen M)) (frozen M) [.vec 72 1 ([] : List (List Int)).length .nils [], tb0, tb1, tb2, tb3] := hH.nils 72 1
    exact Run.low (.cons (fle_pick [2, 3, 4] rfl) .nil) (Run.pick [0, 5, 8, 9, 10] (bank_Hits_1_ok F F a0 a1 (a1.length : Int) (0 : Int) a2 a3 a4 ([] : List (List Int)) s0 s1 .nils [] _ _ _ hs0 hs1 Rows.nil hH32 h))

theorem mkk17 : makeK Tryz.prog 17 = none := by kernel_rfl
theorem cal17 : callable Tryz.prog 17 = true := by kernel_rfl
theorem lenk50 : lenK Tryz.prog 50 = some .sl := by kernel_rfl
theorem els50 : elems Tryz.prog 50 = some (.sl 3) := by kernel_rfl
theorem off54_0 : fieldOff Tryz.prog 54 0 = some 0 := by kernel_rfl
theorem off54_1 : fieldOff Tryz.prog 54 1 = some 1 := by kernel_rfl
theorem plan4_1_1_1_1_1_1_1_0 : planOf Tryz.prog (opsC (atC Tryz.prog 4 [1, 1, 1, 1, 1, 1, 1, 0])) = some [.fl 0, .fl 1, .fl 2, .fl 3, .fl 4, .fl 7, .an 5 [7, 2, 1, 0], .fl 6, .an 8 [], .fl 9, .sync] := by kernel_rfl
theorem plan4_1_1_1_1_1_0 : planOf Tryz.prog (opsC (atC Tryz.prog 4 [1, 1, 1, 1, 1, 0])) = some [.fl 0, .fl 1, .fl 2, .fl 3, .fl 4, .fl 5, .fl 6, .an 7 [], .fl 8, .fl 9, .fl 10, .fl 11, .fl 12, .sync] := by kernel_rfl
theorem plan4_1_1_1_1_0 : planOf Tryz.prog (opsC (atC Tryz.prog 4 [1, 1, 1, 1, 0])) = some [.fl 0, .fl 1, .fl 2, .fl 3, .fl 4, .fl 5, .fl 6, .fl 7, .fl 8, .fl 9, .fl 10, .fl 11, .fl 12, .an 13 [], .fl 14, .fl 15, .fl 16, .fl 17, .fl 18, .sync] := by kernel_rfl
abbrev law07_BankSure_post (r : Bool) : SV → Mem → Prop := fun s _ => s = (.bool r)

def law07_BankSure_7 (F : Nat) (v104 : Bool) : Option (Bool) :=
  some v104

theorem law07_BankSure_7_ok (F : Nat) : ∀ (v104 : Bool) (Fr : Rd) (M : Mem) (r : Bool) (hH : Has Fr M [tb0, tb1, tb2, tb3]), law07_BankSure_7 F v104 = some r → Run Tryz.prog ⟨⟨4, [], none⟩, []⟩ 163 (law07_BankSure_post r) [(104, (.bool v104))] [itemC Tryz.prog 4 [1, 1, 1, 1, 1, 1, 0, 1, 0, 0] 5, codeC Tryz.prog 4 [1, 1, 1, 1, 1, 1, 0, 1, 0, 1], codeC Tryz.prog 4 [1, 1, 1, 1, 1, 1, 1]] M := by
  intro v104 Fr M r hH h
  rw [law07_BankSure_7] at h
  refine Run.opG wantS_none (ex_assign rfl) rfl ?_
  refine Run.opsEnd ?_
  cases h
  exact Run.ret Tryz.func4 rfl (res_tmp rfl res_nil) rfl

def law07_BankSure_9 (F : Nat) (hd8 : Int → Int → Int → Bool → Int → (List S_api_Hit) → Option (Bool)) (v3 v4 v6 v12 : Int) (v154 : Bool) (l63 : (List S_api_Hit)) : Option (Bool) :=
  hd8 v3 v4 v6 v154 (w64 (v12 + (1 : Int))) l63

theorem law07_BankSure_9_ok (F : Nat) (hd8 : Int → Int → Int → Bool → Int → (List S_api_Hit) → Option (Bool)) (hhd8 : ∀ (v3 v4 v6 : Int) (v11 : Bool) (v12 : Int) (l63 : (List S_api_Hit)) (s63 : SV) (Fr : Rd) (M : Mem) (r : Bool) (hH : Has Fr M [.vec 54 3 l63.length s63 (l63.flatMap enc54), tb0, tb1, tb2, tb3]), hd8 v3 v4 v6 v11 v12 l63 = some r → Run Tryz.prog ⟨⟨4, [], none⟩, []⟩ 163 (law07_BankSure_post r) [(3, (.int .i64 v3)), (4, (.int .i64 v4)), (6, (.int .i64 v6)), (10, s63), (11, (.bool v11)), (12, (.int .i64 v12))] [codeC Tryz.prog 4 [1, 1, 1, 1, 1, 1, 1, 1, 1, 1, 1, 0, 1, 0, 0], loopC Tryz.prog 4 [1, 1, 1, 1, 1, 1, 1, 1, 1, 1, 1, 0, 1, 0, 0], .inBlock 0, codeC Tryz.prog 4 [1, 1, 1, 1, 1, 1, 1, 1, 1, 1, 1, 1]] M) : ∀ (v3 v4 v6 v12 : Int) (v154 : Bool) (l63 : (List S_api_Hit)) (s63 : SV) (Fr : Rd) (M : Mem) (r : Bool) (hH : Has Fr M [.vec 54 3 l63.length s63 (l63.flatMap enc54), tb0, tb1, tb2, tb3]), law07_BankSure_9 F hd8 v3 v4 v6 v12 v154 l63 = some r → Run Tryz.prog ⟨⟨4, [], none⟩, []⟩ 163 (law07_BankSure_post r) [(3, (.int .i64 v3)), (4, (.int .i64 v4)), (6, (.int .i64 v6)), (10, s63), (12, (.int .i64 v12)), (154, (.bool v154))] [itemC Tryz.prog 4 [1, 1, 1, 1, 1, 1, 1, 1, 1, 1, 1, 0, 1, 0, 0, 1, 0, 0] 19, .inBlock 1, codeC Tryz.prog 4 [1, 1, 1, 1, 1, 1, 1, 1, 1, 1, 1, 0, 1, 0, 0, 1, 1], loopC Tryz.prog 4 [1, 1, 1, 1, 1, 1, 1, 1, 1, 1, 1, 0, 1, 0, 0], .inBlock 0, codeC Tryz.prog 4 [1, 1, 1, 1, 1, 1, 1, 1, 1, 1, 1, 1]] M := by
  intro v3 v4 v6 v12 v154 l63 s63 Fr M r hH h
  rw [law07_BankSure_9] at h
  refine Run.opG wantS_none (ex_assign rfl) rfl ?_
  refine Run.opsEnd (Run.inBlock (Run.region ?_))
  refine Run.opG wantS_none (ex_move rfl) rfl ?_
  refine Run.opG wantS_none (ex_add rfl rfl) rfl ?_
  refine Run.opG wantS_none (ex_assign rfl) rfl ?_
  refine Run.opsEnd (Run.inLoop ?_)
  exact Run.pick [3, 4, 6, 10, 11, 12] (hhd8 v3 v4 v6 v154 (w64 (v12 + (1 : Int))) l63 s63 _ _ _ hH h)

def law07_BankSure_10 (F : Nat) (hd8 : Int → Int → Int → Bool → Int → (List S_api_Hit) → Option (Bool)) (v3 v4 v6 v12 : Int) (v137 v153 : Bool) (l63 : (List S_api_Hit)) : Option (Bool) :=
  law07_BankSure_9 F hd8 v3 v4 v6 v12 (bif v137 then true else v153) l63

theorem law07_BankSure_10_ok (F : Nat) (hd8 : Int → Int → Int → Bool → Int → (List S_api_Hit) → Option (Bool)) (hhd8 : ∀ (v3 v4 v6 : Int) (v11 : Bool) (v12 : Int) (l63 : (List S_api_Hit)) (s63 : SV) (Fr : Rd) (M : Mem) (r : Bool) (hH : Has Fr M [.vec 54 3 l63.length s63 (l63.flatMap enc54), tb0, tb1, tb2, tb3]), hd8 v3 v4 v6 v11 v12 l63 = some r → Run Tryz.prog ⟨⟨4, [], none⟩, []⟩ 163 (law07_BankSure_post r) [(3, (.int .i64 v3)), (4, (.int .i64 v4)), (6, (.int .i64 v6)), (10, s63), (11, (.bool v11)), (12, (.int .i64 v12))] [codeC Tryz.prog 4 [1, 1, 1, 1, 1, 1, 1, 1, 1, 1, 1, 0, 1, 0, 0], loopC Tryz.prog 4 [1, 1, 1, 1, 1, 1, 1, 1, 1, 1, 1, 0, 1, 0, 0], .inBlock 0, codeC Tryz.prog 4 [1, 1, 1, 1, 1, 1, 1, 1, 1, 1, 1, 1]] M) : ∀ (v3 v4 v6 v12 : Int) (v137 v153 : Bool) (l63 : (List S_api_Hit)) (s63 : SV) (Fr : Rd) (M : Mem) (r : Bool) (hH : Has Fr M [.vec 54 3 l63.length s63 (l63.flatMap enc54), tb0, tb1, tb2, tb3]), law07_BankSure_10 F hd8 v3 v4 v6 v12 v137 v153 l63 = some r → Run Tryz.prog ⟨⟨4, [], none⟩, []⟩ 163 (law07_BankSure_post r) [(3, (.int .i64 v3)), (4, (.int .i64 v4)), (6, (.int .i64 v6)), (10, s63), (12, (.int .i64 v12)), (137, (.bool v137)), (153, (.bool v153))] [itemC Tryz.prog 4 [1, 1, 1, 1, 1, 1, 1, 1, 1, 1, 1, 0, 1, 0, 0, 1, 0, 0] 18, .inBlock 1, codeC Tryz.prog 4 [1, 1, 1, 1, 1, 1, 1, 1, 1, 1, 1, 0, 1, 0, 0, 1, 1], loopC Tryz.prog 4 [1, 1, 1, 1, 1, 1, 1, 1, 1, 1, 1, 0, 1, 0, 0], .inBlock 0, codeC Tryz.prog 4 [1, 1, 1, 1, 1, 1, 1, 1, 1, 1, 1, 1]] M := by
  intro v3 v4 v6 v12 v137 v153 l63 s63 Fr M r hH h
  rw [law07_BankSure_10] at h
  refine Run.opG wantS_none (ex_pickB rfl rfl rfl) rfl ?_
  exact Run.pick [3, 4, 6, 10, 12, 154] (law07_BankSure_9_ok F hd8 hhd8 v3 v4 v6 v12 (bif v137 then true else v153) l63 s63 _ _ _ hH h)

def law07_BankSure_12 (F : Nat) (v162 : Bool) : Option (Bool) :=
  some v162

theorem law07_BankSure_12_ok (F : Nat) : ∀ (v162 : Bool) (Fr : Rd) (M : Mem) (r : Bool) (hH : Has Fr M [tb0, tb1, tb2, tb3]), law07_BankSure_12 F v162 = some r → Run Tryz.prog ⟨⟨4, [], none⟩, []⟩ 163 (law07_BankSure_post r) [(162, (.bool v162))] [itemC Tryz.prog 4 [1, 1, 1, 1, 1, 1, 1, 1, 1, 1, 1, 1, 0] 8, codeC Tryz.prog 4 [1, 1, 1, 1, 1, 1, 1, 1, 1, 1, 1, 1, 1]] M := by
  intro v162 Fr M r hH h
  rw [law07_BankSure_12] at h
  refine Run.opG wantS_none (ex_assign rfl) rfl ?_
  refine Run.opsEnd ?_
  cases h
  exact Run.ret Tryz.func4 rfl (res_tmp rfl res_nil) rfl

def law07_BankSure_11 (F : Nat) (v159 : Bool) : Option (Bool) :=
  bif v159 then
    bnd (works F) fun r79 =>
    law07_BankSure_12 F r79
  else
    law07_BankSure_12 F false

theorem law07_BankSure_11_ok (F : Nat) : ∀ (v159 : Bool) (Fr : Rd) (M : Mem) (r : Bool) (hH : Has Fr M [tb0, tb1, tb2, tb3]), law07_BankSure_11 F v159 = some r → Run Tryz.prog ⟨⟨4, [], none⟩, []⟩ 163 (law07_BankSure_post r) [(159, (.bool v159))] [itemC Tryz.prog 4 [1, 1, 1, 1, 1, 1, 1, 1, 1, 1, 1, 1, 0] 5, codeC Tryz.prog 4 [1, 1, 1, 1, 1, 1, 1, 1, 1, 1, 1, 1, 1]] M := by
  intro v159 Fr M r hH h
  rw [law07_BankSure_11] at h
  refine Run.opG wantS_none (ex_move rfl) rfl ?_
  rcases btf (v159) with hc77 | hc77
  · have h := bif_t hc77 h
    obtain ⟨r79, hr79, h⟩ := bnd_some h
    refine Run.callP (wantS_yes' rfl rfl hc77) (ex_call rfl mkk8 cal8) rfl (works_ok F r79 _ hH (List.mem_of_getElem? (i := 0) rfl) (List.mem_of_getElem? (i := 1) rfl) (List.mem_of_getElem? (i := 2) rfl) (List.mem_of_getElem? (i := 3) rfl) hr79) ?_
    refine Run.opG wantS_none (ex_pickT' rfl hc77 rfl rfl) rfl ?_
    exact Run.pick [162] (law07_BankSure_12_ok F r79 _ _ _ hH h)
  · have h := bif_f hc77 h
    refine Run.no (wantS_not' rfl rfl hc77) rfl ?_
    refine Run.opG wantS_none (ex_pickF' rfl hc77 rfl rfl) rfl ?_
    exact Run.pick [162] (law07_BankSure_12_ok F false _ _ _ hH h)

def law07_BankSure_8 (F : Nat) : Nat → Int → Int → Int → Bool → Int → (List S_api_Hit) → Option (Bool)
  | 0, _, _, _, _, _, _ => none
  | N + 1, v3, v4, v6, v11, v12, l63 =>
    bif (decide (v12 < (l63.length : Int))) then
      bif v11 then
        law07_BankSure_9 F (law07_BankSure_8 F N) v3 v4 v6 v12 true l63
      else
        bnd (idx l63 v12) fun x72 =>
        bif (x72.Time == v4) then
          bnd (idx l63 v12) fun x75 =>
          law07_BankSure_10 F (law07_BankSure_8 F N) v3 v4 v6 v12 v11 (x75.Chirp == v3) l63
        else
          law07_BankSure_10 F (law07_BankSure_8 F N) v3 v4 v6 v12 v11 false l63
    else
      bif (v6 == (0 : Int)) then
        law07_BankSure_11 F v11
      else
        law07_BankSure_11 F false

theorem law07_BankSure_8_ok (F : Nat) : ∀ (N : Nat), ∀ (v3 v4 v6 : Int) (v11 : Bool) (v12 : Int) (l63 : (List S_api_Hit)) (s63 : SV) (Fr : Rd) (M : Mem) (r : Bool) (hH : Has Fr M [.vec 54 3 l63.length s63 (l63.flatMap enc54), tb0, tb1, tb2, tb3]), law07_BankSure_8 F N v3 v4 v6 v11 v12 l63 = some r → Run Tryz.prog ⟨⟨4, [], none⟩, []⟩ 163 (law07_BankSure_post r) [(3, (.int .i64 v3)), (4, (.int .i64 v4)), (6, (.int .i64 v6)), (10, s63), (11, (.bool v11)), (12, (.int .i64 v12))] [codeC Tryz.prog 4 [1, 1, 1, 1, 1, 1, 1, 1, 1, 1, 1, 0, 1, 0, 0], loopC Tryz.prog 4 [1, 1, 1, 1, 1, 1, 1, 1, 1, 1, 1, 0, 1, 0, 0], .inBlock 0, codeC Tryz.prog 4 [1, 1, 1, 1, 1, 1, 1, 1, 1, 1, 1, 1]] M := by
  intro N
  induction N with
  | zero =>
    intro v3 v4 v6 v11 v12 l63 s63 Fr M r hH h
    simp [law07_BankSure_8] at h
  | succ N ih =>
    intro v3 v4 v6 v11 v12 l63 s63 Fr M r hH h
    rw [law07_BankSure_8] at h
    refine Run.seq (Run.seq (Run.region ?_))
    refine Run.opG wantS_none (ex_move rfl) rfl ?_
    refine Run.opG wantS_none (ex_move rfl) rfl ?_
    refine Run.opG wantS_none (ex_len' rfl (hH.slc (i := 0) rfl enc54_len) lenk50) rfl ?_
    refine Run.opG wantS_none (ex_lss rfl rfl) rfl ?_
    refine Run.opsEnd ?_
    rcases btf ((decide (v12 < (l63.length : Int)))) with hc69 | hc69
    · have h := bif_t hc69 h
      refine Run.condT' rfl hc69 ?_
      refine Run.skip (Run.seq (Run.block (Run.region ?_)))
      refine Run.opG wantS_none (ex_move rfl) rfl ?_
      refine Run.opG wantS_none (ex_move rfl) rfl ?_
      rcases btf (v11) with hc70 | hc70
      · have h := bif_t hc70 h
        refine Run.no (wantS_not' rfl rfl hc70) rfl ?_
        refine Run.no (wantS_not' rfl rfl hc70) rfl ?_
        refine Run.no (wantS_not' rfl rfl hc70) rfl ?_
        refine Run.no (wantS_not' rfl rfl hc70) rfl ?_
        refine Run.no (wantS_not' rfl rfl hc70) rfl ?_
        refine Run.no (wantS_not' rfl rfl hc70) rfl ?_
        refine Run.no (wantS_not' rfl rfl hc70) rfl ?_
        refine Run.no (wantS_not' rfl rfl hc70) rfl ?_
        refine Run.no (wantS_skip rfl rfl) rfl ?_
        refine Run.no (wantS_skip rfl rfl) rfl ?_
        refine Run.no (wantS_skip rfl rfl) rfl ?_
        refine Run.no (wantS_skip rfl rfl) rfl ?_
        refine Run.no (wantS_skip rfl rfl) rfl ?_
        refine Run.no (wantS_skip rfl rfl) rfl ?_
        refine Run.no (wantS_skip rfl rfl) rfl ?_
        refine Run.no (wantS_not' rfl rfl hc70) rfl ?_
        refine Run.opG wantS_none (ex_pickT' rfl hc70 rfl rfl) rfl ?_
        exact Run.pick [3, 4, 6, 10, 12, 154] (law07_BankSure_9_ok F (law07_BankSure_8 F N) ih v3 v4 v6 v12 true l63 s63 _ _ _ hH h)
      · have h := bif_f hc70 h
        refine Run.opG (wantS_yes' rfl rfl hc70) (ex_move rfl) rfl ?_
        refine Run.opG (wantS_yes' rfl rfl hc70) (ex_move rfl) rfl ?_
        obtain ⟨x72, hx72, h⟩ := bnd_some h
        obtain ⟨p72, o72, hb72, hx72, he72⟩ := vec_elem (P := Tryz.prog) (t := 50) (kk := .i64) hH (i := 0) rfl hx72 els50
        refine Run.opG (wantS_yes' rfl rfl hc70) (ex_elX rfl rfl hx72) rfl ?_
        refine Run.opG (wantS_yes' rfl rfl hc70) (ex_fieldAddr rfl off54_0) rfl ?_
        refine Run.opG (wantS_yes' rfl rfl hc70) (ex_load1 rfl ((hH.at (enc := enc54) (a := x72) (i := 0) rfl hb72 he72 enc54_len).fld (o := 0) rfl) rdLe_rfl agg3) rfl ?_
        refine Run.opG (wantS_yes' rfl rfl hc70) (ex_move rfl) rfl ?_
        refine Run.opG (wantS_yes' rfl rfl hc70) (ex_eql rfl rfl) rfl ?_
        refine Run.opG (wantS_yes' rfl rfl hc70) (ex_move rfl) rfl ?_
        rcases btf ((x72.Time == v4)) with hc73 | hc73
        · have h := bif_t hc73 h
          refine Run.opG (wantS_yes' rfl rfl hc73) (ex_move rfl) rfl ?_
          refine Run.opG (wantS_yes' rfl rfl hc73) (ex_move rfl) rfl ?_
          obtain ⟨x75, hx75, h⟩ := bnd_some h
          obtain ⟨p75, o75, hb75, hx75, he75⟩ := vec_elem (P := Tryz.prog) (t := 50) (kk := .i64) hH (i := 0) rfl hx75 els50
          refine Run.opG (wantS_yes' rfl rfl hc73) (ex_elX rfl rfl hx75) rfl ?_
          refine Run.opG (wantS_yes' rfl rfl hc73) (ex_fieldAddr rfl off54_1) rfl ?_
          refine Run.opG (wantS_yes' rfl rfl hc73) (ex_load1 rfl ((hH.at (enc := enc54) (a := x75) (i := 0) rfl hb75 he75 enc54_len).fld (o := 1) rfl) rdLe_rfl agg3) rfl ?_
          refine Run.opG (wantS_yes' rfl rfl hc73) (ex_move rfl) rfl ?_
          refine Run.opG (wantS_yes' rfl rfl hc73) (ex_eql rfl rfl) rfl ?_
          refine Run.opG (wantS_yes' rfl rfl hc70) (ex_pickT' rfl hc73 rfl rfl) rfl ?_
          exact Run.pick [3, 4, 6, 10, 12, 137, 153] (law07_BankSure_10_ok F (law07_BankSure_8 F N) ih v3 v4 v6 v12 v11 (x75.Chirp == v3) l63 s63 _ _ _ hH h)
        · have h := bif_f hc73 h
          refine Run.no (wantS_not' rfl rfl hc73) rfl ?_
          refine Run.no (wantS_not' rfl rfl hc73) rfl ?_
          refine Run.no (wantS_not' rfl rfl hc73) rfl ?_
          refine Run.no (wantS_not' rfl rfl hc73) rfl ?_
          refine Run.no (wantS_not' rfl rfl hc73) rfl ?_
          refine Run.no (wantS_not' rfl rfl hc73) rfl ?_
          refine Run.no (wantS_not' rfl rfl hc73) rfl ?_
          refine Run.opG (wantS_yes' rfl rfl hc70) (ex_pickF' rfl hc73 rfl rfl) rfl ?_
          exact Run.pick [3, 4, 6, 10, 12, 137, 153] (law07_BankSure_10_ok F (law07_BankSure_8 F N) ih v3 v4 v6 v12 v11 false l63 s63 _ _ _ hH h)
    · have h := bif_f hc69 h
      refine Run.condF' rfl hc69 ?_
      refine Run.exit rfl (Run.seq (Run.region ?_))
      refine Run.opG wantS_none (ex_move rfl) rfl ?_
      refine Run.opG wantS_none (ex_eql rfl rfl) rfl ?_
      refine Run.opG wantS_none (ex_move rfl) rfl ?_
      rcases btf ((v6 == (0 : Int))) with hc76 | hc76
      · have h := bif_t hc76 h
        refine Run.opG (wantS_yes' rfl rfl hc76) (ex_move rfl) rfl ?_
        refine Run.opG wantS_none (ex_pickT' rfl hc76 rfl rfl) rfl ?_
        exact Run.pick [159] (law07_BankSure_11_ok F v11 _ _ _ (hH.pick [1, 2, 3, 4] rfl rfl) h)
      · have h := bif_f hc76 h
        refine Run.no (wantS_not' rfl rfl hc76) rfl ?_
        refine Run.opG wantS_none (ex_pickF' rfl hc76 rfl rfl) rfl ?_
        exact Run.pick [159] (law07_BankSure_11_ok F false _ _ _ (hH.pick [1, 2, 3, 4] rfl rfl) h)

def law07_BankSure_6 (F : Nat) (v3 v4 v5 : Int) (v7 : (List Int)) (v8 : Int) (v99 : Bool) (c26_0 : Int) (c26_1 : (List S_api_Chirp)) (c26_2 c26_3 c26_4 : Int) (c26_5 : (List Int)) (c26_6 c26_7 c26_8 : Int) : Option (Bool) :=
  bif v99 then
    bif (v8 == (0 : Int)) then
      bnd (works F) fun r53 =>
      law07_BankSure_7 F r53
    else
      law07_BankSure_7 F false
  else
    bnd (ref00_Mod F c26_3 (20 : Int)) fun r55 =>
    bnd (law07_buried F (S_ringdownlaw07_Signal.mk c26_0 c26_1 c26_2 c26_3 c26_4 c26_5 c26_6 c26_7 c26_8) v7 (w64 (v5 + r55)) v4) fun r57 =>
    bnd (bank_Hits F c26_0 c26_1 r57 c26_7 c26_8) fun r62 =>
    bif (r62.2 == (73 : Int)) then
      bnd (works F) fun r67 =>
      some r67
    else
      law07_BankSure_8 F F v3 v4 r62.2 false (0 : Int) r62.1

theorem law07_BankSure_6_ok (F : Nat) : ∀ (v3 v4 v5 : Int) (v7 : (List Int)) (v8 : Int) (v99 : Bool) (c26_0 : Int) (c26_1 : (List S_api_Chirp)) (c26_2 c26_3 c26_4 : Int) (c26_5 : (List Int)) (c26_6 c26_7 c26_8 : Int) (sv7 sc26_1 sc26_5 : SV) (b26 : Pos) (Fr : Rd) (M : Mem) (r : Bool) (hv7 : Slc Fr 1 (FlatR enc3) sv7 v7) (hc26_1 : Slc Fr 2 (FlatR enc27) sc26_1 c26_1) (hc26_5 : Slc Fr 1 (FlatR enc3) sc26_5 c26_5) (hH : Has Fr M [.obj b26 (.row 45 .whole [(.int .i64 c26_0), sc26_1, (.int .i64 c26_2), (.int .i64 c26_3), (.int .i64 c26_4), sc26_5, (.int .i64 c26_6), (.int .i64 c26_7), (.int .i64 c26_8)]), tb0, tb1, tb2, tb3]), law07_BankSure_6 F v3 v4 v5 v7 v8 v99 c26_0 c26_1 c26_2 c26_3 c26_4 c26_5 c26_6 c26_7 c26_8 = some r → Run Tryz.prog ⟨⟨4, [], none⟩, []⟩ 163 (law07_BankSure_post r) [(1, (.ptr b26 0)), (3, (.int .i64 v3)), (4, (.int .i64 v4)), (5, (.int .i64 v5)), (7, sv7), (8, (.int .i64 v8)), (99, (.bool v99))] [codeC Tryz.prog 4 [1, 1, 1, 1, 1, 1, 0, 1], codeC Tryz.prog 4 [1, 1, 1, 1, 1, 1, 1]] M := by
  intro v3 v4 v5 v7 v8 v99 c26_0 c26_1 c26_2 c26_3 c26_4 c26_5 c26_6 c26_7 c26_8 sv7 sc26_1 sc26_5 b26 Fr M r hv7 hc26_1 hc26_5 hH h
  rw [law07_BankSure_6] at h
  rcases btf (v99) with hc50 | hc50
  · have h := bif_t hc50 h
    refine Run.condT' rfl hc50 ?_
    refine Run.seq (Run.region ?_)
    refine Run.opG wantS_none (ex_move rfl) rfl ?_
    refine Run.opG wantS_none (ex_eql rfl rfl) rfl ?_
    refine Run.opG wantS_none (ex_move rfl) rfl ?_
    rcases btf ((v8 == (0 : Int))) with hc51 | hc51
    · have h := bif_t hc51 h
      obtain ⟨r53, hr53, h⟩ := bnd_some h
      refine Run.callP (wantS_yes' rfl rfl hc51) (ex_call rfl mkk8 cal8) rfl (works_ok F r53 _ hH (List.mem_of_getElem? (i := 1) rfl) (List.mem_of_getElem? (i := 2) rfl) (List.mem_of_getElem? (i := 3) rfl) (List.mem_of_getElem? (i := 4) rfl) hr53) ?_
      refine Run.opG wantS_none (ex_pickT' rfl hc51 rfl rfl) rfl ?_
      exact Run.pick [104] (law07_BankSure_7_ok F r53 _ _ _ (hH.pick [1, 2, 3, 4] rfl rfl) h)
    · have h := bif_f hc51 h
      refine Run.no (wantS_not' rfl rfl hc51) rfl ?_
      refine Run.opG wantS_none (ex_pickF' rfl hc51 rfl rfl) rfl ?_
      exact Run.pick [104] (law07_BankSure_7_ok F false _ _ _ (hH.pick [1, 2, 3, 4] rfl rfl) h)
  · have h := bif_f hc50 h
    refine Run.condF' rfl hc50 ?_
    refine Run.skip (Run.seq ?_)
    refine Run.drawG plan4_1_1_1_1_1_1_1_0 ?_
    refine DrawG.fl rfl (ev_ex wantS_none (ex_loadA rfl (hH.cells (i := 0) rfl 0 rfl) rdLe_rfl agg45 rfl rfl rfl)) rfl ?_
    refine DrawG.fl rfl (ev_ex wantS_none (ex_move rfl)) rfl ?_
    refine DrawG.fl rfl (ev_ex wantS_none (ex_move rfl)) rfl ?_
    refine DrawG.fl rfl (ev_ex wantS_none (ex_fieldAddr rfl off45_3)) rfl ?_
    refine DrawG.fl rfl (ev_ex wantS_none (ex_load1 rfl (hH.cells (i := 0) rfl 3 rfl) rdLe_rfl agg3)) rfl ?_
    refine DrawG.fl rfl (ev_ex wantS_none (ex_move rfl)) rfl ?_
    obtain ⟨r55, hr55, h⟩ := bnd_some h
    refine DrawG.callP rfl wantS_none (ex_call rfl mkk14 cal14) rfl (ref00_Mod_ok F c26_3 (20 : Int) _ _ hr55) (st_cons rfl (ev_ex wantS_none (ex_move rfl)) rfl rfl rfl (st_cons rfl (ev_ex wantS_none (ex_move rfl)) rfl rfl rfl (st_cons rfl (ev_ex wantS_none (ex_move rfl)) rfl rfl (slc_self hv7) (st_cons rfl (ev_ex wantS_none (ex_loadA rfl (hH.cells (i := 0) rfl 0 rfl) rdLe_rfl agg45 rfl rfl rfl)) rfl rfl (self_agg (self_cons rfl (self_cons (slc_self hc26_1) (self_cons rfl (self_cons rfl (self_cons rfl (self_cons (slc_self hc26_5) (self_cons rfl (self_cons rfl (self_cons rfl self_nil)))))))))) st_nil)))) ?_
    refine DrawG.fl rfl (ev_ex wantS_none (ex_add rfl rfl)) rfl ?_
    obtain ⟨r57, hr57, h⟩ := bnd_some h
    refine DrawG.call rfl wantS_none (ex_call rfl mkk16 cal16) rfl (law07_buried_ok F (S_ringdownlaw07_Signal.mk c26_0 c26_1 c26_2 c26_3 c26_4 c26_5 c26_6 c26_7 c26_8) v7 (w64 (v5 + r55)) v4 sc26_1 sc26_5 sv7 _ _ (hH.slcF hc26_1) (hH.slcF hc26_5) (hH.slcF hv7) hr57) ?_
    rintro s57_0 M59 ⟨_, rfl, hN57⟩
    have hH59 : Has Fr M59 [.vec 3 1 r57.length s57_0 (r57.flatMap enc3), .obj b26 (.row 45 .whole [(.int .i64 c26_0), sc26_1, (.int .i64 c26_2), (.int .i64 c26_3), (.int .i64 c26_4), sc26_5, (.int .i64 c26_6), (.int .i64 c26_7), (.int .i64 c26_8)]), tb0, tb1, tb2, tb3] := hN57.1 _ _ hH
    refine ⟨st_nil, ?_⟩
    refine DrawG.fl rfl (ev_ex wantS_none (ex_assign rfl)) rfl ?_
    refine DrawG.sync ?_
    refine DrawG.nil ?_
    refine Run.seq (Run.region ?_)
    refine Run.opG wantS_none (ex_fieldAddr rfl off45_0) rfl ?_
    refine Run.opG wantS_none (ex_load1 rfl (hH59.cells (i := 1) rfl 0 rfl) rdLe_rfl agg3) rfl ?_
    refine Run.opG wantS_none (ex_fieldAddr rfl off45_1) rfl ?_
    refine Run.opG wantS_none (ex_load1 rfl (hH59.cells (i := 1) rfl 1 rfl) rdLe_rfl agg43) rfl ?_
    refine Run.opG wantS_none (ex_move rfl) rfl ?_
    refine Run.opG wantS_none (ex_fieldAddr rfl off45_7) rfl ?_
    refine Run.opG wantS_none (ex_load1 rfl (hH59.cells (i := 1) rfl 7 rfl) rdLe_rfl agg3) rfl ?_
    refine Run.opG wantS_none (ex_fieldAddr rfl off45_8) rfl ?_
    refine Run.opG wantS_none (ex_load1 rfl (hH59.cells (i := 1) rfl 8 rfl) rdLe_rfl agg3) rfl ?_
    obtain ⟨r62, hr62, h⟩ := bnd_some h
    refine Run.callX wantS_none (ex_call rfl mkk17 cal17) rfl (bank_Hits_ok F c26_0 c26_1 r57 c26_7 c26_8 sc26_1 s57_0 _ _ (hH59.slcF hc26_1) (hH59.slc (i := 0) rfl enc3_len) (fixH hH59 (List.mem_of_getElem? (i := 2) rfl) (List.mem_of_getElem? (i := 3) rfl) (List.mem_of_getElem? (i := 4) rfl) (List.mem_of_getElem? (i := 5) rfl)) hr62) ?_
    rintro _ M64 ⟨s62_0, rfl, hN62⟩
    have hH64 : Has Fr M64 [.vec 54 3 r62.1.length s62_0 (r62.1.flatMap enc54), .vec 3 1 r57.length s57_0 (r57.flatMap enc3), .obj b26 (.row 45 .whole [(.int .i64 c26_0), sc26_1, (.int .i64 c26_2), (.int .i64 c26_3), (.int .i64 c26_4), sc26_5, (.int .i64 c26_6), (.int .i64 c26_7), (.int .i64 c26_8)]), tb0, tb1, tb2, tb3] := hN62.1 _ _ hH59
    refine Run.opG wantS_none (ex_move rfl) rfl ?_
    refine Run.opG wantS_none (ex_extract rfl rfl) rfl ?_
    refine Run.opG wantS_none (ex_extract rfl rfl) rfl ?_
    refine Run.opG wantS_none (ex_assign rfl) rfl ?_
    refine Run.opG wantS_none (ex_assign rfl) rfl ?_
    refine Run.opsEnd (Run.seq (Run.seq (Run.region ?_)))
    refine Run.opG wantS_none (ex_move rfl) rfl ?_
    refine Run.opG wantS_none (ex_eql rfl rfl) rfl ?_
    refine Run.opsEnd ?_
    rcases btf ((r62.2 == (73 : Int))) with hc65 | hc65
    · have h := bif_t hc65 h
      refine Run.condT' rfl hc65 ?_
      refine Run.seq (Run.region ?_)
      obtain ⟨r67, hr67, h⟩ := bnd_some h
      refine Run.callP wantS_none (ex_call rfl mkk8 cal8) rfl (works_ok F r67 _ hH64 (List.mem_of_getElem? (i := 3) rfl) (List.mem_of_getElem? (i := 4) rfl) (List.mem_of_getElem? (i := 5) rfl) (List.mem_of_getElem? (i := 6) rfl) hr67) ?_
      refine Run.opG wantS_none (ex_assign rfl) rfl ?_
      refine Run.opsEnd ?_
      cases h
      exact Run.ret Tryz.func4 rfl (res_tmp rfl res_nil) rfl
    · have h := bif_f hc65 h
      refine Run.condF' rfl hc65 ?_
      refine Run.skip (Run.seq (Run.region ?_))
      refine Run.opG wantS_none (ex_assign rfl) rfl ?_
      refine Run.opsEnd (Run.seq (Run.seq (Run.region ?_)))
      refine Run.opG wantS_none (ex_assign rfl) rfl ?_
      refine Run.opsEnd (Run.block (Run.loop ?_))
      exact Run.pick [3, 4, 6, 10, 11, 12] (law07_BankSure_8_ok F F v3 v4 r62.2 false (0 : Int) r62.1 s62_0 _ _ _ (hH64.pick [0, 3, 4, 5, 6] rfl rfl) h)

def law07_BankSure_5 (F : Nat) (v48 : Bool) (c26_0 : Int) (c26_1 : (List S_api_Chirp)) (c26_2 c26_3 c26_4 : Int) (c26_5 : (List Int)) (c26_6 c26_7 c26_8 : Int) : Option (Bool) :=
  bif v48 then
    bnd (works F) fun r35 =>
    some r35
  else
    bnd (ref00_Mod F c26_2 (c26_1.length : Int)) fun r38 =>
    bnd (ref00_Mod F c26_4 (w64 ((w64 ((c26_5.length : Int) - c26_0)) + (1 : Int)))) fun r41 =>
    bnd (idx c26_1 r38) fun x43 =>
    bnd (bank_Sure F c26_0 x43 c26_6 c26_7 c26_8) fun r44 =>
    bnd (idx c26_1 r38) fun x46 =>
    bnd (bank_Wave_h1 F c26_0 x46) fun r47 =>
    bif (!(r44.2 == (0 : Int))) then
      law07_BankSure_6 F r38 r41 r44.1 r47.1 r47.2 true c26_0 c26_1 c26_2 c26_3 c26_4 c26_5 c26_6 c26_7 c26_8
    else
      law07_BankSure_6 F r38 r41 r44.1 r47.1 r47.2 (!(r47.2 == (0 : Int))) c26_0 c26_1 c26_2 c26_3 c26_4 c26_5 c26_6 c26_7 c26_8

theorem law07_BankSure_5_ok (F : Nat) : ∀ (v48 : Bool) (c26_0 : Int) (c26_1 : (List S_api_Chirp)) (c26_2 c26_3 c26_4 : Int) (c26_5 : (List Int)) (c26_6 c26_7 c26_8 : Int) (sc26_1 sc26_5 : SV) (b26 : Pos) (Fr : Rd) (M : Mem) (r : Bool) (hc26_1 : Slc Fr 2 (FlatR enc27) sc26_1 c26_1) (hc26_5 : Slc Fr 1 (FlatR enc3) sc26_5 c26_5) (hH : Has Fr M [.obj b26 (.row 45 .whole [(.int .i64 c26_0), sc26_1, (.int .i64 c26_2), (.int .i64 c26_3), (.int .i64 c26_4), sc26_5, (.int .i64 c26_6), (.int .i64 c26_7), (.int .i64 c26_8)]), tb0, tb1, tb2, tb3]), law07_BankSure_5 F v48 c26_0 c26_1 c26_2 c26_3 c26_4 c26_5 c26_6 c26_7 c26_8 = some r → Run Tryz.prog ⟨⟨4, [], none⟩, []⟩ 163 (law07_BankSure_post r) [(1, (.ptr b26 0)), (48, (.bool v48))] [codeC Tryz.prog 4 [1, 0, 1], codeC Tryz.prog 4 [1, 1]] M := by
  intro v48 c26_0 c26_1 c26_2 c26_3 c26_4 c26_5 c26_6 c26_7 c26_8 sc26_1 sc26_5 b26 Fr M r hc26_1 hc26_5 hH h
  rw [law07_BankSure_5] at h
  rcases btf (v48) with hc33 | hc33
  · have h := bif_t hc33 h
    refine Run.condT' rfl hc33 ?_
    refine Run.seq (Run.region ?_)
    obtain ⟨r35, hr35, h⟩ := bnd_some h
    refine Run.callP wantS_none (ex_call rfl mkk8 cal8) rfl (works_ok F r35 _ hH (List.mem_of_getElem? (i := 1) rfl) (List.mem_of_getElem? (i := 2) rfl) (List.mem_of_getElem? (i := 3) rfl) (List.mem_of_getElem? (i := 4) rfl) hr35) ?_
    refine Run.opG wantS_none (ex_assign rfl) rfl ?_
    refine Run.opsEnd ?_
    cases h
    exact Run.ret Tryz.func4 rfl (res_tmp rfl res_nil) rfl
  · have h := bif_f hc33 h
    refine Run.condF' rfl hc33 ?_
    refine Run.skip (Run.seq (Run.region ?_))
    refine Run.opG wantS_none (ex_fieldAddr rfl off45_2) rfl ?_
    refine Run.opG wantS_none (ex_load1 rfl (hH.cells (i := 0) rfl 2 rfl) rdLe_rfl agg3) rfl ?_
    refine Run.opG wantS_none (ex_fieldAddr rfl off45_1) rfl ?_
    refine Run.opG wantS_none (ex_load1 rfl (hH.cells (i := 0) rfl 1 rfl) rdLe_rfl agg43) rfl ?_
    refine Run.opG wantS_none (ex_len' rfl hc26_1 lenk43) rfl ?_
    obtain ⟨r38, hr38, h⟩ := bnd_some h
    refine Run.callP wantS_none (ex_call rfl mkk14 cal14) rfl (ref00_Mod_ok F c26_2 (c26_1.length : Int) _ _ hr38) ?_
    refine Run.opG wantS_none (ex_assign rfl) rfl ?_
    refine Run.opsEnd (Run.seq (Run.region ?_))
    refine Run.opG wantS_none (ex_fieldAddr rfl off45_4) rfl ?_
    refine Run.opG wantS_none (ex_load1 rfl (hH.cells (i := 0) rfl 4 rfl) rdLe_rfl agg3) rfl ?_
    refine Run.opG wantS_none (ex_fieldAddr rfl off45_5) rfl ?_
    refine Run.opG wantS_none (ex_load1 rfl (hH.cells (i := 0) rfl 5 rfl) rdLe_rfl agg25) rfl ?_
    refine Run.opG wantS_none (ex_len' rfl hc26_5 lenk25) rfl ?_
    refine Run.opG wantS_none (ex_fieldAddr rfl off45_0) rfl ?_
    refine Run.opG wantS_none (ex_load1 rfl (hH.cells (i := 0) rfl 0 rfl) rdLe_rfl agg3) rfl ?_
    refine Run.opG wantS_none (ex_sub rfl rfl) rfl ?_
    refine Run.opG wantS_none (ex_add rfl rfl) rfl ?_
    obtain ⟨r41, hr41, h⟩ := bnd_some h
    refine Run.callP wantS_none (ex_call rfl mkk14 cal14) rfl (ref00_Mod_ok F c26_4 (w64 ((w64 ((c26_5.length : Int) - c26_0)) + (1 : Int))) _ _ hr41) ?_
    refine Run.opG wantS_none (ex_assign rfl) rfl ?_
    refine Run.opsEnd (Run.seq ?_)
    refine Run.drawG plan4_1_1_1_1_0 ?_
    refine DrawG.fl rfl (ev_ex wantS_none (ex_fieldAddr rfl off45_0)) rfl ?_
    refine DrawG.fl rfl (ev_ex wantS_none (ex_load1 rfl (hH.cells (i := 0) rfl 0 rfl) rdLe_rfl agg3)) rfl ?_
    refine DrawG.fl rfl (ev_ex wantS_none (ex_fieldAddr rfl off45_1)) rfl ?_
    refine DrawG.fl rfl (ev_ex wantS_none (ex_load1 rfl (hH.cells (i := 0) rfl 1 rfl) rdLe_rfl agg43)) rfl ?_
    refine DrawG.fl rfl (ev_ex wantS_none (ex_move rfl)) rfl ?_
    obtain ⟨x43, hx43, h⟩ := bnd_some h
    obtain ⟨p43, o43, _, hx43, hp43, rfl⟩ := sl_elem (P := Tryz.prog) (t := 43) (kk := .i64) hc26_1 hx43 els43
    refine DrawG.fl rfl (ev_ex wantS_none (ex_elX rfl rfl hx43)) rfl ?_
    refine DrawG.fl rfl (ev_ex wantS_none (ex_loadA rfl (hH.ptrF hp43) rdLe_rfl agg27 rfl rfl rfl)) rfl ?_
    refine DrawG.fl rfl (ev_ex wantS_none (ex_fieldAddr rfl off45_6)) rfl ?_
    refine DrawG.fl rfl (ev_ex wantS_none (ex_load1 rfl (hH.cells (i := 0) rfl 6 rfl) rdLe_rfl agg3)) rfl ?_
    refine DrawG.fl rfl (ev_ex wantS_none (ex_fieldAddr rfl off45_7)) rfl ?_
    refine DrawG.fl rfl (ev_ex wantS_none (ex_load1 rfl (hH.cells (i := 0) rfl 7 rfl) rdLe_rfl agg3)) rfl ?_
    refine DrawG.fl rfl (ev_ex wantS_none (ex_fieldAddr rfl off45_8)) rfl ?_
    refine DrawG.fl rfl (ev_ex wantS_none (ex_load1 rfl (hH.cells (i := 0) rfl 8 rfl) rdLe_rfl agg3)) rfl ?_
    obtain ⟨r44, hr44, h⟩ := bnd_some h
    refine DrawG.callP rfl wantS_none (ex_call rfl mkk15 cal15) rfl (bank_Sure_ok F c26_0 x43 c26_6 c26_7 c26_8 _ _ (fixH hH (List.mem_of_getElem? (i := 1) rfl) (List.mem_of_getElem? (i := 2) rfl) (List.mem_of_getElem? (i := 3) rfl) (List.mem_of_getElem? (i := 4) rfl)) hr44) st_nil ?_
    refine DrawG.fl rfl (ev_ex wantS_none (ex_move rfl)) rfl ?_
    refine DrawG.fl rfl (ev_ex wantS_none (ex_extract rfl rfl)) rfl ?_
    refine DrawG.fl rfl (ev_ex wantS_none (ex_extract rfl rfl)) rfl ?_
    refine DrawG.fl rfl (ev_ex wantS_none (ex_assign rfl)) rfl ?_
    refine DrawG.fl rfl (ev_ex wantS_none (ex_assign rfl)) rfl ?_
    refine DrawG.sync ?_
    refine DrawG.nil ?_
    refine Run.seq ?_
    refine Run.drawG plan4_1_1_1_1_1_0 ?_
    refine DrawG.fl rfl (ev_ex wantS_none (ex_fieldAddr rfl off45_0)) rfl ?_
    refine DrawG.fl rfl (ev_ex wantS_none (ex_load1 rfl (hH.cells (i := 0) rfl 0 rfl) rdLe_rfl agg3)) rfl ?_
    refine DrawG.fl rfl (ev_ex wantS_none (ex_fieldAddr rfl off45_1)) rfl ?_
    refine DrawG.fl rfl (ev_ex wantS_none (ex_load1 rfl (hH.cells (i := 0) rfl 1 rfl) rdLe_rfl agg43)) rfl ?_
    refine DrawG.fl rfl (ev_ex wantS_none (ex_move rfl)) rfl ?_
    obtain ⟨x46, hx46, h⟩ := bnd_some h
    obtain ⟨p46, o46, _, hx46, hp46, rfl⟩ := sl_elem (P := Tryz.prog) (t := 43) (kk := .i64) hc26_1 hx46 els43
    refine DrawG.fl rfl (ev_ex wantS_none (ex_elX rfl rfl hx46)) rfl ?_
    refine DrawG.fl rfl (ev_ex wantS_none (ex_loadA rfl (hH.ptrF hp46) rdLe_rfl agg27 rfl rfl rfl)) rfl ?_
    obtain ⟨r47, hr47, h⟩ := bnd_some h
    refine DrawG.call rfl wantS_none (ex_call rfl mkk7 cal7) rfl (bank_Wave_h1_ok F c26_0 x46 Fr [.obj b26 (.row 45 .whole [(.int .i64 c26_0), sc26_1, (.int .i64 c26_2), (.int .i64 c26_3), (.int .i64 c26_4), sc26_5, (.int .i64 c26_6), (.int .i64 c26_7), (.int .i64 c26_8)])] _ _ (hH.pick [1, 2, 3, 4, 0] rfl rfl) hr47) ?_
    rintro _ M48 ⟨s47_0, rfl, F47, hle47, hq47_0, (hH48 : Has F47 M48 [tb0, tb1, tb2, tb3, .obj b26 (.row 45 .whole [(.int .i64 c26_0), sc26_1, (.int .i64 c26_2), (.int .i64 c26_3), (.int .i64 c26_4), sc26_5, (.int .i64 c26_6), (.int .i64 c26_7), (.int .i64 c26_8)])])⟩
    replace hc26_1 := hc26_1.mono hle47 (fun _ _ h => h)
    replace hc26_5 := hc26_5.mono hle47 (fun _ _ h => h)
    replace hp46 := hp46.mono hle47
    refine ⟨st_nil, ?_⟩
    refine DrawG.fl rfl (ev_ex wantS_none (ex_move rfl)) rfl ?_
    refine DrawG.fl rfl (ev_ex wantS_none (ex_extract rfl rfl)) rfl ?_
    refine DrawG.fl rfl (ev_ex wantS_none (ex_extract rfl rfl)) rfl ?_
    refine DrawG.fl rfl (ev_ex wantS_none (ex_assign rfl)) rfl ?_
    refine DrawG.fl rfl (ev_ex wantS_none (ex_assign rfl)) rfl ?_
    refine DrawG.sync ?_
    refine DrawG.nil ?_
    refine Run.seq (Run.seq (Run.region ?_))
    refine Run.opG wantS_none (ex_move rfl) rfl ?_
    refine Run.opG wantS_none (ex_neq rfl rfl) rfl ?_
    refine Run.opG wantS_none (ex_move rfl) rfl ?_
    rcases btf ((!(r44.2 == (0 : Int)))) with hc49 | hc49
    · have h := bif_t hc49 h
      refine Run.no (wantS_not' rfl rfl hc49) rfl ?_
      refine Run.no (wantS_not' rfl rfl hc49) rfl ?_
      refine Run.opG wantS_none (ex_pickT' rfl hc49 rfl rfl) rfl ?_
      refine Run.opsEnd ?_
      exact Run.pick [1, 3, 4, 5, 7, 8, 99] (law07_BankSure_6_ok F r38 r41 r44.1 r47.1 r47.2 true c26_0 c26_1 c26_2 c26_3 c26_4 c26_5 c26_6 c26_7 c26_8 s47_0 sc26_1 sc26_5 b26 _ _ _ hq47_0 hc26_1 hc26_5 (hH48.pick [4, 0, 1, 2, 3] rfl rfl) h)
    · have h := bif_f hc49 h
      refine Run.opG (wantS_yes' rfl rfl hc49) (ex_move rfl) rfl ?_
      refine Run.opG (wantS_yes' rfl rfl hc49) (ex_neq rfl rfl) rfl ?_
      refine Run.opG wantS_none (ex_pickF' rfl hc49 rfl rfl) rfl ?_
      refine Run.opsEnd ?_
      exact Run.pick [1, 3, 4, 5, 7, 8, 99] (law07_BankSure_6_ok F r38 r41 r44.1 r47.1 r47.2 (!(r47.2 == (0 : Int))) c26_0 c26_1 c26_2 c26_3 c26_4 c26_5 c26_6 c26_7 c26_8 s47_0 sc26_1 sc26_5 b26 _ _ _ hq47_0 hc26_1 hc26_5 (hH48.pick [4, 0, 1, 2, 3] rfl rfl) h)

def law07_BankSure_4 (F : Nat) (v43 : Bool) (c26_0 : Int) (c26_1 : (List S_api_Chirp)) (c26_2 c26_3 c26_4 : Int) (c26_5 : (List Int)) (c26_6 c26_7 c26_8 : Int) : Option (Bool) :=
  bif v43 then
    law07_BankSure_5 F true c26_0 c26_1 c26_2 c26_3 c26_4 c26_5 c26_6 c26_7 c26_8
  else
    law07_BankSure_5 F (decide ((32768 : Int) < c26_6)) c26_0 c26_1 c26_2 c26_3 c26_4 c26_5 c26_6 c26_7 c26_8

theorem law07_BankSure_4_ok (F : Nat) : ∀ (v43 : Bool) (c26_0 : Int) (c26_1 : (List S_api_Chirp)) (c26_2 c26_3 c26_4 : Int) (c26_5 : (List Int)) (c26_6 c26_7 c26_8 : Int) (sc26_1 sc26_5 : SV) (b26 : Pos) (Fr : Rd) (M : Mem) (r : Bool) (hc26_1 : Slc Fr 2 (FlatR enc27) sc26_1 c26_1) (hc26_5 : Slc Fr 1 (FlatR enc3) sc26_5 c26_5) (hH : Has Fr M [.obj b26 (.row 45 .whole [(.int .i64 c26_0), sc26_1, (.int .i64 c26_2), (.int .i64 c26_3), (.int .i64 c26_4), sc26_5, (.int .i64 c26_6), (.int .i64 c26_7), (.int .i64 c26_8)]), tb0, tb1, tb2, tb3]), law07_BankSure_4 F v43 c26_0 c26_1 c26_2 c26_3 c26_4 c26_5 c26_6 c26_7 c26_8 = some r → Run Tryz.prog ⟨⟨4, [], none⟩, []⟩ 163 (law07_BankSure_post r) [(1, (.ptr b26 0)), (43, (.bool v43))] [itemC Tryz.prog 4 [1, 0, 0] 31, codeC Tryz.prog 4 [1, 0, 1], codeC Tryz.prog 4 [1, 1]] M := by
  intro v43 c26_0 c26_1 c26_2 c26_3 c26_4 c26_5 c26_6 c26_7 c26_8 sc26_1 sc26_5 b26 Fr M r hc26_1 hc26_5 hH h
  rw [law07_BankSure_4] at h
  refine Run.opG wantS_none (ex_move rfl) rfl ?_
  rcases btf (v43) with hc32 | hc32
  · have h := bif_t hc32 h
    refine Run.no (wantS_not' rfl rfl hc32) rfl ?_
    refine Run.no (wantS_not' rfl rfl hc32) rfl ?_
    refine Run.no (wantS_not' rfl rfl hc32) rfl ?_
    refine Run.opG wantS_none (ex_pickT' rfl hc32 rfl rfl) rfl ?_
    refine Run.opsEnd ?_
    exact Run.pick [1, 48] (law07_BankSure_5_ok F true c26_0 c26_1 c26_2 c26_3 c26_4 c26_5 c26_6 c26_7 c26_8 sc26_1 sc26_5 b26 _ _ _ hc26_1 hc26_5 hH h)
  · have h := bif_f hc32 h
    refine Run.opG (wantS_yes' rfl rfl hc32) (ex_fieldAddr rfl off45_6) rfl ?_
    refine Run.opG (wantS_yes' rfl rfl hc32) (ex_load1 rfl (hH.cells (i := 0) rfl 6 rfl) rdLe_rfl agg3) rfl ?_
    refine Run.opG (wantS_yes' rfl rfl hc32) (ex_gtr rfl rfl) rfl ?_
    refine Run.opG wantS_none (ex_pickF' rfl hc32 rfl rfl) rfl ?_
    refine Run.opsEnd ?_
    exact Run.pick [1, 48] (law07_BankSure_5_ok F (decide ((32768 : Int) < c26_6)) c26_0 c26_1 c26_2 c26_3 c26_4 c26_5 c26_6 c26_7 c26_8 sc26_1 sc26_5 b26 _ _ _ hc26_1 hc26_5 hH h)

def law07_BankSure_3 (F : Nat) (v38 : Bool) (c26_0 : Int) (c26_1 : (List S_api_Chirp)) (c26_2 c26_3 c26_4 : Int) (c26_5 : (List Int)) (c26_6 c26_7 c26_8 : Int) : Option (Bool) :=
  bif v38 then
    law07_BankSure_4 F true c26_0 c26_1 c26_2 c26_3 c26_4 c26_5 c26_6 c26_7 c26_8
  else
    law07_BankSure_4 F (decide (c26_6 < (0 : Int))) c26_0 c26_1 c26_2 c26_3 c26_4 c26_5 c26_6 c26_7 c26_8

theorem law07_BankSure_3_ok (F : Nat) : ∀ (v38 : Bool) (c26_0 : Int) (c26_1 : (List S_api_Chirp)) (c26_2 c26_3 c26_4 : Int) (c26_5 : (List Int)) (c26_6 c26_7 c26_8 : Int) (sc26_1 sc26_5 : SV) (b26 : Pos) (Fr : Rd) (M : Mem) (r : Bool) (hc26_1 : Slc Fr 2 (FlatR enc27) sc26_1 c26_1) (hc26_5 : Slc Fr 1 (FlatR enc3) sc26_5 c26_5) (hH : Has Fr M [.obj b26 (.row 45 .whole [(.int .i64 c26_0), sc26_1, (.int .i64 c26_2), (.int .i64 c26_3), (.int .i64 c26_4), sc26_5, (.int .i64 c26_6), (.int .i64 c26_7), (.int .i64 c26_8)]), tb0, tb1, tb2, tb3]), law07_BankSure_3 F v38 c26_0 c26_1 c26_2 c26_3 c26_4 c26_5 c26_6 c26_7 c26_8 = some r → Run Tryz.prog ⟨⟨4, [], none⟩, []⟩ 163 (law07_BankSure_post r) [(1, (.ptr b26 0)), (38, (.bool v38))] [itemC Tryz.prog 4 [1, 0, 0] 26, codeC Tryz.prog 4 [1, 0, 1], codeC Tryz.prog 4 [1, 1]] M := by
  intro v38 c26_0 c26_1 c26_2 c26_3 c26_4 c26_5 c26_6 c26_7 c26_8 sc26_1 sc26_5 b26 Fr M r hc26_1 hc26_5 hH h
  rw [law07_BankSure_3] at h
  refine Run.opG wantS_none (ex_move rfl) rfl ?_
  rcases btf (v38) with hc31 | hc31
  · have h := bif_t hc31 h
    refine Run.no (wantS_not' rfl rfl hc31) rfl ?_
    refine Run.no (wantS_not' rfl rfl hc31) rfl ?_
    refine Run.no (wantS_not' rfl rfl hc31) rfl ?_
    refine Run.opG wantS_none (ex_pickT' rfl hc31 rfl rfl) rfl ?_
    exact Run.pick [1, 43] (law07_BankSure_4_ok F true c26_0 c26_1 c26_2 c26_3 c26_4 c26_5 c26_6 c26_7 c26_8 sc26_1 sc26_5 b26 _ _ _ hc26_1 hc26_5 hH h)
  · have h := bif_f hc31 h
    refine Run.opG (wantS_yes' rfl rfl hc31) (ex_fieldAddr rfl off45_6) rfl ?_
    refine Run.opG (wantS_yes' rfl rfl hc31) (ex_load1 rfl (hH.cells (i := 0) rfl 6 rfl) rdLe_rfl agg3) rfl ?_
    refine Run.opG (wantS_yes' rfl rfl hc31) (ex_lss rfl rfl) rfl ?_
    refine Run.opG wantS_none (ex_pickF' rfl hc31 rfl rfl) rfl ?_
    exact Run.pick [1, 43] (law07_BankSure_4_ok F (decide (c26_6 < (0 : Int))) c26_0 c26_1 c26_2 c26_3 c26_4 c26_5 c26_6 c26_7 c26_8 sc26_1 sc26_5 b26 _ _ _ hc26_1 hc26_5 hH h)

def law07_BankSure_2 (F : Nat) (v32 : Bool) (c26_0 : Int) (c26_1 : (List S_api_Chirp)) (c26_2 c26_3 c26_4 : Int) (c26_5 : (List Int)) (c26_6 c26_7 c26_8 : Int) : Option (Bool) :=
  bif v32 then
    law07_BankSure_3 F true c26_0 c26_1 c26_2 c26_3 c26_4 c26_5 c26_6 c26_7 c26_8
  else
    law07_BankSure_3 F (decide ((512 : Int) < (c26_5.length : Int))) c26_0 c26_1 c26_2 c26_3 c26_4 c26_5 c26_6 c26_7 c26_8

theorem law07_BankSure_2_ok (F : Nat) : ∀ (v32 : Bool) (c26_0 : Int) (c26_1 : (List S_api_Chirp)) (c26_2 c26_3 c26_4 : Int) (c26_5 : (List Int)) (c26_6 c26_7 c26_8 : Int) (sc26_1 sc26_5 : SV) (b26 : Pos) (Fr : Rd) (M : Mem) (r : Bool) (hc26_1 : Slc Fr 2 (FlatR enc27) sc26_1 c26_1) (hc26_5 : Slc Fr 1 (FlatR enc3) sc26_5 c26_5) (hH : Has Fr M [.obj b26 (.row 45 .whole [(.int .i64 c26_0), sc26_1, (.int .i64 c26_2), (.int .i64 c26_3), (.int .i64 c26_4), sc26_5, (.int .i64 c26_6), (.int .i64 c26_7), (.int .i64 c26_8)]), tb0, tb1, tb2, tb3]), law07_BankSure_2 F v32 c26_0 c26_1 c26_2 c26_3 c26_4 c26_5 c26_6 c26_7 c26_8 = some r → Run Tryz.prog ⟨⟨4, [], none⟩, []⟩ 163 (law07_BankSure_post r) [(1, (.ptr b26 0)), (32, (.bool v32))] [itemC Tryz.prog 4 [1, 0, 0] 20, codeC Tryz.prog 4 [1, 0, 1], codeC Tryz.prog 4 [1, 1]] M := by
  intro v32 c26_0 c26_1 c26_2 c26_3 c26_4 c26_5 c26_6 c26_7 c26_8 sc26_1 sc26_5 b26 Fr M r hc26_1 hc26_5 hH h
  rw [law07_BankSure_2] at h
  refine Run.opG wantS_none (ex_move rfl) rfl ?_
  rcases btf (v32) with hc30 | hc30
  · have h := bif_t hc30 h
    refine Run.no (wantS_not' rfl rfl hc30) rfl ?_
    refine Run.no (wantS_not' rfl rfl hc30) rfl ?_
    refine Run.no (wantS_not' rfl rfl hc30) rfl ?_
    refine Run.no (wantS_not' rfl rfl hc30) rfl ?_
    refine Run.opG wantS_none (ex_pickT' rfl hc30 rfl rfl) rfl ?_
    exact Run.pick [1, 38] (law07_BankSure_3_ok F true c26_0 c26_1 c26_2 c26_3 c26_4 c26_5 c26_6 c26_7 c26_8 sc26_1 sc26_5 b26 _ _ _ hc26_1 hc26_5 hH h)
  · have h := bif_f hc30 h
    refine Run.opG (wantS_yes' rfl rfl hc30) (ex_fieldAddr rfl off45_5) rfl ?_
    refine Run.opG (wantS_yes' rfl rfl hc30) (ex_load1 rfl (hH.cells (i := 0) rfl 5 rfl) rdLe_rfl agg25) rfl ?_
    refine Run.opG (wantS_yes' rfl rfl hc30) (ex_len' rfl hc26_5 lenk25) rfl ?_
    refine Run.opG (wantS_yes' rfl rfl hc30) (ex_gtr rfl rfl) rfl ?_
    refine Run.opG wantS_none (ex_pickF' rfl hc30 rfl rfl) rfl ?_
    exact Run.pick [1, 38] (law07_BankSure_3_ok F (decide ((512 : Int) < (c26_5.length : Int))) c26_0 c26_1 c26_2 c26_3 c26_4 c26_5 c26_6 c26_7 c26_8 sc26_1 sc26_5 b26 _ _ _ hc26_1 hc26_5 hH h)

def law07_BankSure_1 (F : Nat) (v24 : Bool) (c26_0 : Int) (c26_1 : (List S_api_Chirp)) (c26_2 c26_3 c26_4 : Int) (c26_5 : (List Int)) (c26_6 c26_7 c26_8 : Int) : Option (Bool) :=
  bif v24 then
    law07_BankSure_2 F true c26_0 c26_1 c26_2 c26_3 c26_4 c26_5 c26_6 c26_7 c26_8
  else
    law07_BankSure_2 F (decide ((c26_5.length : Int) < c26_0)) c26_0 c26_1 c26_2 c26_3 c26_4 c26_5 c26_6 c26_7 c26_8

theorem law07_BankSure_1_ok (F : Nat) : ∀ (v24 : Bool) (c26_0 : Int) (c26_1 : (List S_api_Chirp)) (c26_2 c26_3 c26_4 : Int) (c26_5 : (List Int)) (c26_6 c26_7 c26_8 : Int) (sc26_1 sc26_5 : SV) (b26 : Pos) (Fr : Rd) (M : Mem) (r : Bool) (hc26_1 : Slc Fr 2 (FlatR enc27) sc26_1 c26_1) (hc26_5 : Slc Fr 1 (FlatR enc3) sc26_5 c26_5) (hH : Has Fr M [.obj b26 (.row 45 .whole [(.int .i64 c26_0), sc26_1, (.int .i64 c26_2), (.int .i64 c26_3), (.int .i64 c26_4), sc26_5, (.int .i64 c26_6), (.int .i64 c26_7), (.int .i64 c26_8)]), tb0, tb1, tb2, tb3]), law07_BankSure_1 F v24 c26_0 c26_1 c26_2 c26_3 c26_4 c26_5 c26_6 c26_7 c26_8 = some r → Run Tryz.prog ⟨⟨4, [], none⟩, []⟩ 163 (law07_BankSure_post r) [(1, (.ptr b26 0)), (24, (.bool v24))] [itemC Tryz.prog 4 [1, 0, 0] 12, codeC Tryz.prog 4 [1, 0, 1], codeC Tryz.prog 4 [1, 1]] M := by
  intro v24 c26_0 c26_1 c26_2 c26_3 c26_4 c26_5 c26_6 c26_7 c26_8 sc26_1 sc26_5 b26 Fr M r hc26_1 hc26_5 hH h
  rw [law07_BankSure_1] at h
  refine Run.opG wantS_none (ex_move rfl) rfl ?_
  rcases btf (v24) with hc29 | hc29
  · have h := bif_t hc29 h
    refine Run.no (wantS_not' rfl rfl hc29) rfl ?_
    refine Run.no (wantS_not' rfl rfl hc29) rfl ?_
    refine Run.no (wantS_not' rfl rfl hc29) rfl ?_
    refine Run.no (wantS_not' rfl rfl hc29) rfl ?_
    refine Run.no (wantS_not' rfl rfl hc29) rfl ?_
    refine Run.no (wantS_not' rfl rfl hc29) rfl ?_
    refine Run.opG wantS_none (ex_pickT' rfl hc29 rfl rfl) rfl ?_
    exact Run.pick [1, 32] (law07_BankSure_2_ok F true c26_0 c26_1 c26_2 c26_3 c26_4 c26_5 c26_6 c26_7 c26_8 sc26_1 sc26_5 b26 _ _ _ hc26_1 hc26_5 hH h)
  · have h := bif_f hc29 h
    refine Run.opG (wantS_yes' rfl rfl hc29) (ex_fieldAddr rfl off45_5) rfl ?_
    refine Run.opG (wantS_yes' rfl rfl hc29) (ex_load1 rfl (hH.cells (i := 0) rfl 5 rfl) rdLe_rfl agg25) rfl ?_
    refine Run.opG (wantS_yes' rfl rfl hc29) (ex_len' rfl hc26_5 lenk25) rfl ?_
    refine Run.opG (wantS_yes' rfl rfl hc29) (ex_fieldAddr rfl off45_0) rfl ?_
    refine Run.opG (wantS_yes' rfl rfl hc29) (ex_load1 rfl (hH.cells (i := 0) rfl 0 rfl) rdLe_rfl agg3) rfl ?_
    refine Run.opG (wantS_yes' rfl rfl hc29) (ex_lss rfl rfl) rfl ?_
    refine Run.opG wantS_none (ex_pickF' rfl hc29 rfl rfl) rfl ?_
    exact Run.pick [1, 32] (law07_BankSure_2_ok F (decide ((c26_5.length : Int) < c26_0)) c26_0 c26_1 c26_2 c26_3 c26_4 c26_5 c26_6 c26_7 c26_8 sc26_1 sc26_5 b26 _ _ _ hc26_1 hc26_5 hH h)

def law07_BankSure (F : Nat) (a0 : S_ringdownlaw07_Signal) : Option (Bool) :=
  bif ((a0.L.length : Int) == (0 : Int)) then
    law07_BankSure_1 F true a0.Length a0.L a0.Which a0.More a0.Time a0.Noise a0.Bound a0.Variance a0.Floor
  else
    bnd (bank_CheckBank F a0.Length a0.L) fun r82 =>
    law07_BankSure_1 F (!(r82 == (0 : Int))) a0.Length a0.L a0.Which a0.More a0.Time a0.Noise a0.Bound a0.Variance a0.Floor

theorem law07_BankSure_run (F : Nat) (a0 : S_ringdownlaw07_Signal) (s0 s1 : SV) (r : Bool) (M : Mem) (hs0 : Slc (rd M) 2 (FlatR enc27) s0 a0.L) (hs1 : Slc (rd M) 1 (FlatR enc3) s1 a0.Noise) (hfx : FixIn M fixes) (h : law07_BankSure F a0 = some r) : Run Tryz.prog (fx0 4) 163 (law07_BankSure_post r) [(0, (.agg [(.int .i64 a0.Length), s0, (.int .i64 a0.Which), (.int .i64 a0.More), (.int .i64 a0.Time), s1, (.int .i64 a0.Bound), (.int .i64 a0.Variance), (.int .i64 a0.Floor)]))] [codeC Tryz.prog 4 []] (frozen M) := by
  rw [law07_BankSure] at h
  replace hs0 := hs0.mono (rdLe_frozen M) (fun _ _ h => h)
  replace hs1 := hs1.mono (rdLe_frozen M) (fun _ _ h => h)
  have hH : Has (ro (frozen M)) (frozen M) [tb0, tb1, tb2, tb3] := Has.ofFix hfx.frozen
  refine Run.seq (Run.region ?_)
  refine Run.opX wantS_none rfl (ExG.box rfl rfl hH) ?_
  rintro _ M27 ⟨b26, rfl, hH27⟩
  refine Run.opG wantS_none (ex_assign rfl) rfl ?_
  refine Run.opsEnd (Run.seq (Run.seq (Run.region ?_)))
  refine Run.opG wantS_none (ex_fieldAddr rfl off45_1) rfl ?_
  refine Run.opG wantS_none (ex_load1 rfl (hH27.cells (i := 0) rfl 1 rfl) rdLe_rfl agg43) rfl ?_
  refine Run.opG wantS_none (ex_len' rfl hs0 lenk43) rfl ?_
  refine Run.opG wantS_none (ex_eql rfl rfl) rfl ?_
  refine Run.opG wantS_none (ex_move rfl) rfl ?_
  rcases btf (((a0.L.length : Int) == (0 : Int))) with hc28 | hc28
  · have h := bif_t hc28 h
    refine Run.no (wantS_not' rfl rfl hc28) rfl ?_
    refine Run.no (wantS_not' rfl rfl hc28) rfl ?_
    refine Run.no (wantS_not' rfl rfl hc28) rfl ?_
    refine Run.no (wantS_not' rfl rfl hc28) rfl ?_
    refine Run.no (wantS_not' rfl rfl hc28) rfl ?_
    refine Run.no (wantS_not' rfl rfl hc28) rfl ?_
    refine Run.opG wantS_none (ex_pickT' rfl hc28 rfl rfl) rfl ?_
    exact Run.pick [1, 24] (law07_BankSure_1_ok F true a0.Length a0.L a0.Which a0.More a0.Time a0.Noise a0.Bound a0.Variance a0.Floor s0 s1 b26 _ _ _ hs0 hs1 hH27 h)
  · have h := bif_f hc28 h
    refine Run.opG (wantS_yes' rfl rfl hc28) (ex_fieldAddr rfl off45_0) rfl ?_
    refine Run.opG (wantS_yes' rfl rfl hc28) (ex_load1 rfl (hH27.cells (i := 0) rfl 0 rfl) rdLe_rfl agg3) rfl ?_
    refine Run.opG (wantS_yes' rfl rfl hc28) (ex_fieldAddr rfl off45_1) rfl ?_
    refine Run.opG (wantS_yes' rfl rfl hc28) (ex_load1 rfl (hH27.cells (i := 0) rfl 1 rfl) rdLe_rfl agg43) rfl ?_
    obtain ⟨r82, hr82, h⟩ := bnd_some h
    refine Run.callP (wantS_yes' rfl rfl hc28) (ex_call rfl mkk13 cal13) rfl (bank_CheckBank_ok F a0.Length a0.L s0 _ _ (hH27.slcF hs0) (fixH hH27 (List.mem_of_getElem? (i := 1) rfl) (List.mem_of_getElem? (i := 2) rfl) (List.mem_of_getElem? (i := 3) rfl) (List.mem_of_getElem? (i := 4) rfl)) hr82) ?_
    refine Run.opG (wantS_yes' rfl rfl hc28) (ex_neq rfl rfl) rfl ?_
    refine Run.opG wantS_none (ex_pickF' rfl hc28 rfl rfl) rfl ?_
    exact Run.pick [1, 24] (law07_BankSure_1_ok F (!(r82 == (0 : Int))) a0.Length a0.L a0.Which a0.More a0.Time a0.Noise a0.Bound a0.Variance a0.Floor s0 s1 b26 _ _ _ hs0 hs1 hH27 h)

end Go.Ev.BankSure
