/- Plain functions that say what functions of the program come to, and proofs of it, written by a program of the verifier's own. -/
import Derived.Test.YtoobfmfgbcohcaaDoorShelf
import Derived.Test.YtoobfmfgbcohcaaDoorAlertChainPlain
namespace Go.Ev.AlertChain
open Go Go.Ev Go.Proofs
set_option maxRecDepth 100000
set_option linter.unusedVariables false

abbrev alert_roll_check_post (r : Int) : SV → Mem → Prop := fun s _ => s = (.int .i64 r)

def alert_roll_check (F : Nat) (a0 : S_alert_roll) (a1 : S_api_Notice) : Option (Int) :=
  bnd (alert_isAlert F a1.Alert) fun r31 =>
  bif (!r31) then
    some (101 : Int)
  else
    bnd (alert_roll_isSigned F a0 (S_api_Notice.mk a1.Alert a1.Signatures)) fun r35 =>
    bif (!r35) then
      some (102 : Int)
    else
      bif (decide ((a1.Signatures.length : Int) < a0.quorum)) then
        some (103 : Int)
      else
        some (0 : Int)

theorem alert_roll_check_ok (F : Nat) (a0 : S_alert_roll) (a1 : S_api_Notice) (s0 s1 s2 : SV) (r : Int) (M : Mem) (hs0 : Slc (rd M) 2 (FlatR enc79) s0 a0.keys) (hs1 : Slc (rd M) 1 (FlatR enc3) s1 a1.Alert.Cells) (hs2 : Slc (rd M) 2 (FlatR enc111) s2 a1.Signatures) (hfx : FixIn M fixes) (h : alert_roll_check F a0 a1 = some r) : CallsM Tryd.prog 58 [(.agg [s0, (.int .i64 a0.quorum)]), (.agg [(.str a1.Alert.Event), (.int .i64 a1.Alert.Version), (.int .i64 a1.Alert.Time), (.int .i64 a1.Alert.Chance.N), (.int .i64 a1.Alert.Chance.Of), (.int .i64 a1.Alert.Grid), s1, (.bool a1.Alert.Withdrawn), (.int .i64 a1.Alert.Before), s2])] M (fun s M' => s = (.int .i64 r) ∧ M' = M) := by
  refine CallsM.plain Tryd.func58 rfl rfl rfl (show Run _ _ _ (alert_roll_check_post r) _ _ _ from ?_)
  rw [alert_roll_check] at h
  replace hs0 := hs0.mono (rdLe_frozen M) (fun _ _ h => h)
  replace hs1 := hs1.mono (rdLe_frozen M) (fun _ _ h => h)
  replace hs2 := hs2.mono (rdLe_frozen M) (fun _ _ h => h)
  have hH : Has (ro (frozen M)) (frozen M) [tb0, tb1, tb2] := Has.ofFix hfx.frozen
  refine Run.seq (Run.region ?_)
  refine Run.opX wantS_none rfl (ExG.box rfl rfl hH) ?_
  rintro _ M26 ⟨b25, rfl, hH26⟩
  refine Run.opX wantS_none rfl (ExG.box rfl rfl hH26) ?_
  rintro _ M29 ⟨b28, rfl, hH29⟩
  refine Run.opG wantS_none (ex_assign rfl) rfl ?_
  refine Run.opsEnd (Run.seq (Run.block (Run.seq (Run.region ?_))))
  refine Run.opG wantS_none (ex_fieldAddr rfl off46_0) rfl ?_
  refine Run.opG wantS_none (ex_loadA rfl (hH29.cells (i := 0) rfl 0 rfl) rdLe_rfl agg29 rfl rfl rfl) rfl ?_
  obtain ⟨r31, hr31, h⟩ := bnd_some h
  refine Run.callP wantS_none (ex_call rfl mkk43 cal43) rfl (alert_isAlert_ok F a1.Alert s1 _ _ (hH29.slcF hs1) hr31) ?_
  refine Run.opG wantS_none (ex_not rfl) rfl ?_
  refine Run.opG wantS_none (ex_assign rfl) rfl ?_
  refine Run.opsEnd ?_
  rcases btf ((!r31)) with hc33 | hc33
  · have h := bif_t hc33 h
    refine Run.condT' rfl hc33 ?_
    refine Run.seq (Run.region ?_)
    refine Run.opG wantS_none (ex_assign rfl) rfl ?_
    refine Run.opsEnd ?_
    cases h
    exact Run.ret Tryd.func58 rfl (res_tmp rfl res_nil) rfl
  · have h := bif_f hc33 h
    refine Run.condF' rfl hc33 ?_
    refine Run.seq (Run.region ?_)
    refine Run.opG wantS_none (ex_loadA rfl (hH29.cells (i := 1) rfl 0 rfl) rdLe_rfl agg97 rfl rfl rfl) rfl ?_
    refine Run.opG wantS_none (ex_loadA rfl (hH29.cells (i := 0) rfl 0 rfl) rdLe_rfl agg46 rfl rfl rfl) rfl ?_
    obtain ⟨r35, hr35, h⟩ := bnd_some h
    refine Run.callP wantS_none (ex_call rfl mkk80 cal80) rfl (alert_roll_isSigned_ok F a0 (S_api_Notice.mk a1.Alert a1.Signatures) s0 s1 s2 _ _ (hH29.slcF hs0) (hH29.slcF hs1) (hH29.slcF hs2) (fixH hH29 (List.mem_of_getElem? (i := 2) rfl) (List.mem_of_getElem? (i := 3) rfl) (List.mem_of_getElem? (i := 4) rfl)) hr35) ?_
    refine Run.opG wantS_none (ex_not rfl) rfl ?_
    refine Run.opG wantS_none (ex_assign rfl) rfl ?_
    refine Run.opsEnd ?_
    rcases btf ((!r35)) with hc37 | hc37
    · have h := bif_t hc37 h
      refine Run.condT' rfl hc37 ?_
      refine Run.seq (Run.region ?_)
      refine Run.opG wantS_none (ex_assign rfl) rfl ?_
      refine Run.opsEnd ?_
      cases h
      exact Run.ret Tryd.func58 rfl (res_tmp rfl res_nil) rfl
    · have h := bif_f hc37 h
      refine Run.condF' rfl hc37 ?_
      refine Run.seq (Run.region ?_)
      refine Run.opG wantS_none (ex_fieldAddr rfl off46_1) rfl ?_
      refine Run.opG wantS_none (ex_load1 rfl (hH29.cells (i := 0) rfl 9 rfl) rdLe_rfl agg44) rfl ?_
      refine Run.opG wantS_none (ex_len' rfl hs2 lenk44) rfl ?_
      refine Run.opG wantS_none (ex_fieldAddr rfl off97_1) rfl ?_
      refine Run.opG wantS_none (ex_load1 rfl (hH29.cells (i := 1) rfl 1 rfl) rdLe_rfl agg3) rfl ?_
      refine Run.opG wantS_none (ex_lss rfl rfl) rfl ?_
      refine Run.opG wantS_none (ex_assign rfl) rfl ?_
      refine Run.opsEnd ?_
      rcases btf ((decide ((a1.Signatures.length : Int) < a0.quorum))) with hc38 | hc38
      · have h := bif_t hc38 h
        refine Run.condT' rfl hc38 ?_
        refine Run.seq (Run.region ?_)
        refine Run.opG wantS_none (ex_assign rfl) rfl ?_
        refine Run.opsEnd ?_
        cases h
        exact Run.ret Tryd.func58 rfl (res_tmp rfl res_nil) rfl
      · have h := bif_f hc38 h
        refine Run.condF' rfl hc38 ?_
        refine Run.skip (Run.inBlock (Run.seq (Run.region ?_)))
        refine Run.opG wantS_none (ex_assign rfl) rfl ?_
        refine Run.opsEnd ?_
        cases h
        exact Run.ret Tryd.func58 rfl (res_tmp rfl res_nil) rfl

theorem mkk58 : makeK Tryd.prog 58 = none := by kernel_rfl
theorem cal58 : callable Tryd.prog 58 = true := by kernel_rfl
theorem lenk70 : lenK Tryd.prog 70 = some .sl := by kernel_rfl
theorem els70 : elems Tryd.prog 70 = some (.sl 9) := by kernel_rfl
abbrev alert_checkNext_post (r : Int) : SV → Mem → Prop := fun s _ => s = (.int .i64 r)

def alert_checkNext_1 (F : Nat) (v6 : Int) (c25_0 : (List UInt8)) (c25_1 c25_2 c25_3 c25_4 c25_5 : Int) (c25_6 : (List Int)) (c25_7 : Bool) (c25_8 : Int) (c28_0 : (List UInt8)) (c28_1 c28_2 c28_3 c28_4 c28_5 : Int) (c28_6 : (List Int)) (c28_7 : Bool) (c28_8 : Int) : Option (Int) :=
  bif c28_7 then
    some (107 : Int)
  else
    bif (!(c25_1 == (w64 (c28_1 + (1 : Int))))) then
      some (105 : Int)
    else
      bif (!(c25_8 == v6)) then
        some (106 : Int)
      else
        bif (decide (c25_2 < c28_2)) then
          some (108 : Int)
        else
          some (0 : Int)

theorem alert_checkNext_1_ok (F : Nat) : ∀ (v6 : Int) (c25_0 : (List UInt8)) (c25_1 c25_2 c25_3 c25_4 c25_5 : Int) (c25_6 : (List Int)) (c25_7 : Bool) (c25_8 : Int) (c28_0 : (List UInt8)) (c28_1 c28_2 c28_3 c28_4 c28_5 : Int) (c28_6 : (List Int)) (c28_7 : Bool) (c28_8 : Int) (sc25_6 sc28_6 : SV) (b25 b28 : Pos) (Fr : Rd) (M : Mem) (r : Int) (hc25_6 : Slc Fr 1 (FlatR enc3) sc25_6 c25_6) (hc28_6 : Slc Fr 1 (FlatR enc3) sc28_6 c28_6) (hH : Has Fr M [.obj b25 (.row 29 .whole [(.str c25_0), (.int .i64 c25_1), (.int .i64 c25_2), (.int .i64 c25_3), (.int .i64 c25_4), (.int .i64 c25_5), sc25_6, (.bool c25_7), (.int .i64 c25_8)]), .obj b28 (.row 29 .whole [(.str c28_0), (.int .i64 c28_1), (.int .i64 c28_2), (.int .i64 c28_3), (.int .i64 c28_4), (.int .i64 c28_5), sc28_6, (.bool c28_7), (.int .i64 c28_8)]), tb0, tb1, tb2]), alert_checkNext_1 F v6 c25_0 c25_1 c25_2 c25_3 c25_4 c25_5 c25_6 c25_7 c25_8 c28_0 c28_1 c28_2 c28_3 c28_4 c28_5 c28_6 c28_7 c28_8 = some r → Run Tryd.prog ⟨⟨67, [], none⟩, []⟩ 39 (alert_checkNext_post r) [(3, (.ptr b25 0)), (5, (.ptr b28 0)), (6, (.int .i64 v6))] [itemC Tryd.prog 67 [1, 1, 1, 1, 0, 0, 0] 0, codeC Tryd.prog 67 [1, 1, 1, 1, 0, 0, 1], .inBlock 0, codeC Tryd.prog 67 [1, 1, 1, 1, 1]] M := by
  intro v6 c25_0 c25_1 c25_2 c25_3 c25_4 c25_5 c25_6 c25_7 c25_8 c28_0 c28_1 c28_2 c28_3 c28_4 c28_5 c28_6 c28_7 c28_8 sc25_6 sc28_6 b25 b28 Fr M r hc25_6 hc28_6 hH h
  rw [alert_checkNext_1] at h
  refine Run.opG wantS_none (ex_fieldAddr rfl off29_6) rfl ?_
  refine Run.opG wantS_none (ex_load1 rfl (hH.cells (i := 1) rfl 7 rfl) rdLe_rfl agg4) rfl ?_
  refine Run.opG wantS_none (ex_assign rfl) rfl ?_
  refine Run.opsEnd ?_
  rcases btf (c28_7) with hc37 | hc37
  · have h := bif_t hc37 h
    refine Run.condT' rfl hc37 ?_
    refine Run.seq (Run.region ?_)
    refine Run.opG wantS_none (ex_assign rfl) rfl ?_
    refine Run.opsEnd ?_
    cases h
    exact Run.ret Tryd.func67 rfl (res_tmp rfl res_nil) rfl
  · have h := bif_f hc37 h
    refine Run.condF' rfl hc37 ?_
    refine Run.seq (Run.region ?_)
    refine Run.opG wantS_none (ex_fieldAddr rfl off29_1) rfl ?_
    refine Run.opG wantS_none (ex_load1 rfl (hH.cells (i := 0) rfl 1 rfl) rdLe_rfl agg3) rfl ?_
    refine Run.opG wantS_none (ex_fieldAddr rfl off29_1) rfl ?_
    refine Run.opG wantS_none (ex_load1 rfl (hH.cells (i := 1) rfl 1 rfl) rdLe_rfl agg3) rfl ?_
    refine Run.opG wantS_none (ex_add rfl rfl) rfl ?_
    refine Run.opG wantS_none (ex_neq rfl rfl) rfl ?_
    refine Run.opG wantS_none (ex_assign rfl) rfl ?_
    refine Run.opsEnd ?_
    rcases btf ((!(c25_1 == (w64 (c28_1 + (1 : Int)))))) with hc38 | hc38
    · have h := bif_t hc38 h
      refine Run.condT' rfl hc38 ?_
      refine Run.seq (Run.region ?_)
      refine Run.opG wantS_none (ex_assign rfl) rfl ?_
      refine Run.opsEnd ?_
      cases h
      exact Run.ret Tryd.func67 rfl (res_tmp rfl res_nil) rfl
    · have h := bif_f hc38 h
      refine Run.condF' rfl hc38 ?_
      refine Run.seq (Run.region ?_)
      refine Run.opG wantS_none (ex_fieldAddr rfl off29_7) rfl ?_
      refine Run.opG wantS_none (ex_load1 rfl (hH.cells (i := 0) rfl 8 rfl) rdLe_rfl agg3) rfl ?_
      refine Run.opG wantS_none (ex_move rfl) rfl ?_
      refine Run.opG wantS_none (ex_neq rfl rfl) rfl ?_
      refine Run.opG wantS_none (ex_assign rfl) rfl ?_
      refine Run.opsEnd ?_
      rcases btf ((!(c25_8 == v6))) with hc39 | hc39
      · have h := bif_t hc39 h
        refine Run.condT' rfl hc39 ?_
        refine Run.seq (Run.region ?_)
        refine Run.opG wantS_none (ex_assign rfl) rfl ?_
        refine Run.opsEnd ?_
        cases h
        exact Run.ret Tryd.func67 rfl (res_tmp rfl res_nil) rfl
      · have h := bif_f hc39 h
        refine Run.condF' rfl hc39 ?_
        refine Run.seq (Run.region ?_)
        refine Run.opG wantS_none (ex_fieldAddr rfl off29_2) rfl ?_
        refine Run.opG wantS_none (ex_load1 rfl (hH.cells (i := 0) rfl 2 rfl) rdLe_rfl agg3) rfl ?_
        refine Run.opG wantS_none (ex_fieldAddr rfl off29_2) rfl ?_
        refine Run.opG wantS_none (ex_load1 rfl (hH.cells (i := 1) rfl 2 rfl) rdLe_rfl agg3) rfl ?_
        refine Run.opG wantS_none (ex_lss rfl rfl) rfl ?_
        refine Run.opG wantS_none (ex_assign rfl) rfl ?_
        refine Run.opsEnd ?_
        rcases btf ((decide (c25_2 < c28_2))) with hc40 | hc40
        · have h := bif_t hc40 h
          refine Run.condT' rfl hc40 ?_
          refine Run.seq (Run.region ?_)
          refine Run.opG wantS_none (ex_assign rfl) rfl ?_
          refine Run.opsEnd ?_
          cases h
          exact Run.ret Tryd.func67 rfl (res_tmp rfl res_nil) rfl
        · have h := bif_f hc40 h
          refine Run.condF' rfl hc40 ?_
          refine Run.skip (Run.inBlock (Run.seq (Run.region ?_)))
          refine Run.opG wantS_none (ex_assign rfl) rfl ?_
          refine Run.opsEnd ?_
          cases h
          exact Run.ret Tryd.func67 rfl (res_tmp rfl res_nil) rfl

def alert_checkNext (F : Nat) (a0 : (List S_api_Alert)) (a1 : S_api_Alert) : Option (Int) :=
  bif (decide ((0 : Int) < (a0.length : Int))) then
    bnd (idx a0 (w64 ((a0.length : Int) - (1 : Int)))) fun x32 =>
    bnd (alert_digestOf F x32) fun r35 =>
    alert_checkNext_1 F r35 a1.Event a1.Version a1.Time a1.Chance.N a1.Chance.Of a1.Grid a1.Cells a1.Withdrawn a1.Before x32.Event x32.Version x32.Time x32.Chance.N x32.Chance.Of x32.Grid x32.Cells x32.Withdrawn x32.Before
  else
    alert_checkNext_1 F (0 : Int) a1.Event a1.Version a1.Time a1.Chance.N a1.Chance.Of a1.Grid a1.Cells a1.Withdrawn a1.Before [] (0 : Int) (0 : Int) (0 : Int) (0 : Int) (0 : Int) [] false (0 : Int)

theorem alert_checkNext_ok (F : Nat) (a0 : (List S_api_Alert)) (a1 : S_api_Alert) (s0 s1 : SV) (r : Int) (M : Mem) (hs0 : Slc (rd M) 9 (rep29 (rd M)) s0 a0) (hs1 : Slc (rd M) 1 (FlatR enc3) s1 a1.Cells) (hfx : FixIn M fixes) (h : alert_checkNext F a0 a1 = some r) : CallsM Tryd.prog 67 [s0, (.agg [(.str a1.Event), (.int .i64 a1.Version), (.int .i64 a1.Time), (.int .i64 a1.Chance.N), (.int .i64 a1.Chance.Of), (.int .i64 a1.Grid), s1, (.bool a1.Withdrawn), (.int .i64 a1.Before)])] M (fun s M' => s = (.int .i64 r) ∧ M' = M) := by
  refine CallsM.plain Tryd.func67 rfl rfl rfl (show Run _ _ _ (alert_checkNext_post r) _ _ _ from ?_)
  rw [alert_checkNext] at h
  replace hs0 := hs0.mono (rdLe_frozen M) (fun _ _ => rep29_mo (rdLe_frozen M))
  replace hs1 := hs1.mono (rdLe_frozen M) (fun _ _ h => h)
  have hH : Has (ro (frozen M)) (frozen M) [tb0, tb1, tb2] := Has.ofFix hfx.frozen
  refine Run.seq (Run.region ?_)
  refine Run.opX wantS_none rfl (ExG.box rfl rfl hH) ?_
  rintro _ M26 ⟨b25, rfl, hH26⟩
  refine Run.opG wantS_none (ex_assign rfl) rfl ?_
  refine Run.opsEnd (Run.seq (Run.region ?_))
  refine Run.opX wantS_none rfl (ExG.new (v := fun b => .ptr b 0) (ex_alloc zer29) hH26) ?_
  rintro _ M29 ⟨b28, rfl, hH29⟩
  refine Run.opsEnd (Run.seq (Run.region ?_))
  refine Run.opG wantS_none (ex_assign rfl) rfl ?_
  refine Run.opsEnd (Run.seq (Run.seq (Run.region ?_)))
  refine Run.opG wantS_none (ex_move rfl) rfl ?_
  refine Run.opG wantS_none (ex_len' rfl hs0 lenk70) rfl ?_
  refine Run.opG wantS_none (ex_gtr rfl rfl) rfl ?_
  refine Run.opsEnd ?_
  rcases btf ((decide ((0 : Int) < (a0.length : Int)))) with hc30 | hc30
  · have h := bif_t hc30 h
    refine Run.condT' rfl hc30 ?_
    refine Run.seq (Run.region ?_)
    refine Run.opG wantS_none (ex_move rfl) rfl ?_
    refine Run.opG wantS_none (ex_move rfl) rfl ?_
    refine Run.opG wantS_none (ex_len' rfl hs0 lenk70) rfl ?_
    refine Run.opG wantS_none (ex_sub rfl rfl) rfl ?_
    obtain ⟨x32, hx32, h⟩ := bnd_some h
    obtain ⟨p32, o32, _, hx32, hp32, ⟨q32_0, rfl, hq32_0⟩⟩ := sl_elem (P := Tryd.prog) (t := 70) (kk := .i64) hs0 hx32 els70
    refine Run.opG wantS_none (ex_elX rfl rfl hx32) rfl ?_
    refine Run.opG wantS_none (ex_loadA rfl (hH29.ptrF hp32) rdLe_rfl agg29 rfl rfl rfl) rfl ?_
    refine Run.opX wantS_none rfl (ExG.storeC (c' := [(.str x32.Event), (.int .i64 x32.Version), (.int .i64 x32.Time), (.int .i64 x32.Chance.N), (.int .i64 x32.Chance.Of), (.int .i64 x32.Grid), q32_0, (.bool x32.Withdrawn), (.int .i64 x32.Before)]) rfl rfl rfl hH29 (i := 0) rfl sz29 rfl rfl rfl (ones_cons rfl (ones_cons rfl (ones_cons rfl (ones_cons rfl (ones_cons rfl (ones_cons rfl (ones_cons (slc_one hq32_0) (ones_cons rfl (ones_cons rfl ones_nil))))))))) rfl) ?_
    rintro _ M33 ⟨rfl, (hH33 : Has (ro (frozen M)) M33 [.obj b28 (.row 29 .whole [(.str x32.Event), (.int .i64 x32.Version), (.int .i64 x32.Time), (.int .i64 x32.Chance.N), (.int .i64 x32.Chance.Of), (.int .i64 x32.Grid), q32_0, (.bool x32.Withdrawn), (.int .i64 x32.Before)]), .obj b25 (.row 29 .whole [(.str a1.Event), (.int .i64 a1.Version), (.int .i64 a1.Time), (.int .i64 a1.Chance.N), (.int .i64 a1.Chance.Of), (.int .i64 a1.Grid), s1, (.bool a1.Withdrawn), (.int .i64 a1.Before)]), tb0, tb1, tb2])⟩
    refine Run.opsEnd (Run.region ?_)
    refine Run.opG wantS_none (ex_loadA rfl (hH33.cells (i := 0) rfl 0 rfl) rdLe_rfl agg29 rfl rfl rfl) rfl ?_
    obtain ⟨r35, hr35, h⟩ := bnd_some h
    refine Run.callP wantS_none (ex_call rfl mkk45 cal45) rfl (alert_digestOf_ok F x32 q32_0 _ _ (hH33.slcF hq32_0) (fixH hH33 (List.mem_of_getElem? (i := 2) rfl) (List.mem_of_getElem? (i := 3) rfl) (List.mem_of_getElem? (i := 4) rfl)) hr35) ?_
    refine Run.opG wantS_none (ex_assign rfl) rfl ?_
    refine Run.opsEnd (Run.seq (Run.block (Run.seq (Run.region ?_))))
    exact Run.pick [3, 5, 6] (alert_checkNext_1_ok F r35 a1.Event a1.Version a1.Time a1.Chance.N a1.Chance.Of a1.Grid a1.Cells a1.Withdrawn a1.Before x32.Event x32.Version x32.Time x32.Chance.N x32.Chance.Of x32.Grid x32.Cells x32.Withdrawn x32.Before s1 q32_0 b25 b28 _ _ _ hs1 hq32_0 (hH33.pick [1, 0, 2, 3, 4] rfl rfl) h)
  · have h := bif_f hc30 h
    refine Run.condF' rfl hc30 ?_
    refine Run.skip (Run.seq (Run.block (Run.seq (Run.region ?_))))
    exact Run.pick [3, 5, 6] (alert_checkNext_1_ok F (0 : Int) a1.Event a1.Version a1.Time a1.Chance.N a1.Chance.Of a1.Grid a1.Cells a1.Withdrawn a1.Before [] (0 : Int) (0 : Int) (0 : Int) (0 : Int) (0 : Int) [] false (0 : Int) s1 .nils b25 b28 _ _ _ hs1 slc_nil (hH29.pick [1, 0, 2, 3, 4] rfl rfl) h)

theorem mkk67 : makeK Tryd.prog 67 = none := by kernel_rfl
theorem cal67 : callable Tryd.prog 67 = true := by kernel_rfl
theorem mkk68 : makeK Tryd.prog 68 = none := by kernel_rfl
theorem cal68 : callable Tryd.prog 68 = true := by kernel_rfl
theorem eqk44 : eqK Tryd.prog 44 = some .slice := by kernel_rfl
theorem elt44 : sliceElt Tryd.prog 44 = some (⟨2, 16, [(.int .i64 0), (.int .i64 0)], 111⟩ : Elt) := by kernel_rfl
theorem appt44_44 : appT Tryd.prog 44 44 = some (⟨2, 16, [(.int .i64 0), (.int .i64 0)], 111⟩ : Elt) := by kernel_rfl
abbrev slices_Clone_84_post (r : (List S_api_Signature)) : SV → Mem → Prop := fun s Me => ∃ q1, s = q1 ∧ Has (fun _ => none) Me [.vec 111 2 r.length q1 (r.flatMap enc111)]

def slices_Clone_84 (F : Nat) (a0 : (List S_api_Signature)) : Option ((List S_api_Signature)) :=
  bnd (apd 16 ([] : List S_api_Signature) a0) fun l29 =>
  some l29

theorem slices_Clone_84_ok (F : Nat) (a0 : (List S_api_Signature)) (s0 : SV) (r : (List S_api_Signature)) (M : Mem) (hs0 : Slc (rd M) 2 (FlatR enc111) s0 a0) (h : slices_Clone_84 F a0 = some r) : CallsM Tryd.prog 84 [s0] M (fun s M' => ∃ q1, s = q1 ∧ New M M' [.vec 111 2 r.length q1 (r.flatMap enc111)]) := by
  refine CallsM.fresh (Q := slices_Clone_84_post r) Tryd.func84 rfl rfl ?_ (by rintro s Me ⟨q1, rfl, hx⟩ ha hw; exact ⟨_, rfl, New.of rfl hx ha hw⟩)
  rw [slices_Clone_84] at h
  replace hs0 := hs0.mono (rdLe_frozen M) (fun _ _ h => h)
  have hH := Has.nil (frozen M)
  refine Run.seq (Run.region ?_)
  refine Run.opG wantS_none (ex_assign rfl) rfl ?_
  refine Run.opsEnd (Run.seq (Run.seq (Run.region ?_)))
  refine Run.opG wantS_none (ex_move rfl) rfl ?_
  rcases slc_or hs0 with ⟨rfl, rfl⟩ | hn21
  · have h : (
      some ([] : List S_api_Signature)
      ) = some r := h
    refine Run.opG wantS_none (ex_nilT rfl rfl eqk44) rfl ?_
    refine Run.opsEnd ?_
    refine Run.condT' rfl rfl ?_
    refine Run.seq (Run.region ?_)
    refine Run.opG wantS_none (ex_assign rfl) rfl ?_
    refine Run.opsEnd ?_
    have hH23 : Has (ro (frozen M)) (frozen M) [.vec 111 2 ([] : List S_api_Signature).length .nils (([] : List S_api_Signature).flatMap enc111)] := hH.nils 111 2
    cases h
    exact Run.ret Tryd.func84 rfl (res_tmp rfl res_nil) ⟨_, rfl, (hH23.pick [0] rfl rfl).upF (none_le _)⟩
  · refine Run.opG wantS_none (ex_nilF rfl hn21 rfl eqk44) rfl ?_
    refine Run.opsEnd ?_
    refine Run.condF' rfl rfl ?_
    refine Run.skip (Run.seq (Run.region ?_))
    refine Run.opX wantS_none rfl (ExG.built (enc := enc111) (l := ([] : List S_api_Signature)) (z := 2) rfl elt44 rfl rfl rfl enc111_len hH) ?_
    rintro s25 M26 (hH26 : Has (ro (frozen M)) M26 [.vec 111 2 ([] : List S_api_Signature).length s25 (([] : List S_api_Signature).flatMap enc111)])
    refine Run.opG wantS_none (ex_move rfl) rfl ?_
    obtain ⟨l29, hl29, h⟩ := bnd_some h
    refine Run.opX wantS_none rfl (ExG.append rfl rfl hH26 (i := 0) rfl enc111_len rfl enc111_ones appt44_44 rfl (len_slc hs0) (first_slc hs0 (rdLe_roF hH26) enc111_len) hl29) ?_
    rintro s29 M31 (hH31 : Has (ro (frozen M)) M31 [.vec 111 2 l29.length s29 (l29.flatMap enc111)])
    refine Run.opG wantS_none (ex_assign rfl) rfl ?_
    refine Run.opsEnd ?_
    cases h
    exact Run.ret Tryd.func84 rfl (res_tmp rfl res_nil) ⟨_, rfl, (hH31.pick [0] rfl rfl).upF (none_le _)⟩

theorem mkk84 : makeK Tryd.prog 84 = none := by kernel_rfl
theorem cal84 : callable Tryd.prog 84 = true := by kernel_rfl
theorem sz44 : szOf Tryd.prog 44 = some 1 := by kernel_rfl
theorem plan68_1_0 : planOf Tryd.prog (opsC (atC Tryd.prog 68 [1, 0])) = some [.fl 0, .fl 1, .fl 3, .fl 4, .an 2 [4, 3], .fl 6, .an 5 [6], .an 7 [], .fl 8, .an 9 [], .sync] := by kernel_rfl
theorem elt66 : sliceElt Tryd.prog 66 = some (⟨10, 120, [(.str []), (.int .i64 0), (.int .i64 0), (.int .i64 0), (.int .i64 0), (.int .i64 0), .nils, (.bool false), (.int .i64 0), .nils], 46⟩ : Elt) := by kernel_rfl
theorem appt66_66 : appT Tryd.prog 66 66 = some (⟨10, 120, [(.str []), (.int .i64 0), (.int .i64 0), (.int .i64 0), (.int .i64 0), (.int .i64 0), .nils, (.bool false), (.int .i64 0), .nils], 46⟩ : Elt) := by kernel_rfl
theorem sz66 : szOf Tryd.prog 66 = some 1 := by kernel_rfl
abbrev alert_CheckAlert_post (r : Int) : SV → Mem → Prop := fun s _ => s = (.int .i64 r)

def alert_CheckAlert (F : Nat) (a0 : S_api_Alert) : Option (Int) :=
  bnd (alert_isAlert F a0) fun r25 =>
  bif (!r25) then
    some (101 : Int)
  else
    some (0 : Int)

theorem alert_CheckAlert_ok (F : Nat) (a0 : S_api_Alert) (s0 : SV) (r : Int) (M : Mem) (hs0 : Slc (rd M) 1 (FlatR enc3) s0 a0.Cells) (h : alert_CheckAlert F a0 = some r) : CallsM Tryd.prog 69 [(.agg [(.str a0.Event), (.int .i64 a0.Version), (.int .i64 a0.Time), (.int .i64 a0.Chance.N), (.int .i64 a0.Chance.Of), (.int .i64 a0.Grid), s0, (.bool a0.Withdrawn), (.int .i64 a0.Before)])] M (fun s M' => s = (.int .i64 r) ∧ M' = M) := by
  refine CallsM.plain Tryd.func69 rfl rfl rfl (show Run _ _ _ (alert_CheckAlert_post r) _ _ _ from ?_)
  rw [alert_CheckAlert] at h
  replace hs0 := hs0.mono (rdLe_frozen M) (fun _ _ h => h)
  have hH := Has.nil (frozen M)
  refine Run.seq (Run.region ?_)
  refine Run.opX wantS_none rfl (ExG.box rfl rfl hH) ?_
  rintro _ M23 ⟨b22, rfl, hH23⟩
  refine Run.opG wantS_none (ex_assign rfl) rfl ?_
  refine Run.opsEnd (Run.seq (Run.seq (Run.region ?_)))
  refine Run.opG wantS_none (ex_loadA rfl (hH23.cells (i := 0) rfl 0 rfl) rdLe_rfl agg29 rfl rfl rfl) rfl ?_
  obtain ⟨r25, hr25, h⟩ := bnd_some h
  refine Run.callP wantS_none (ex_call rfl mkk43 cal43) rfl (alert_isAlert_ok F a0 s0 _ _ (hH23.slcF hs0) hr25) ?_
  refine Run.opG wantS_none (ex_not rfl) rfl ?_
  refine Run.opsEnd ?_
  rcases btf ((!r25)) with hc27 | hc27
  · have h := bif_t hc27 h
    refine Run.condT' rfl hc27 ?_
    refine Run.seq (Run.region ?_)
    refine Run.opG wantS_none (ex_assign rfl) rfl ?_
    refine Run.opsEnd ?_
    cases h
    exact Run.ret Tryd.func69 rfl (res_tmp rfl res_nil) rfl
  · have h := bif_f hc27 h
    refine Run.condF' rfl hc27 ?_
    refine Run.skip (Run.seq (Run.region ?_))
    refine Run.opG wantS_none (ex_assign rfl) rfl ?_
    refine Run.opsEnd ?_
    cases h
    exact Run.ret Tryd.func69 rfl (res_tmp rfl res_nil) rfl

theorem mkk69 : makeK Tryd.prog 69 = none := by kernel_rfl
theorem cal69 : callable Tryd.prog 69 = true := by kernel_rfl
abbrev alert_Digest_post (r : Int × Int) : SV → Mem → Prop := fun s _ => s = (.tuple [(.int .i64 r.1), (.int .i64 r.2)])

def alert_Digest (F : Nat) (a0 : S_api_Alert) : Option (Int × Int) :=
  bnd (alert_CheckAlert F a0) fun r28 =>
  bif (!(r28 == (0 : Int))) then
    some ((0 : Int), r28)
  else
    bnd (alert_digestOf F a0) fun r32 =>
    some (r32, (0 : Int))

theorem alert_Digest_ok (F : Nat) (a0 : S_api_Alert) (s0 : SV) (r : Int × Int) (M : Mem) (hs0 : Slc (rd M) 1 (FlatR enc3) s0 a0.Cells) (hfx : FixIn M fixes) (h : alert_Digest F a0 = some r) : CallsM Tryd.prog 33 [(.agg [(.str a0.Event), (.int .i64 a0.Version), (.int .i64 a0.Time), (.int .i64 a0.Chance.N), (.int .i64 a0.Chance.Of), (.int .i64 a0.Grid), s0, (.bool a0.Withdrawn), (.int .i64 a0.Before)])] M (fun s M' => s = (.tuple [(.int .i64 r.1), (.int .i64 r.2)]) ∧ M' = M) := by
  refine CallsM.plain Tryd.func33 rfl rfl rfl (show Run _ _ _ (alert_Digest_post r) _ _ _ from ?_)
  rw [alert_Digest] at h
  replace hs0 := hs0.mono (rdLe_frozen M) (fun _ _ h => h)
  have hH : Has (ro (frozen M)) (frozen M) [tb0, tb1, tb2] := Has.ofFix hfx.frozen
  refine Run.seq (Run.region ?_)
  refine Run.opX wantS_none rfl (ExG.box rfl rfl hH) ?_
  rintro _ M26 ⟨b25, rfl, hH26⟩
  refine Run.opG wantS_none (ex_assign rfl) rfl ?_
  refine Run.opG wantS_none (ex_assign rfl) rfl ?_
  refine Run.opsEnd (Run.seq (Run.seq (Run.region ?_)))
  refine Run.opG wantS_none (ex_loadA rfl (hH26.cells (i := 0) rfl 0 rfl) rdLe_rfl agg29 rfl rfl rfl) rfl ?_
  obtain ⟨r28, hr28, h⟩ := bnd_some h
  refine Run.callP wantS_none (ex_call rfl mkk69 cal69) rfl (alert_CheckAlert_ok F a0 s0 _ _ (hH26.slcF hs0) hr28) ?_
  refine Run.opG wantS_none (ex_assign rfl) rfl ?_
  refine Run.opsEnd (Run.seq (Run.region ?_))
  refine Run.opG wantS_none (ex_move rfl) rfl ?_
  refine Run.opG wantS_none (ex_neq rfl rfl) rfl ?_
  refine Run.opsEnd ?_
  rcases btf ((!(r28 == (0 : Int)))) with hc30 | hc30
  · have h := bif_t hc30 h
    refine Run.condT' rfl hc30 ?_
    refine Run.seq (Run.region ?_)
    refine Run.opG wantS_none (ex_move rfl) rfl ?_
    refine Run.opG wantS_none (ex_assign rfl) rfl ?_
    refine Run.opG wantS_none (ex_assign rfl) rfl ?_
    refine Run.opsEnd ?_
    cases h
    exact Run.ret Tryd.func33 rfl (res_tmp rfl (res_tmp rfl res_nil)) rfl
  · have h := bif_f hc30 h
    refine Run.condF' rfl hc30 ?_
    refine Run.skip (Run.seq (Run.region ?_))
    refine Run.opG wantS_none (ex_loadA rfl (hH26.cells (i := 0) rfl 0 rfl) rdLe_rfl agg29 rfl rfl rfl) rfl ?_
    obtain ⟨r32, hr32, h⟩ := bnd_some h
    refine Run.callP wantS_none (ex_call rfl mkk45 cal45) rfl (alert_digestOf_ok F a0 s0 _ _ (hH26.slcF hs0) (fixH hH26 (List.mem_of_getElem? (i := 1) rfl) (List.mem_of_getElem? (i := 2) rfl) (List.mem_of_getElem? (i := 3) rfl)) hr32) ?_
    refine Run.opG wantS_none (ex_assign rfl) rfl ?_
    refine Run.opG wantS_none (ex_assign rfl) rfl ?_
    refine Run.opsEnd ?_
    cases h
    exact Run.ret Tryd.func33 rfl (res_tmp rfl (res_tmp rfl res_nil)) rfl

theorem mkk33 : makeK Tryd.prog 33 = none := by kernel_rfl
theorem cal33 : callable Tryd.prog 33 = true := by kernel_rfl
theorem plan7_1_1_1_0_1_0_0_1_0_0_1_1_1_1_1_0_1_0_0_1_0_0_1_1_1_0 : planOf Tryd.prog (opsC (atC Tryd.prog 7 [1, 1, 1, 0, 1, 0, 0, 1, 0, 0, 1, 1, 1, 1, 1, 0, 1, 0, 0, 1, 0, 0, 1, 1, 1, 0])) = some [.fl 0, .fl 1, .fl 2, .fl 3, .fl 4, .fl 5, .fl 6, .fl 7, .fl 8, .fl 9, .fl 10, .fl 11, .fl 12, .fl 13, .fl 14, .fl 15, .fl 16, .fl 17, .fl 18, .fl 19, .fl 20, .fl 21, .fl 22, .fl 23, .fl 24, .sync] := by kernel_rfl
theorem mkk34 : makeK Tryd.prog 34 = none := by kernel_rfl
theorem cal34 : callable Tryd.prog 34 = true := by kernel_rfl
theorem pls29 : placesOf Tryd.prog 29 = some (.st [(0, 1), (1, 1), (2, 1), (3, 2), (5, 1), (6, 1), (7, 1), (8, 1)]) := by kernel_rfl
theorem agk3 : aggK Tryd.prog 3 = some .int := by kernel_rfl
theorem agk26 : aggK Tryd.prog 26 = some (.st [⟨ "N", 3, 0, false, "", "", 0⟩, ⟨ "Of", 3, 1, false, "", "", 8⟩]) := by kernel_rfl
theorem aeq26 : aggEq Tryd.prog 26 = false := by kernel_rfl
theorem plan27_1_1_0_1_0_0_1_0_0_0 : planOf Tryd.prog (opsC (atC Tryd.prog 27 [1, 1, 0, 1, 0, 0, 1, 0, 0, 0])) = some [.fl 0, .fl 1, .fl 2, .fl 3, .fl 4, .fl 5, .fl 6, .fl 7, .fl 8, .sync] := by kernel_rfl
abbrev ref00_SameInts_post (r : Bool) : SV → Mem → Prop := fun s _ => s = (.bool r)

def ref00_SameInts_1 (F : Nat) : Nat → (List Int) → (List Int) → Int → Option (Bool)
  | 0, _, _, _ => none
  | N + 1, v0, v1, v5 =>
    bif (decide (v5 < (v0.length : Int))) then
      bnd (idx v0 v5) fun x23 =>
      bnd (idx v1 v5) fun x24 =>
      bif (!(x23 == x24)) then
        some false
      else
        (ref00_SameInts_1 F N) v0 v1 (w64 (v5 + (1 : Int)))
    else
      some true

theorem ref00_SameInts_1_ok (F : Nat) : ∀ (N : Nat), ∀ (v0 v1 : (List Int)) (v5 : Int) (sv0 sv1 : SV) (Fr : Rd) (M : Mem) (r : Bool) (hv0 : Slc Fr 1 (FlatR enc3) sv0 v0) (hv1 : Slc Fr 1 (FlatR enc3) sv1 v1) (hH : Has Fr M []), ref00_SameInts_1 F N v0 v1 v5 = some r → Run Tryd.prog ⟨⟨27, [], none⟩, []⟩ 26 (ref00_SameInts_post r) [(0, sv0), (1, sv1), (5, (.int .i64 v5))] [codeC Tryd.prog 27 [1, 1, 0, 1, 0, 0], loopC Tryd.prog 27 [1, 1, 0, 1, 0, 0], .inBlock 0, codeC Tryd.prog 27 [1, 1, 1]] M := by
  intro N
  induction N with
  | zero =>
    intro v0 v1 v5 sv0 sv1 Fr M r hv0 hv1 hH h
    simp [ref00_SameInts_1] at h
  | succ N ih =>
    intro v0 v1 v5 sv0 sv1 Fr M r hv0 hv1 hH h
    rw [ref00_SameInts_1] at h
    refine Run.seq (Run.seq (Run.region ?_))
    refine Run.opG wantS_none (ex_move rfl) rfl ?_
    refine Run.opG wantS_none (ex_move rfl) rfl ?_
    refine Run.opG wantS_none (ex_len' rfl hv0 lenk27) rfl ?_
    refine Run.opG wantS_none (ex_lss rfl rfl) rfl ?_
    refine Run.opsEnd ?_
    rcases btf ((decide (v5 < (v0.length : Int)))) with hc22 | hc22
    · have h := bif_t hc22 h
      refine Run.condT' rfl hc22 ?_
      refine Run.skip (Run.seq (Run.block (Run.seq ?_)))
      refine Run.drawG plan27_1_1_0_1_0_0_1_0_0_0 ?_
      refine DrawG.fl rfl (ev_ex wantS_none (ex_move rfl)) rfl ?_
      refine DrawG.fl rfl (ev_ex wantS_none (ex_move rfl)) rfl ?_
      obtain ⟨x23, hx23, h⟩ := bnd_some h
      obtain ⟨p23, o23, _, hx23, hp23, rfl⟩ := sl_elem (P := Tryd.prog) (t := 27) (kk := .i64) hv0 hx23 els27
      refine DrawG.fl rfl (ev_ex wantS_none (ex_elX rfl rfl hx23)) rfl ?_
      refine DrawG.fl rfl (ev_ex wantS_none (ex_load1 rfl (hH.ptrF hp23) rdLe_rfl agg3)) rfl ?_
      refine DrawG.fl rfl (ev_ex wantS_none (ex_move rfl)) rfl ?_
      refine DrawG.fl rfl (ev_ex wantS_none (ex_move rfl)) rfl ?_
      obtain ⟨x24, hx24, h⟩ := bnd_some h
      obtain ⟨p24, o24, _, hx24, hp24, rfl⟩ := sl_elem (P := Tryd.prog) (t := 27) (kk := .i64) hv1 hx24 els27
      refine DrawG.fl rfl (ev_ex wantS_none (ex_elX rfl rfl hx24)) rfl ?_
      refine DrawG.fl rfl (ev_ex wantS_none (ex_load1 rfl (hH.ptrF hp24) rdLe_rfl agg3)) rfl ?_
      refine DrawG.fl rfl (ev_ex wantS_none (ex_neq rfl rfl)) rfl ?_
      refine DrawG.sync ?_
      refine DrawG.nil ?_
      rcases btf ((!(x23 == x24))) with hc25 | hc25
      · have h := bif_t hc25 h
        refine Run.condT' rfl hc25 ?_
        refine Run.seq (Run.region ?_)
        refine Run.opG wantS_none (ex_assign rfl) rfl ?_
        refine Run.opsEnd ?_
        cases h
        exact Run.ret Tryd.func27 rfl (res_tmp rfl res_nil) rfl
      · have h := bif_f hc25 h
        refine Run.condF' rfl hc25 ?_
        refine Run.skip (Run.inBlock (Run.region ?_))
        refine Run.opG wantS_none (ex_move rfl) rfl ?_
        refine Run.opG wantS_none (ex_add rfl rfl) rfl ?_
        refine Run.opG wantS_none (ex_assign rfl) rfl ?_
        refine Run.opsEnd (Run.inLoop ?_)
        exact Run.pick [0, 1, 5] (ih v0 v1 (w64 (v5 + (1 : Int))) sv0 sv1 _ _ _ hv0 hv1 hH h)
    · have h := bif_f hc22 h
      refine Run.condF' rfl hc22 ?_
      refine Run.exit rfl (Run.seq (Run.region ?_))
      refine Run.opG wantS_none (ex_assign rfl) rfl ?_
      refine Run.opsEnd ?_
      cases h
      exact Run.ret Tryd.func27 rfl (res_tmp rfl res_nil) rfl

def ref00_SameInts (F : Nat) (a0 a1 : (List Int)) : Option (Bool) :=
  bif (!((a0.length : Int) == (a1.length : Int))) then
    some false
  else
    ref00_SameInts_1 F F a0 a1 (0 : Int)

theorem ref00_SameInts_ok (F : Nat) (a0 a1 : (List Int)) (s0 s1 : SV) (r : Bool) (M : Mem) (hs0 : Slc (rd M) 1 (FlatR enc3) s0 a0) (hs1 : Slc (rd M) 1 (FlatR enc3) s1 a1) (h : ref00_SameInts F a0 a1 = some r) : CallsM Tryd.prog 27 [s0, s1] M (fun s M' => s = (.bool r) ∧ M' = M) := by
  refine CallsM.plain Tryd.func27 rfl rfl rfl (show Run _ _ _ (ref00_SameInts_post r) _ _ _ from ?_)
  rw [ref00_SameInts] at h
  replace hs0 := hs0.mono (rdLe_frozen M) (fun _ _ h => h)
  replace hs1 := hs1.mono (rdLe_frozen M) (fun _ _ h => h)
  have hH := Has.nil (frozen M)
  refine Run.seq (Run.region ?_)
  refine Run.opG wantS_none (ex_assign rfl) rfl ?_
  refine Run.opsEnd (Run.seq (Run.seq (Run.region ?_)))
  refine Run.opG wantS_none (ex_move rfl) rfl ?_
  refine Run.opG wantS_none (ex_len' rfl hs0 lenk27) rfl ?_
  refine Run.opG wantS_none (ex_move rfl) rfl ?_
  refine Run.opG wantS_none (ex_len' rfl hs1 lenk27) rfl ?_
  refine Run.opG wantS_none (ex_neq rfl rfl) rfl ?_
  refine Run.opsEnd ?_
  rcases btf ((!((a0.length : Int) == (a1.length : Int)))) with hc21 | hc21
  · have h := bif_t hc21 h
    refine Run.condT' rfl hc21 ?_
    refine Run.seq (Run.region ?_)
    refine Run.opG wantS_none (ex_assign rfl) rfl ?_
    refine Run.opsEnd ?_
    cases h
    exact Run.ret Tryd.func27 rfl (res_tmp rfl res_nil) rfl
  · have h := bif_f hc21 h
    refine Run.condF' rfl hc21 ?_
    refine Run.skip (Run.seq (Run.seq (Run.region ?_)))
    refine Run.opG wantS_none (ex_assign rfl) rfl ?_
    refine Run.opsEnd (Run.block (Run.loop ?_))
    exact Run.pick [0, 1, 5] (ref00_SameInts_1_ok F F a0 a1 (0 : Int) s0 s1 _ _ _ hs0 hs1 hH h)

theorem mkk27 : makeK Tryd.prog 27 = none := by kernel_rfl
theorem cal27 : callable Tryd.prog 27 = true := by kernel_rfl
abbrev ref10_Same_post (r : Bool) : SV → Mem → Prop := fun s _ => s = (.bool r)

def ref10_Same_7 (F : Nat) (v58 : Bool) : Option (Bool) :=
  some v58

theorem ref10_Same_7_ok (F : Nat) : ∀ (v58 : Bool) (Fr : Rd) (M : Mem) (r : Bool) (hH : Has Fr M []), ref10_Same_7 F v58 = some r → Run Tryd.prog ⟨⟨62, [], none⟩, []⟩ 59 (ref10_Same_post r) [(58, (.bool v58))] [itemC Tryd.prog 62 [1, 0] 54, codeC Tryd.prog 62 [1, 1]] M := by
  intro v58 Fr M r hH h
  rw [ref10_Same_7] at h
  refine Run.opG wantS_none (ex_assign rfl) rfl ?_
  refine Run.opsEnd ?_
  cases h
  exact Run.ret Tryd.func62 rfl (res_tmp rfl res_nil) rfl

def ref10_Same_6 (F : Nat) (v51 : Bool) (c22_0 : (List UInt8)) (c22_1 c22_2 c22_3 c22_4 c22_5 : Int) (c22_6 : (List Int)) (c22_7 : Bool) (c22_8 : Int) (c25_0 : (List UInt8)) (c25_1 c25_2 c25_3 c25_4 c25_5 : Int) (c25_6 : (List Int)) (c25_7 : Bool) (c25_8 : Int) : Option (Bool) :=
  bif v51 then
    ref10_Same_7 F (c22_8 == c25_8)
  else
    ref10_Same_7 F false

theorem ref10_Same_6_ok (F : Nat) : ∀ (v51 : Bool) (c22_0 : (List UInt8)) (c22_1 c22_2 c22_3 c22_4 c22_5 : Int) (c22_6 : (List Int)) (c22_7 : Bool) (c22_8 : Int) (c25_0 : (List UInt8)) (c25_1 c25_2 c25_3 c25_4 c25_5 : Int) (c25_6 : (List Int)) (c25_7 : Bool) (c25_8 : Int) (sc22_6 sc25_6 : SV) (b22 b25 : Pos) (Fr : Rd) (M : Mem) (r : Bool) (hc22_6 : Slc Fr 1 (FlatR enc3) sc22_6 c22_6) (hc25_6 : Slc Fr 1 (FlatR enc3) sc25_6 c25_6) (hH : Has Fr M [.obj b22 (.row 29 .whole [(.str c22_0), (.int .i64 c22_1), (.int .i64 c22_2), (.int .i64 c22_3), (.int .i64 c22_4), (.int .i64 c22_5), sc22_6, (.bool c22_7), (.int .i64 c22_8)]), .obj b25 (.row 29 .whole [(.str c25_0), (.int .i64 c25_1), (.int .i64 c25_2), (.int .i64 c25_3), (.int .i64 c25_4), (.int .i64 c25_5), sc25_6, (.bool c25_7), (.int .i64 c25_8)])]), ref10_Same_6 F v51 c22_0 c22_1 c22_2 c22_3 c22_4 c22_5 c22_6 c22_7 c22_8 c25_0 c25_1 c25_2 c25_3 c25_4 c25_5 c25_6 c25_7 c25_8 = some r → Run Tryd.prog ⟨⟨62, [], none⟩, []⟩ 59 (ref10_Same_post r) [(2, (.ptr b22 0)), (3, (.ptr b25 0)), (51, (.bool v51))] [itemC Tryd.prog 62 [1, 0] 47, codeC Tryd.prog 62 [1, 1]] M := by
  intro v51 c22_0 c22_1 c22_2 c22_3 c22_4 c22_5 c22_6 c22_7 c22_8 c25_0 c25_1 c25_2 c25_3 c25_4 c25_5 c25_6 c25_7 c25_8 sc22_6 sc25_6 b22 b25 Fr M r hc22_6 hc25_6 hH h
  rw [ref10_Same_6] at h
  refine Run.opG wantS_none (ex_move rfl) rfl ?_
  rcases btf (v51) with hc36 | hc36
  · have h := bif_t hc36 h
    refine Run.opG (wantS_yes' rfl rfl hc36) (ex_fieldAddr rfl off29_7) rfl ?_
    refine Run.opG (wantS_yes' rfl rfl hc36) (ex_load1 rfl (hH.cells (i := 0) rfl 8 rfl) rdLe_rfl agg3) rfl ?_
    refine Run.opG (wantS_yes' rfl rfl hc36) (ex_fieldAddr rfl off29_7) rfl ?_
    refine Run.opG (wantS_yes' rfl rfl hc36) (ex_load1 rfl (hH.cells (i := 1) rfl 8 rfl) rdLe_rfl agg3) rfl ?_
    refine Run.opG (wantS_yes' rfl rfl hc36) (ex_eql rfl rfl) rfl ?_
    refine Run.opG wantS_none (ex_pickT' rfl hc36 rfl rfl) rfl ?_
    exact Run.pick [58] (ref10_Same_7_ok F (c22_8 == c25_8) _ _ _ (hH.pick [] rfl rfl) h)
  · have h := bif_f hc36 h
    refine Run.no (wantS_not' rfl rfl hc36) rfl ?_
    refine Run.no (wantS_not' rfl rfl hc36) rfl ?_
    refine Run.no (wantS_not' rfl rfl hc36) rfl ?_
    refine Run.no (wantS_not' rfl rfl hc36) rfl ?_
    refine Run.no (wantS_not' rfl rfl hc36) rfl ?_
    refine Run.opG wantS_none (ex_pickF' rfl hc36 rfl rfl) rfl ?_
    exact Run.pick [58] (ref10_Same_7_ok F false _ _ _ (hH.pick [] rfl rfl) h)

def ref10_Same_5 (F : Nat) (v44 : Bool) (c22_0 : (List UInt8)) (c22_1 c22_2 c22_3 c22_4 c22_5 : Int) (c22_6 : (List Int)) (c22_7 : Bool) (c22_8 : Int) (c25_0 : (List UInt8)) (c25_1 c25_2 c25_3 c25_4 c25_5 : Int) (c25_6 : (List Int)) (c25_7 : Bool) (c25_8 : Int) : Option (Bool) :=
  bif v44 then
    ref10_Same_6 F (c22_7 == c25_7) c22_0 c22_1 c22_2 c22_3 c22_4 c22_5 c22_6 c22_7 c22_8 c25_0 c25_1 c25_2 c25_3 c25_4 c25_5 c25_6 c25_7 c25_8
  else
    ref10_Same_6 F false c22_0 c22_1 c22_2 c22_3 c22_4 c22_5 c22_6 c22_7 c22_8 c25_0 c25_1 c25_2 c25_3 c25_4 c25_5 c25_6 c25_7 c25_8

theorem ref10_Same_5_ok (F : Nat) : ∀ (v44 : Bool) (c22_0 : (List UInt8)) (c22_1 c22_2 c22_3 c22_4 c22_5 : Int) (c22_6 : (List Int)) (c22_7 : Bool) (c22_8 : Int) (c25_0 : (List UInt8)) (c25_1 c25_2 c25_3 c25_4 c25_5 : Int) (c25_6 : (List Int)) (c25_7 : Bool) (c25_8 : Int) (sc22_6 sc25_6 : SV) (b22 b25 : Pos) (Fr : Rd) (M : Mem) (r : Bool) (hc22_6 : Slc Fr 1 (FlatR enc3) sc22_6 c22_6) (hc25_6 : Slc Fr 1 (FlatR enc3) sc25_6 c25_6) (hH : Has Fr M [.obj b22 (.row 29 .whole [(.str c22_0), (.int .i64 c22_1), (.int .i64 c22_2), (.int .i64 c22_3), (.int .i64 c22_4), (.int .i64 c22_5), sc22_6, (.bool c22_7), (.int .i64 c22_8)]), .obj b25 (.row 29 .whole [(.str c25_0), (.int .i64 c25_1), (.int .i64 c25_2), (.int .i64 c25_3), (.int .i64 c25_4), (.int .i64 c25_5), sc25_6, (.bool c25_7), (.int .i64 c25_8)])]), ref10_Same_5 F v44 c22_0 c22_1 c22_2 c22_3 c22_4 c22_5 c22_6 c22_7 c22_8 c25_0 c25_1 c25_2 c25_3 c25_4 c25_5 c25_6 c25_7 c25_8 = some r → Run Tryd.prog ⟨⟨62, [], none⟩, []⟩ 59 (ref10_Same_post r) [(2, (.ptr b22 0)), (3, (.ptr b25 0)), (44, (.bool v44))] [itemC Tryd.prog 62 [1, 0] 40, codeC Tryd.prog 62 [1, 1]] M := by
  intro v44 c22_0 c22_1 c22_2 c22_3 c22_4 c22_5 c22_6 c22_7 c22_8 c25_0 c25_1 c25_2 c25_3 c25_4 c25_5 c25_6 c25_7 c25_8 sc22_6 sc25_6 b22 b25 Fr M r hc22_6 hc25_6 hH h
  rw [ref10_Same_5] at h
  refine Run.opG wantS_none (ex_move rfl) rfl ?_
  rcases btf (v44) with hc35 | hc35
  · have h := bif_t hc35 h
    refine Run.opG (wantS_yes' rfl rfl hc35) (ex_fieldAddr rfl off29_6) rfl ?_
    refine Run.opG (wantS_yes' rfl rfl hc35) (ex_load1 rfl (hH.cells (i := 0) rfl 7 rfl) rdLe_rfl agg4) rfl ?_
    refine Run.opG (wantS_yes' rfl rfl hc35) (ex_fieldAddr rfl off29_6) rfl ?_
    refine Run.opG (wantS_yes' rfl rfl hc35) (ex_load1 rfl (hH.cells (i := 1) rfl 7 rfl) rdLe_rfl agg4) rfl ?_
    refine Run.opG (wantS_yes' rfl rfl hc35) (ex_eqlB rfl rfl eqk4) rfl ?_
    refine Run.opG wantS_none (ex_pickT' rfl hc35 rfl rfl) rfl ?_
    exact Run.pick [2, 3, 51] (ref10_Same_6_ok F (c22_7 == c25_7) c22_0 c22_1 c22_2 c22_3 c22_4 c22_5 c22_6 c22_7 c22_8 c25_0 c25_1 c25_2 c25_3 c25_4 c25_5 c25_6 c25_7 c25_8 sc22_6 sc25_6 b22 b25 _ _ _ hc22_6 hc25_6 hH h)
  · have h := bif_f hc35 h
    refine Run.no (wantS_not' rfl rfl hc35) rfl ?_
    refine Run.no (wantS_not' rfl rfl hc35) rfl ?_
    refine Run.no (wantS_not' rfl rfl hc35) rfl ?_
    refine Run.no (wantS_not' rfl rfl hc35) rfl ?_
    refine Run.no (wantS_not' rfl rfl hc35) rfl ?_
    refine Run.opG wantS_none (ex_pickF' rfl hc35 rfl rfl) rfl ?_
    exact Run.pick [2, 3, 51] (ref10_Same_6_ok F false c22_0 c22_1 c22_2 c22_3 c22_4 c22_5 c22_6 c22_7 c22_8 c25_0 c25_1 c25_2 c25_3 c25_4 c25_5 c25_6 c25_7 c25_8 sc22_6 sc25_6 b22 b25 _ _ _ hc22_6 hc25_6 hH h)

def ref10_Same_4 (F : Nat) (v37 : Bool) (c22_0 : (List UInt8)) (c22_1 c22_2 c22_3 c22_4 c22_5 : Int) (c22_6 : (List Int)) (c22_7 : Bool) (c22_8 : Int) (c25_0 : (List UInt8)) (c25_1 c25_2 c25_3 c25_4 c25_5 : Int) (c25_6 : (List Int)) (c25_7 : Bool) (c25_8 : Int) : Option (Bool) :=
  bif v37 then
    bnd (ref00_SameInts F c22_6 c25_6) fun r33 =>
    ref10_Same_5 F r33 c22_0 c22_1 c22_2 c22_3 c22_4 c22_5 c22_6 c22_7 c22_8 c25_0 c25_1 c25_2 c25_3 c25_4 c25_5 c25_6 c25_7 c25_8
  else
    ref10_Same_5 F false c22_0 c22_1 c22_2 c22_3 c22_4 c22_5 c22_6 c22_7 c22_8 c25_0 c25_1 c25_2 c25_3 c25_4 c25_5 c25_6 c25_7 c25_8

theorem ref10_Same_4_ok (F : Nat) : ∀ (v37 : Bool) (c22_0 : (List UInt8)) (c22_1 c22_2 c22_3 c22_4 c22_5 : Int) (c22_6 : (List Int)) (c22_7 : Bool) (c22_8 : Int) (c25_0 : (List UInt8)) (c25_1 c25_2 c25_3 c25_4 c25_5 : Int) (c25_6 : (List Int)) (c25_7 : Bool) (c25_8 : Int) (sc22_6 sc25_6 : SV) (b22 b25 : Pos) (Fr : Rd) (M : Mem) (r : Bool) (hc22_6 : Slc Fr 1 (FlatR enc3) sc22_6 c22_6) (hc25_6 : Slc Fr 1 (FlatR enc3) sc25_6 c25_6) (hH : Has Fr M [.obj b22 (.row 29 .whole [(.str c22_0), (.int .i64 c22_1), (.int .i64 c22_2), (.int .i64 c22_3), (.int .i64 c22_4), (.int .i64 c22_5), sc22_6, (.bool c22_7), (.int .i64 c22_8)]), .obj b25 (.row 29 .whole [(.str c25_0), (.int .i64 c25_1), (.int .i64 c25_2), (.int .i64 c25_3), (.int .i64 c25_4), (.int .i64 c25_5), sc25_6, (.bool c25_7), (.int .i64 c25_8)])]), ref10_Same_4 F v37 c22_0 c22_1 c22_2 c22_3 c22_4 c22_5 c22_6 c22_7 c22_8 c25_0 c25_1 c25_2 c25_3 c25_4 c25_5 c25_6 c25_7 c25_8 = some r → Run Tryd.prog ⟨⟨62, [], none⟩, []⟩ 59 (ref10_Same_post r) [(2, (.ptr b22 0)), (3, (.ptr b25 0)), (37, (.bool v37))] [itemC Tryd.prog 62 [1, 0] 33, codeC Tryd.prog 62 [1, 1]] M := by
  intro v37 c22_0 c22_1 c22_2 c22_3 c22_4 c22_5 c22_6 c22_7 c22_8 c25_0 c25_1 c25_2 c25_3 c25_4 c25_5 c25_6 c25_7 c25_8 sc22_6 sc25_6 b22 b25 Fr M r hc22_6 hc25_6 hH h
  rw [ref10_Same_4] at h
  refine Run.opG wantS_none (ex_move rfl) rfl ?_
  rcases btf (v37) with hc31 | hc31
  · have h := bif_t hc31 h
    refine Run.opG (wantS_yes' rfl rfl hc31) (ex_fieldAddr rfl off29_5) rfl ?_
    refine Run.opG (wantS_yes' rfl rfl hc31) (ex_load1 rfl (hH.cells (i := 0) rfl 6 rfl) rdLe_rfl agg27) rfl ?_
    refine Run.opG (wantS_yes' rfl rfl hc31) (ex_fieldAddr rfl off29_5) rfl ?_
    refine Run.opG (wantS_yes' rfl rfl hc31) (ex_load1 rfl (hH.cells (i := 1) rfl 6 rfl) rdLe_rfl agg27) rfl ?_
    obtain ⟨r33, hr33, h⟩ := bnd_some h
    refine Run.callP (wantS_yes' rfl rfl hc31) (ex_call rfl mkk27 cal27) rfl (ref00_SameInts_ok F c22_6 c25_6 sc22_6 sc25_6 _ _ (hH.slcF hc22_6) (hH.slcF hc25_6) hr33) ?_
    refine Run.opG wantS_none (ex_pickT' rfl hc31 rfl rfl) rfl ?_
    exact Run.pick [2, 3, 44] (ref10_Same_5_ok F r33 c22_0 c22_1 c22_2 c22_3 c22_4 c22_5 c22_6 c22_7 c22_8 c25_0 c25_1 c25_2 c25_3 c25_4 c25_5 c25_6 c25_7 c25_8 sc22_6 sc25_6 b22 b25 _ _ _ hc22_6 hc25_6 hH h)
  · have h := bif_f hc31 h
    refine Run.no (wantS_not' rfl rfl hc31) rfl ?_
    refine Run.no (wantS_not' rfl rfl hc31) rfl ?_
    refine Run.no (wantS_not' rfl rfl hc31) rfl ?_
    refine Run.no (wantS_not' rfl rfl hc31) rfl ?_
    refine Run.no (wantS_not' rfl rfl hc31) rfl ?_
    refine Run.opG wantS_none (ex_pickF' rfl hc31 rfl rfl) rfl ?_
    exact Run.pick [2, 3, 44] (ref10_Same_5_ok F false c22_0 c22_1 c22_2 c22_3 c22_4 c22_5 c22_6 c22_7 c22_8 c25_0 c25_1 c25_2 c25_3 c25_4 c25_5 c25_6 c25_7 c25_8 sc22_6 sc25_6 b22 b25 _ _ _ hc22_6 hc25_6 hH h)

def ref10_Same_3 (F : Nat) (v30 : Bool) (c22_0 : (List UInt8)) (c22_1 c22_2 c22_3 c22_4 c22_5 : Int) (c22_6 : (List Int)) (c22_7 : Bool) (c22_8 : Int) (c25_0 : (List UInt8)) (c25_1 c25_2 c25_3 c25_4 c25_5 : Int) (c25_6 : (List Int)) (c25_7 : Bool) (c25_8 : Int) : Option (Bool) :=
  bif v30 then
    ref10_Same_4 F (c22_5 == c25_5) c22_0 c22_1 c22_2 c22_3 c22_4 c22_5 c22_6 c22_7 c22_8 c25_0 c25_1 c25_2 c25_3 c25_4 c25_5 c25_6 c25_7 c25_8
  else
    ref10_Same_4 F false c22_0 c22_1 c22_2 c22_3 c22_4 c22_5 c22_6 c22_7 c22_8 c25_0 c25_1 c25_2 c25_3 c25_4 c25_5 c25_6 c25_7 c25_8

theorem ref10_Same_3_ok (F : Nat) : ∀ (v30 : Bool) (c22_0 : (List UInt8)) (c22_1 c22_2 c22_3 c22_4 c22_5 : Int) (c22_6 : (List Int)) (c22_7 : Bool) (c22_8 : Int) (c25_0 : (List UInt8)) (c25_1 c25_2 c25_3 c25_4 c25_5 : Int) (c25_6 : (List Int)) (c25_7 : Bool) (c25_8 : Int) (sc22_6 sc25_6 : SV) (b22 b25 : Pos) (Fr : Rd) (M : Mem) (r : Bool) (hc22_6 : Slc Fr 1 (FlatR enc3) sc22_6 c22_6) (hc25_6 : Slc Fr 1 (FlatR enc3) sc25_6 c25_6) (hH : Has Fr M [.obj b22 (.row 29 .whole [(.str c22_0), (.int .i64 c22_1), (.int .i64 c22_2), (.int .i64 c22_3), (.int .i64 c22_4), (.int .i64 c22_5), sc22_6, (.bool c22_7), (.int .i64 c22_8)]), .obj b25 (.row 29 .whole [(.str c25_0), (.int .i64 c25_1), (.int .i64 c25_2), (.int .i64 c25_3), (.int .i64 c25_4), (.int .i64 c25_5), sc25_6, (.bool c25_7), (.int .i64 c25_8)])]), ref10_Same_3 F v30 c22_0 c22_1 c22_2 c22_3 c22_4 c22_5 c22_6 c22_7 c22_8 c25_0 c25_1 c25_2 c25_3 c25_4 c25_5 c25_6 c25_7 c25_8 = some r → Run Tryd.prog ⟨⟨62, [], none⟩, []⟩ 59 (ref10_Same_post r) [(2, (.ptr b22 0)), (3, (.ptr b25 0)), (30, (.bool v30))] [itemC Tryd.prog 62 [1, 0] 26, codeC Tryd.prog 62 [1, 1]] M := by
  intro v30 c22_0 c22_1 c22_2 c22_3 c22_4 c22_5 c22_6 c22_7 c22_8 c25_0 c25_1 c25_2 c25_3 c25_4 c25_5 c25_6 c25_7 c25_8 sc22_6 sc25_6 b22 b25 Fr M r hc22_6 hc25_6 hH h
  rw [ref10_Same_3] at h
  refine Run.opG wantS_none (ex_move rfl) rfl ?_
  rcases btf (v30) with hc30 | hc30
  · have h := bif_t hc30 h
    refine Run.opG (wantS_yes' rfl rfl hc30) (ex_fieldAddr rfl off29_4) rfl ?_
    refine Run.opG (wantS_yes' rfl rfl hc30) (ex_load1 rfl (hH.cells (i := 0) rfl 5 rfl) rdLe_rfl agg3) rfl ?_
    refine Run.opG (wantS_yes' rfl rfl hc30) (ex_fieldAddr rfl off29_4) rfl ?_
    refine Run.opG (wantS_yes' rfl rfl hc30) (ex_load1 rfl (hH.cells (i := 1) rfl 5 rfl) rdLe_rfl agg3) rfl ?_
    refine Run.opG (wantS_yes' rfl rfl hc30) (ex_eql rfl rfl) rfl ?_
    refine Run.opG wantS_none (ex_pickT' rfl hc30 rfl rfl) rfl ?_
    exact Run.pick [2, 3, 37] (ref10_Same_4_ok F (c22_5 == c25_5) c22_0 c22_1 c22_2 c22_3 c22_4 c22_5 c22_6 c22_7 c22_8 c25_0 c25_1 c25_2 c25_3 c25_4 c25_5 c25_6 c25_7 c25_8 sc22_6 sc25_6 b22 b25 _ _ _ hc22_6 hc25_6 hH h)
  · have h := bif_f hc30 h
    refine Run.no (wantS_not' rfl rfl hc30) rfl ?_
    refine Run.no (wantS_not' rfl rfl hc30) rfl ?_
    refine Run.no (wantS_not' rfl rfl hc30) rfl ?_
    refine Run.no (wantS_not' rfl rfl hc30) rfl ?_
    refine Run.no (wantS_not' rfl rfl hc30) rfl ?_
    refine Run.opG wantS_none (ex_pickF' rfl hc30 rfl rfl) rfl ?_
    exact Run.pick [2, 3, 37] (ref10_Same_4_ok F false c22_0 c22_1 c22_2 c22_3 c22_4 c22_5 c22_6 c22_7 c22_8 c25_0 c25_1 c25_2 c25_3 c25_4 c25_5 c25_6 c25_7 c25_8 sc22_6 sc25_6 b22 b25 _ _ _ hc22_6 hc25_6 hH h)

def ref10_Same_2 (F : Nat) (v23 : Bool) (c22_0 : (List UInt8)) (c22_1 c22_2 c22_3 c22_4 c22_5 : Int) (c22_6 : (List Int)) (c22_7 : Bool) (c22_8 : Int) (c25_0 : (List UInt8)) (c25_1 c25_2 c25_3 c25_4 c25_5 : Int) (c25_6 : (List Int)) (c25_7 : Bool) (c25_8 : Int) : Option (Bool) :=
  bif v23 then
    ref10_Same_3 F ((c22_3 == c25_3) && ((c22_4 == c25_4) && true)) c22_0 c22_1 c22_2 c22_3 c22_4 c22_5 c22_6 c22_7 c22_8 c25_0 c25_1 c25_2 c25_3 c25_4 c25_5 c25_6 c25_7 c25_8
  else
    ref10_Same_3 F false c22_0 c22_1 c22_2 c22_3 c22_4 c22_5 c22_6 c22_7 c22_8 c25_0 c25_1 c25_2 c25_3 c25_4 c25_5 c25_6 c25_7 c25_8

theorem ref10_Same_2_ok (F : Nat) : ∀ (v23 : Bool) (c22_0 : (List UInt8)) (c22_1 c22_2 c22_3 c22_4 c22_5 : Int) (c22_6 : (List Int)) (c22_7 : Bool) (c22_8 : Int) (c25_0 : (List UInt8)) (c25_1 c25_2 c25_3 c25_4 c25_5 : Int) (c25_6 : (List Int)) (c25_7 : Bool) (c25_8 : Int) (sc22_6 sc25_6 : SV) (b22 b25 : Pos) (Fr : Rd) (M : Mem) (r : Bool) (hc22_6 : Slc Fr 1 (FlatR enc3) sc22_6 c22_6) (hc25_6 : Slc Fr 1 (FlatR enc3) sc25_6 c25_6) (hH : Has Fr M [.obj b22 (.row 29 .whole [(.str c22_0), (.int .i64 c22_1), (.int .i64 c22_2), (.int .i64 c22_3), (.int .i64 c22_4), (.int .i64 c22_5), sc22_6, (.bool c22_7), (.int .i64 c22_8)]), .obj b25 (.row 29 .whole [(.str c25_0), (.int .i64 c25_1), (.int .i64 c25_2), (.int .i64 c25_3), (.int .i64 c25_4), (.int .i64 c25_5), sc25_6, (.bool c25_7), (.int .i64 c25_8)])]), ref10_Same_2 F v23 c22_0 c22_1 c22_2 c22_3 c22_4 c22_5 c22_6 c22_7 c22_8 c25_0 c25_1 c25_2 c25_3 c25_4 c25_5 c25_6 c25_7 c25_8 = some r → Run Tryd.prog ⟨⟨62, [], none⟩, []⟩ 59 (ref10_Same_post r) [(2, (.ptr b22 0)), (3, (.ptr b25 0)), (23, (.bool v23))] [itemC Tryd.prog 62 [1, 0] 19, codeC Tryd.prog 62 [1, 1]] M := by
  intro v23 c22_0 c22_1 c22_2 c22_3 c22_4 c22_5 c22_6 c22_7 c22_8 c25_0 c25_1 c25_2 c25_3 c25_4 c25_5 c25_6 c25_7 c25_8 sc22_6 sc25_6 b22 b25 Fr M r hc22_6 hc25_6 hH h
  rw [ref10_Same_2] at h
  refine Run.opG wantS_none (ex_move rfl) rfl ?_
  rcases btf (v23) with hc29 | hc29
  · have h := bif_t hc29 h
    refine Run.opG (wantS_yes' rfl rfl hc29) (ex_fieldAddr rfl off29_3) rfl ?_
    refine Run.opG (wantS_yes' rfl rfl hc29) (ex_loadA rfl (hH.cells (i := 0) rfl 3 rfl) rdLe_rfl agg26 rfl rfl rfl) rfl ?_
    refine Run.opG (wantS_yes' rfl rfl hc29) (ex_fieldAddr rfl off29_3) rfl ?_
    refine Run.opG (wantS_yes' rfl rfl hc29) (ex_loadA rfl (hH.cells (i := 1) rfl 3 rfl) rdLe_rfl agg26 rfl rfl rfl) rfl ?_
    refine Run.opG (wantS_yes' rfl rfl hc29) (ex_eqlA rfl rfl aeq26 (eqA_st agk26 (eqFs_cons (by decide) (part_one agg3 rfl) (part_one agg3 rfl) (eqA_int agk3) (eqFs_cons (by decide) (part_one agg3 rfl) (part_one agg3 rfl) (eqA_int agk3) eqFs_nil)))) rfl ?_
    refine Run.opG wantS_none (ex_pickT' rfl hc29 rfl rfl) rfl ?_
    exact Run.pick [2, 3, 30] (ref10_Same_3_ok F ((c22_3 == c25_3) && ((c22_4 == c25_4) && true)) c22_0 c22_1 c22_2 c22_3 c22_4 c22_5 c22_6 c22_7 c22_8 c25_0 c25_1 c25_2 c25_3 c25_4 c25_5 c25_6 c25_7 c25_8 sc22_6 sc25_6 b22 b25 _ _ _ hc22_6 hc25_6 hH h)
  · have h := bif_f hc29 h
    refine Run.no (wantS_not' rfl rfl hc29) rfl ?_
    refine Run.no (wantS_not' rfl rfl hc29) rfl ?_
    refine Run.no (wantS_not' rfl rfl hc29) rfl ?_
    refine Run.no (wantS_not' rfl rfl hc29) rfl ?_
    refine Run.no (wantS_not' rfl rfl hc29) rfl ?_
    refine Run.opG wantS_none (ex_pickF' rfl hc29 rfl rfl) rfl ?_
    exact Run.pick [2, 3, 30] (ref10_Same_3_ok F false c22_0 c22_1 c22_2 c22_3 c22_4 c22_5 c22_6 c22_7 c22_8 c25_0 c25_1 c25_2 c25_3 c25_4 c25_5 c25_6 c25_7 c25_8 sc22_6 sc25_6 b22 b25 _ _ _ hc22_6 hc25_6 hH h)

def ref10_Same_1 (F : Nat) (v16 : Bool) (c22_0 : (List UInt8)) (c22_1 c22_2 c22_3 c22_4 c22_5 : Int) (c22_6 : (List Int)) (c22_7 : Bool) (c22_8 : Int) (c25_0 : (List UInt8)) (c25_1 c25_2 c25_3 c25_4 c25_5 : Int) (c25_6 : (List Int)) (c25_7 : Bool) (c25_8 : Int) : Option (Bool) :=
  bif v16 then
    ref10_Same_2 F (c22_2 == c25_2) c22_0 c22_1 c22_2 c22_3 c22_4 c22_5 c22_6 c22_7 c22_8 c25_0 c25_1 c25_2 c25_3 c25_4 c25_5 c25_6 c25_7 c25_8
  else
    ref10_Same_2 F false c22_0 c22_1 c22_2 c22_3 c22_4 c22_5 c22_6 c22_7 c22_8 c25_0 c25_1 c25_2 c25_3 c25_4 c25_5 c25_6 c25_7 c25_8

theorem ref10_Same_1_ok (F : Nat) : ∀ (v16 : Bool) (c22_0 : (List UInt8)) (c22_1 c22_2 c22_3 c22_4 c22_5 : Int) (c22_6 : (List Int)) (c22_7 : Bool) (c22_8 : Int) (c25_0 : (List UInt8)) (c25_1 c25_2 c25_3 c25_4 c25_5 : Int) (c25_6 : (List Int)) (c25_7 : Bool) (c25_8 : Int) (sc22_6 sc25_6 : SV) (b22 b25 : Pos) (Fr : Rd) (M : Mem) (r : Bool) (hc22_6 : Slc Fr 1 (FlatR enc3) sc22_6 c22_6) (hc25_6 : Slc Fr 1 (FlatR enc3) sc25_6 c25_6) (hH : Has Fr M [.obj b22 (.row 29 .whole [(.str c22_0), (.int .i64 c22_1), (.int .i64 c22_2), (.int .i64 c22_3), (.int .i64 c22_4), (.int .i64 c22_5), sc22_6, (.bool c22_7), (.int .i64 c22_8)]), .obj b25 (.row 29 .whole [(.str c25_0), (.int .i64 c25_1), (.int .i64 c25_2), (.int .i64 c25_3), (.int .i64 c25_4), (.int .i64 c25_5), sc25_6, (.bool c25_7), (.int .i64 c25_8)])]), ref10_Same_1 F v16 c22_0 c22_1 c22_2 c22_3 c22_4 c22_5 c22_6 c22_7 c22_8 c25_0 c25_1 c25_2 c25_3 c25_4 c25_5 c25_6 c25_7 c25_8 = some r → Run Tryd.prog ⟨⟨62, [], none⟩, []⟩ 59 (ref10_Same_post r) [(2, (.ptr b22 0)), (3, (.ptr b25 0)), (16, (.bool v16))] [itemC Tryd.prog 62 [1, 0] 12, codeC Tryd.prog 62 [1, 1]] M := by
  intro v16 c22_0 c22_1 c22_2 c22_3 c22_4 c22_5 c22_6 c22_7 c22_8 c25_0 c25_1 c25_2 c25_3 c25_4 c25_5 c25_6 c25_7 c25_8 sc22_6 sc25_6 b22 b25 Fr M r hc22_6 hc25_6 hH h
  rw [ref10_Same_1] at h
  refine Run.opG wantS_none (ex_move rfl) rfl ?_
  rcases btf (v16) with hc28 | hc28
  · have h := bif_t hc28 h
    refine Run.opG (wantS_yes' rfl rfl hc28) (ex_fieldAddr rfl off29_2) rfl ?_
    refine Run.opG (wantS_yes' rfl rfl hc28) (ex_load1 rfl (hH.cells (i := 0) rfl 2 rfl) rdLe_rfl agg3) rfl ?_
    refine Run.opG (wantS_yes' rfl rfl hc28) (ex_fieldAddr rfl off29_2) rfl ?_
    refine Run.opG (wantS_yes' rfl rfl hc28) (ex_load1 rfl (hH.cells (i := 1) rfl 2 rfl) rdLe_rfl agg3) rfl ?_
    refine Run.opG (wantS_yes' rfl rfl hc28) (ex_eql rfl rfl) rfl ?_
    refine Run.opG wantS_none (ex_pickT' rfl hc28 rfl rfl) rfl ?_
    exact Run.pick [2, 3, 23] (ref10_Same_2_ok F (c22_2 == c25_2) c22_0 c22_1 c22_2 c22_3 c22_4 c22_5 c22_6 c22_7 c22_8 c25_0 c25_1 c25_2 c25_3 c25_4 c25_5 c25_6 c25_7 c25_8 sc22_6 sc25_6 b22 b25 _ _ _ hc22_6 hc25_6 hH h)
  · have h := bif_f hc28 h
    refine Run.no (wantS_not' rfl rfl hc28) rfl ?_
    refine Run.no (wantS_not' rfl rfl hc28) rfl ?_
    refine Run.no (wantS_not' rfl rfl hc28) rfl ?_
    refine Run.no (wantS_not' rfl rfl hc28) rfl ?_
    refine Run.no (wantS_not' rfl rfl hc28) rfl ?_
    refine Run.opG wantS_none (ex_pickF' rfl hc28 rfl rfl) rfl ?_
    exact Run.pick [2, 3, 23] (ref10_Same_2_ok F false c22_0 c22_1 c22_2 c22_3 c22_4 c22_5 c22_6 c22_7 c22_8 c25_0 c25_1 c25_2 c25_3 c25_4 c25_5 c25_6 c25_7 c25_8 sc22_6 sc25_6 b22 b25 _ _ _ hc22_6 hc25_6 hH h)

def ref10_Same (F : Nat) (a0 a1 : S_api_Alert) : Option (Bool) :=
  bif (a0.Event == a1.Event) then
    ref10_Same_1 F (a0.Version == a1.Version) a0.Event a0.Version a0.Time a0.Chance.N a0.Chance.Of a0.Grid a0.Cells a0.Withdrawn a0.Before a1.Event a1.Version a1.Time a1.Chance.N a1.Chance.Of a1.Grid a1.Cells a1.Withdrawn a1.Before
  else
    ref10_Same_1 F false a0.Event a0.Version a0.Time a0.Chance.N a0.Chance.Of a0.Grid a0.Cells a0.Withdrawn a0.Before a1.Event a1.Version a1.Time a1.Chance.N a1.Chance.Of a1.Grid a1.Cells a1.Withdrawn a1.Before

theorem ref10_Same_ok (F : Nat) (a0 a1 : S_api_Alert) (s0 s1 : SV) (r : Bool) (M : Mem) (hs0 : Slc (rd M) 1 (FlatR enc3) s0 a0.Cells) (hs1 : Slc (rd M) 1 (FlatR enc3) s1 a1.Cells) (h : ref10_Same F a0 a1 = some r) : CallsM Tryd.prog 62 [(.agg [(.str a0.Event), (.int .i64 a0.Version), (.int .i64 a0.Time), (.int .i64 a0.Chance.N), (.int .i64 a0.Chance.Of), (.int .i64 a0.Grid), s0, (.bool a0.Withdrawn), (.int .i64 a0.Before)]), (.agg [(.str a1.Event), (.int .i64 a1.Version), (.int .i64 a1.Time), (.int .i64 a1.Chance.N), (.int .i64 a1.Chance.Of), (.int .i64 a1.Grid), s1, (.bool a1.Withdrawn), (.int .i64 a1.Before)])] M (fun s M' => s = (.bool r) ∧ M' = M) := by
  refine CallsM.plain Tryd.func62 rfl rfl rfl (show Run _ _ _ (ref10_Same_post r) _ _ _ from ?_)
  rw [ref10_Same] at h
  replace hs0 := hs0.mono (rdLe_frozen M) (fun _ _ h => h)
  replace hs1 := hs1.mono (rdLe_frozen M) (fun _ _ h => h)
  have hH := Has.nil (frozen M)
  refine Run.seq (Run.region ?_)
  refine Run.opX wantS_none rfl (ExG.box rfl rfl hH) ?_
  rintro _ M23 ⟨b22, rfl, hH23⟩
  refine Run.opX wantS_none rfl (ExG.box rfl rfl hH23) ?_
  rintro _ M26 ⟨b25, rfl, hH26⟩
  refine Run.opG wantS_none (ex_assign rfl) rfl ?_
  refine Run.opsEnd (Run.seq (Run.region ?_))
  refine Run.opG wantS_none (ex_fieldAddr rfl off29_0) rfl ?_
  refine Run.opG wantS_none (ex_load1 rfl (hH26.cells (i := 1) rfl 0 rfl) rdLe_rfl agg9) rfl ?_
  refine Run.opG wantS_none (ex_fieldAddr rfl off29_0) rfl ?_
  refine Run.opG wantS_none (ex_load1 rfl (hH26.cells (i := 0) rfl 0 rfl) rdLe_rfl agg9) rfl ?_
  refine Run.opG wantS_none (ex_eqlS rfl rfl) rfl ?_
  refine Run.opG wantS_none (ex_move rfl) rfl ?_
  rcases btf ((a0.Event == a1.Event)) with hc27 | hc27
  · have h := bif_t hc27 h
    refine Run.opG (wantS_yes' rfl rfl hc27) (ex_fieldAddr rfl off29_1) rfl ?_
    refine Run.opG (wantS_yes' rfl rfl hc27) (ex_load1 rfl (hH26.cells (i := 1) rfl 1 rfl) rdLe_rfl agg3) rfl ?_
    refine Run.opG (wantS_yes' rfl rfl hc27) (ex_fieldAddr rfl off29_1) rfl ?_
    refine Run.opG (wantS_yes' rfl rfl hc27) (ex_load1 rfl (hH26.cells (i := 0) rfl 1 rfl) rdLe_rfl agg3) rfl ?_
    refine Run.opG (wantS_yes' rfl rfl hc27) (ex_eql rfl rfl) rfl ?_
    refine Run.opG wantS_none (ex_pickT' rfl hc27 rfl rfl) rfl ?_
    exact Run.pick [2, 3, 16] (ref10_Same_1_ok F (a0.Version == a1.Version) a0.Event a0.Version a0.Time a0.Chance.N a0.Chance.Of a0.Grid a0.Cells a0.Withdrawn a0.Before a1.Event a1.Version a1.Time a1.Chance.N a1.Chance.Of a1.Grid a1.Cells a1.Withdrawn a1.Before s0 s1 b22 b25 _ _ _ hs0 hs1 (hH26.pick [1, 0] rfl rfl) h)
  · have h := bif_f hc27 h
    refine Run.no (wantS_not' rfl rfl hc27) rfl ?_
    refine Run.no (wantS_not' rfl rfl hc27) rfl ?_
    refine Run.no (wantS_not' rfl rfl hc27) rfl ?_
    refine Run.no (wantS_not' rfl rfl hc27) rfl ?_
    refine Run.no (wantS_not' rfl rfl hc27) rfl ?_
    refine Run.opG wantS_none (ex_pickF' rfl hc27 rfl rfl) rfl ?_
    exact Run.pick [2, 3, 16] (ref10_Same_1_ok F false a0.Event a0.Version a0.Time a0.Chance.N a0.Chance.Of a0.Grid a0.Cells a0.Withdrawn a0.Before a1.Event a1.Version a1.Time a1.Chance.N a1.Chance.Of a1.Grid a1.Cells a1.Withdrawn a1.Before s0 s1 b22 b25 _ _ _ hs0 hs1 (hH26.pick [1, 0] rfl rfl) h)

theorem mkk62 : makeK Tryd.prog 62 = none := by kernel_rfl
theorem cal62 : callable Tryd.prog 62 = true := by kernel_rfl
abbrev law10_same_post (r : Bool) : SV → Mem → Prop := fun s _ => s = (.bool r)

def law10_same (F : Nat) (a0 a1 : S_api_Alert) : Option (Bool) :=
  bnd (ref10_Same F a0 a1) fun r28 =>
  some r28

theorem law10_same_ok (F : Nat) (a0 a1 : S_api_Alert) (s0 s1 : SV) (r : Bool) (M : Mem) (hs0 : Slc (rd M) 1 (FlatR enc3) s0 a0.Cells) (hs1 : Slc (rd M) 1 (FlatR enc3) s1 a1.Cells) (h : law10_same F a0 a1 = some r) : CallsM Tryd.prog 21 [(.agg [(.str a0.Event), (.int .i64 a0.Version), (.int .i64 a0.Time), (.int .i64 a0.Chance.N), (.int .i64 a0.Chance.Of), (.int .i64 a0.Grid), s0, (.bool a0.Withdrawn), (.int .i64 a0.Before)]), (.agg [(.str a1.Event), (.int .i64 a1.Version), (.int .i64 a1.Time), (.int .i64 a1.Chance.N), (.int .i64 a1.Chance.Of), (.int .i64 a1.Grid), s1, (.bool a1.Withdrawn), (.int .i64 a1.Before)])] M (fun s M' => s = (.bool r) ∧ M' = M) := by
  refine CallsM.plain Tryd.func21 rfl rfl rfl (show Run _ _ _ (law10_same_post r) _ _ _ from ?_)
  rw [law10_same] at h
  replace hs0 := hs0.mono (rdLe_frozen M) (fun _ _ h => h)
  replace hs1 := hs1.mono (rdLe_frozen M) (fun _ _ h => h)
  have hH := Has.nil (frozen M)
  refine Run.seq (Run.region ?_)
  refine Run.opX wantS_none rfl (ExG.box rfl rfl hH) ?_
  rintro _ M23 ⟨b22, rfl, hH23⟩
  refine Run.opX wantS_none rfl (ExG.box rfl rfl hH23) ?_
  rintro _ M26 ⟨b25, rfl, hH26⟩
  refine Run.opG wantS_none (ex_assign rfl) rfl ?_
  refine Run.opsEnd (Run.seq (Run.region ?_))
  refine Run.opG wantS_none (ex_loadA rfl (hH26.cells (i := 1) rfl 0 rfl) rdLe_rfl agg29 rfl rfl rfl) rfl ?_
  refine Run.opG wantS_none (ex_loadA rfl (hH26.cells (i := 0) rfl 0 rfl) rdLe_rfl agg29 rfl rfl rfl) rfl ?_
  obtain ⟨r28, hr28, h⟩ := bnd_some h
  refine Run.callP wantS_none (ex_call rfl mkk62 cal62) rfl (ref10_Same_ok F a0 a1 s0 s1 _ _ (hH26.slcF hs0) (hH26.slcF hs1) hr28) ?_
  refine Run.opG wantS_none (ex_assign rfl) rfl ?_
  refine Run.opsEnd ?_
  cases h
  exact Run.ret Tryd.func21 rfl (res_tmp rfl res_nil) rfl

theorem mkk21 : makeK Tryd.prog 21 = none := by kernel_rfl
theorem cal21 : callable Tryd.prog 21 = true := by kernel_rfl
theorem plan7_1_1_1_0_1_0_0_1_0_0_1_1_1_1_1_1_1_1_0 : planOf Tryd.prog (opsC (atC Tryd.prog 7 [1, 1, 1, 0, 1, 0, 0, 1, 0, 0, 1, 1, 1, 1, 1, 1, 1, 1, 0])) = some [.fl 0, .fl 1, .fl 2, .fl 3, .fl 4, .fl 5, .fl 6, .fl 7, .fl 8, .fl 9, .fl 10, .fl 11, .fl 12, .fl 13, .fl 14, .fl 15, .fl 16, .fl 17, .fl 18, .fl 19, .fl 20, .fl 21, .fl 22, .fl 23, .fl 24, .fl 25, .fl 26, .an 27 [], .fl 28, .fl 29, .fl 30, .fl 31, .fl 32, .fl 33, .fl 34, .fl 35, .fl 36, .fl 37, .fl 38, .sync] := by kernel_rfl
theorem slk70 : slK Tryd.prog 70 = some (.sl 9) := by kernel_rfl
theorem plan32_1_1_0_1_0_0_1_0_0_0 : planOf Tryd.prog (opsC (atC Tryd.prog 32 [1, 1, 0, 1, 0, 0, 1, 0, 0, 0])) = some [.fl 0, .fl 1, .fl 2, .fl 3, .fl 4, .fl 5, .fl 6, .fl 7, .an 8 [], .fl 9, .sync] := by kernel_rfl
abbrev law10_sameAlerts_post (r : Bool) : SV → Mem → Prop := fun s _ => s = (.bool r)

def law10_sameAlerts_1 (F : Nat) : Nat → (List S_api_Alert) → (List S_api_Alert) → Int → Option (Bool)
  | 0, _, _, _ => none
  | N + 1, v0, v1, v5 =>
    bif (decide (v5 < (v0.length : Int))) then
      bnd (idx v0 v5) fun x23 =>
      bnd (idx v1 v5) fun x24 =>
      bnd (law10_same F x23 x24) fun r25 =>
      bif (!r25) then
        some false
      else
        (law10_sameAlerts_1 F N) v0 v1 (w64 (v5 + (1 : Int)))
    else
      some true

theorem law10_sameAlerts_1_ok (F : Nat) : ∀ (N : Nat), ∀ (v0 v1 : (List S_api_Alert)) (v5 : Int) (sv0 sv1 : SV) (Fr : Rd) (M : Mem) (r : Bool) (hv0 : Slc Fr 9 (rep29 Fr) sv0 v0) (hv1 : Slc Fr 9 (rep29 Fr) sv1 v1) (hH : Has Fr M []), law10_sameAlerts_1 F N v0 v1 v5 = some r → Run Tryd.prog ⟨⟨32, [], none⟩, []⟩ 27 (law10_sameAlerts_post r) [(0, sv0), (1, sv1), (5, (.int .i64 v5))] [codeC Tryd.prog 32 [1, 1, 0, 1, 0, 0], loopC Tryd.prog 32 [1, 1, 0, 1, 0, 0], .inBlock 0, codeC Tryd.prog 32 [1, 1, 1]] M := by
  intro N
  induction N with
  | zero =>
    intro v0 v1 v5 sv0 sv1 Fr M r hv0 hv1 hH h
    simp [law10_sameAlerts_1] at h
  | succ N ih =>
    intro v0 v1 v5 sv0 sv1 Fr M r hv0 hv1 hH h
    rw [law10_sameAlerts_1] at h
    refine Run.seq (Run.seq (Run.region ?_))
    refine Run.opG wantS_none (ex_move rfl) rfl ?_
    refine Run.opG wantS_none (ex_move rfl) rfl ?_
    refine Run.opG wantS_none (ex_len' rfl hv0 lenk70) rfl ?_
    refine Run.opG wantS_none (ex_lss rfl rfl) rfl ?_
    refine Run.opsEnd ?_
    rcases btf ((decide (v5 < (v0.length : Int)))) with hc22 | hc22
    · have h := bif_t hc22 h
      refine Run.condT' rfl hc22 ?_
      refine Run.skip (Run.seq (Run.block (Run.seq ?_)))
      refine Run.drawG plan32_1_1_0_1_0_0_1_0_0_0 ?_
      refine DrawG.fl rfl (ev_ex wantS_none (ex_move rfl)) rfl ?_
      refine DrawG.fl rfl (ev_ex wantS_none (ex_move rfl)) rfl ?_
      obtain ⟨x23, hx23, h⟩ := bnd_some h
      obtain ⟨p23, o23, _, hx23, hp23, ⟨q23_0, rfl, hq23_0⟩⟩ := sl_elem (P := Tryd.prog) (t := 70) (kk := .i64) hv0 hx23 els70
      refine DrawG.fl rfl (ev_ex wantS_none (ex_elX rfl rfl hx23)) rfl ?_
      refine DrawG.fl rfl (ev_ex wantS_none (ex_loadA rfl (hH.ptrF hp23) rdLe_rfl agg29 rfl rfl rfl)) rfl ?_
      refine DrawG.fl rfl (ev_ex wantS_none (ex_move rfl)) rfl ?_
      refine DrawG.fl rfl (ev_ex wantS_none (ex_move rfl)) rfl ?_
      obtain ⟨x24, hx24, h⟩ := bnd_some h
      obtain ⟨p24, o24, _, hx24, hp24, ⟨q24_0, rfl, hq24_0⟩⟩ := sl_elem (P := Tryd.prog) (t := 70) (kk := .i64) hv1 hx24 els70
      refine DrawG.fl rfl (ev_ex wantS_none (ex_elX rfl rfl hx24)) rfl ?_
      refine DrawG.fl rfl (ev_ex wantS_none (ex_loadA rfl (hH.ptrF hp24) rdLe_rfl agg29 rfl rfl rfl)) rfl ?_
      obtain ⟨r25, hr25, h⟩ := bnd_some h
      refine DrawG.callP rfl wantS_none (ex_call rfl mkk21 cal21) rfl (law10_same_ok F x23 x24 q23_0 q24_0 _ _ (hH.slcF hq23_0) (hH.slcF hq24_0) hr25) st_nil ?_
      refine DrawG.fl rfl (ev_ex wantS_none (ex_not rfl)) rfl ?_
      refine DrawG.sync ?_
      refine DrawG.nil ?_
      rcases btf ((!r25)) with hc27 | hc27
      · have h := bif_t hc27 h
        refine Run.condT' rfl hc27 ?_
        refine Run.seq (Run.region ?_)
        refine Run.opG wantS_none (ex_assign rfl) rfl ?_
        refine Run.opsEnd ?_
        cases h
        exact Run.ret Tryd.func32 rfl (res_tmp rfl res_nil) rfl
      · have h := bif_f hc27 h
        refine Run.condF' rfl hc27 ?_
        refine Run.skip (Run.inBlock (Run.region ?_))
        refine Run.opG wantS_none (ex_move rfl) rfl ?_
        refine Run.opG wantS_none (ex_add rfl rfl) rfl ?_
        refine Run.opG wantS_none (ex_assign rfl) rfl ?_
        refine Run.opsEnd (Run.inLoop ?_)
        exact Run.pick [0, 1, 5] (ih v0 v1 (w64 (v5 + (1 : Int))) sv0 sv1 _ _ _ hv0 hv1 hH h)
    · have h := bif_f hc22 h
      refine Run.condF' rfl hc22 ?_
      refine Run.exit rfl (Run.seq (Run.region ?_))
      refine Run.opG wantS_none (ex_assign rfl) rfl ?_
      refine Run.opsEnd ?_
      cases h
      exact Run.ret Tryd.func32 rfl (res_tmp rfl res_nil) rfl

def law10_sameAlerts (F : Nat) (a0 a1 : (List S_api_Alert)) : Option (Bool) :=
  bif (!((a0.length : Int) == (a1.length : Int))) then
    some false
  else
    law10_sameAlerts_1 F F a0 a1 (0 : Int)

theorem law10_sameAlerts_ok (F : Nat) (a0 a1 : (List S_api_Alert)) (s0 s1 : SV) (r : Bool) (M : Mem) (hs0 : Slc (rd M) 9 (rep29 (rd M)) s0 a0) (hs1 : Slc (rd M) 9 (rep29 (rd M)) s1 a1) (h : law10_sameAlerts F a0 a1 = some r) : CallsM Tryd.prog 32 [s0, s1] M (fun s M' => s = (.bool r) ∧ M' = M) := by
  refine CallsM.plain Tryd.func32 rfl rfl rfl (show Run _ _ _ (law10_sameAlerts_post r) _ _ _ from ?_)
  rw [law10_sameAlerts] at h
  replace hs0 := hs0.mono (rdLe_frozen M) (fun _ _ => rep29_mo (rdLe_frozen M))
  replace hs1 := hs1.mono (rdLe_frozen M) (fun _ _ => rep29_mo (rdLe_frozen M))
  have hH := Has.nil (frozen M)
  refine Run.seq (Run.region ?_)
  refine Run.opG wantS_none (ex_assign rfl) rfl ?_
  refine Run.opsEnd (Run.seq (Run.seq (Run.region ?_)))
  refine Run.opG wantS_none (ex_move rfl) rfl ?_
  refine Run.opG wantS_none (ex_len' rfl hs0 lenk70) rfl ?_
  refine Run.opG wantS_none (ex_move rfl) rfl ?_
  refine Run.opG wantS_none (ex_len' rfl hs1 lenk70) rfl ?_
  refine Run.opG wantS_none (ex_neq rfl rfl) rfl ?_
  refine Run.opsEnd ?_
  rcases btf ((!((a0.length : Int) == (a1.length : Int)))) with hc21 | hc21
  · have h := bif_t hc21 h
    refine Run.condT' rfl hc21 ?_
    refine Run.seq (Run.region ?_)
    refine Run.opG wantS_none (ex_assign rfl) rfl ?_
    refine Run.opsEnd ?_
    cases h
    exact Run.ret Tryd.func32 rfl (res_tmp rfl res_nil) rfl
  · have h := bif_f hc21 h
    refine Run.condF' rfl hc21 ?_
    refine Run.skip (Run.seq (Run.seq (Run.region ?_)))
    refine Run.opG wantS_none (ex_assign rfl) rfl ?_
    refine Run.opsEnd (Run.block (Run.loop ?_))
    exact Run.pick [0, 1, 5] (law10_sameAlerts_1_ok F F a0 a1 (0 : Int) s0 s1 _ _ _ hs0 hs1 hH h)

theorem mkk32 : makeK Tryd.prog 32 = none := by kernel_rfl
theorem cal32 : callable Tryd.prog 32 = true := by kernel_rfl
abbrev alert_copyOfNotice_h2_post (e_v0_0 : (List UInt8)) (e_v0_1 e_v0_2 e_v0_3 e_v0_4 e_v0_5 : Int) (e_v0_6 : (List Int)) (e_v0_7 : Bool) (e_v0_8 : Int) (e_v0_9 : (List S_api_Signature)) (se_v0_6 se_v0_9 : SV) (Fr0 : Rd) (Hr : List Ent) (r : (List UInt8) × Int × Int × Int × Int × Int × (List Int) × Bool × Int × (List S_api_Signature)) : SV → Mem → Prop := fun s Me => ∃ q1, ∃ q2, s = (.agg [(.str r.1), (.int .i64 r.2.1), (.int .i64 r.2.2.1), (.int .i64 r.2.2.2.1), (.int .i64 r.2.2.2.2.1), (.int .i64 r.2.2.2.2.2.1), q1, (.bool r.2.2.2.2.2.2.2.1), (.int .i64 r.2.2.2.2.2.2.2.2.1), q2]) ∧ ∃ F9 : Rd, RdLe Fr0 F9 ∧ Slc F9 1 (FlatR enc3) q1 r.2.2.2.2.2.2.1 ∧ Slc F9 2 (FlatR enc111) q2 r.2.2.2.2.2.2.2.2.2 ∧ Has F9 Me (([tb0, tb1, tb2] : List Ent) ++ Hr)

def alert_copyOfNotice_h2 (F : Nat) (e_v0_0 : (List UInt8)) (e_v0_1 e_v0_2 e_v0_3 e_v0_4 e_v0_5 : Int) (e_v0_6 : (List Int)) (e_v0_7 : Bool) (e_v0_8 : Int) (e_v0_9 : (List S_api_Signature)) : Option ((List UInt8) × Int × Int × Int × Int × Int × (List Int) × Bool × Int × (List S_api_Signature)) :=
  bnd (alert_copyOfAlert F (S_api_Alert.mk e_v0_0 e_v0_1 e_v0_2 (S_api_Chance.mk e_v0_3 e_v0_4) e_v0_5 e_v0_6 e_v0_7 e_v0_8)) fun r131 =>
  bnd (slices_Clone_84 F e_v0_9) fun r134 =>
  some (r131.Event, r131.Version, r131.Time, r131.Chance.N, r131.Chance.Of, r131.Grid, r131.Cells, r131.Withdrawn, r131.Before, r134)

theorem alert_copyOfNotice_h2_ok (F : Nat) : ∀ (e_v0_0 : (List UInt8)) (e_v0_1 e_v0_2 e_v0_3 e_v0_4 e_v0_5 : Int) (e_v0_6 : (List Int)) (e_v0_7 : Bool) (e_v0_8 : Int) (e_v0_9 : (List S_api_Signature)) (se_v0_6 se_v0_9 : SV) (Fr0 : Rd) (Hr : List Ent) (M : Mem) (r : (List UInt8) × Int × Int × Int × Int × Int × (List Int) × Bool × Int × (List S_api_Signature)) (he_v0_6 : Slc Fr0 1 (FlatR enc3) se_v0_6 e_v0_6) (he_v0_9 : Slc Fr0 2 (FlatR enc111) se_v0_9 e_v0_9) (hH : Has Fr0 M (([tb0, tb1, tb2] : List Ent) ++ Hr)) (h : alert_copyOfNotice_h2 F e_v0_0 e_v0_1 e_v0_2 e_v0_3 e_v0_4 e_v0_5 e_v0_6 e_v0_7 e_v0_8 e_v0_9 = some r), CallsM Tryd.prog 68 [(.agg [(.str e_v0_0), (.int .i64 e_v0_1), (.int .i64 e_v0_2), (.int .i64 e_v0_3), (.int .i64 e_v0_4), (.int .i64 e_v0_5), se_v0_6, (.bool e_v0_7), (.int .i64 e_v0_8), se_v0_9])] M (alert_copyOfNotice_h2_post e_v0_0 e_v0_1 e_v0_2 e_v0_3 e_v0_4 e_v0_5 e_v0_6 e_v0_7 e_v0_8 e_v0_9 se_v0_6 se_v0_9 Fr0 Hr r) := by
  intro e_v0_0 e_v0_1 e_v0_2 e_v0_3 e_v0_4 e_v0_5 e_v0_6 e_v0_7 e_v0_8 e_v0_9 se_v0_6 se_v0_9 Fr0 Hr M r he_v0_6 he_v0_9 hH h
  refine CallsM.run Tryd.func68 rfl rfl (show Run _ _ _ (alert_copyOfNotice_h2_post e_v0_0 e_v0_1 e_v0_2 e_v0_3 e_v0_4 e_v0_5 e_v0_6 e_v0_7 e_v0_8 e_v0_9 se_v0_6 se_v0_9 Fr0 Hr r) _ _ _ from ?_)
  rw [alert_copyOfNotice_h2] at h
  refine Run.seq (Run.region ?_)
  refine Run.opX wantS_none rfl (ExG.box rfl rfl hH) ?_
  rintro _ M127 ⟨b126, rfl, (hH127 : Has Fr0 M127 (([.obj b126 (.row 46 .whole [(.str e_v0_0), (.int .i64 e_v0_1), (.int .i64 e_v0_2), (.int .i64 e_v0_3), (.int .i64 e_v0_4), (.int .i64 e_v0_5), se_v0_6, (.bool e_v0_7), (.int .i64 e_v0_8), se_v0_9]), tb0, tb1, tb2] : List Ent) ++ Hr))⟩
  refine Run.opX wantS_none rfl (ExG.new (v := fun b => .ptr b 0) (ex_alloc zer46) hH127) ?_
  rintro _ M130 ⟨b129, rfl, (hH130 : Has Fr0 M130 (([.obj b129 (.row 46 .whole [(.str []), (.int .i64 0), (.int .i64 0), (.int .i64 0), (.int .i64 0), (.int .i64 0), .nils, (.bool false), (.int .i64 0), .nils]), .obj b126 (.row 46 .whole [(.str e_v0_0), (.int .i64 e_v0_1), (.int .i64 e_v0_2), (.int .i64 e_v0_3), (.int .i64 e_v0_4), (.int .i64 e_v0_5), se_v0_6, (.bool e_v0_7), (.int .i64 e_v0_8), se_v0_9]), tb0, tb1, tb2] : List Ent) ++ Hr))⟩
  refine Run.opsEnd (Run.seq ?_)
  refine Run.drawG plan68_1_0 ?_
  refine DrawG.fl rfl (ev_ex wantS_none (ex_fieldAddr rfl off46_0)) rfl ?_
  refine DrawG.fl rfl (ev_ex wantS_none (ex_loadA rfl (hH130.cells (i := 1) rfl 0 rfl) rdLe_rfl agg29 rfl rfl rfl)) rfl ?_
  refine DrawG.fl rfl (ev_ex wantS_none (ex_fieldAddr rfl off46_1)) rfl ?_
  refine DrawG.fl rfl (ev_ex wantS_none (ex_load1 rfl (hH130.cells (i := 1) rfl 9 rfl) rdLe_rfl agg44)) rfl ?_
  obtain ⟨r131, hr131, h⟩ := bnd_some h
  refine DrawG.call rfl wantS_none (ex_call rfl mkk81 cal81) rfl (alert_copyOfAlert_ok F (S_api_Alert.mk e_v0_0 e_v0_1 e_v0_2 (S_api_Chance.mk e_v0_3 e_v0_4) e_v0_5 e_v0_6 e_v0_7 e_v0_8) se_v0_6 _ _ (hH130.slcF he_v0_6) hr131) ?_
  rintro _ M133 ⟨s131_0, rfl, hN131⟩
  have hH133 : Has Fr0 M133 (([.vec 3 1 r131.Cells.length s131_0 (r131.Cells.flatMap enc3), .obj b129 (.row 46 .whole [(.str []), (.int .i64 0), (.int .i64 0), (.int .i64 0), (.int .i64 0), (.int .i64 0), .nils, (.bool false), (.int .i64 0), .nils]), .obj b126 (.row 46 .whole [(.str e_v0_0), (.int .i64 e_v0_1), (.int .i64 e_v0_2), (.int .i64 e_v0_3), (.int .i64 e_v0_4), (.int .i64 e_v0_5), se_v0_6, (.bool e_v0_7), (.int .i64 e_v0_8), se_v0_9]), tb0, tb1, tb2] : List Ent) ++ Hr) := hN131.1 _ _ hH130
  refine ⟨(st_cons rfl (ev_ex wantS_none (ex_load1 rfl (hH133.cells (i := 2) rfl 9 rfl) rdLe_rfl agg44)) rfl rfl (slc_self he_v0_9) (st_cons rfl (ev_ex wantS_none (ex_fieldAddr rfl off46_1)) rfl rfl rfl st_nil)), ?_⟩
  refine DrawG.fl rfl (ev_ex wantS_none (ex_fieldAddr rfl off46_0)) rfl ?_
  obtain ⟨r134, hr134, h⟩ := bnd_some h
  refine DrawG.call rfl wantS_none (ex_call rfl mkk84 cal84) rfl (slices_Clone_84_ok F e_v0_9 se_v0_9 _ _ (hH133.slcF he_v0_9) hr134) ?_
  rintro s134_0 M136 ⟨_, rfl, hN134⟩
  have hH136 : Has Fr0 M136 (([.vec 111 2 r134.length s134_0 (r134.flatMap enc111), .vec 3 1 r131.Cells.length s131_0 (r131.Cells.flatMap enc3), .obj b129 (.row 46 .whole [(.str []), (.int .i64 0), (.int .i64 0), (.int .i64 0), (.int .i64 0), (.int .i64 0), .nils, (.bool false), (.int .i64 0), .nils]), .obj b126 (.row 46 .whole [(.str e_v0_0), (.int .i64 e_v0_1), (.int .i64 e_v0_2), (.int .i64 e_v0_3), (.int .i64 e_v0_4), (.int .i64 e_v0_5), se_v0_6, (.bool e_v0_7), (.int .i64 e_v0_8), se_v0_9]), tb0, tb1, tb2] : List Ent) ++ Hr) := hN134.1 _ _ hH133
  refine ⟨(st_cons rfl (ev_ex wantS_none (ex_fieldAddr rfl off46_0)) rfl rfl rfl st_nil), ?_⟩
  refine DrawG.opX rfl wantS_none rfl (ExG.storeC (c' := [(.str r131.Event), (.int .i64 r131.Version), (.int .i64 r131.Time), (.int .i64 r131.Chance.N), (.int .i64 r131.Chance.Of), (.int .i64 r131.Grid), s131_0, (.bool r131.Withdrawn), (.int .i64 r131.Before), se_v0_9]) rfl rfl rfl hH136 (i := 3) rfl sz29 rfl rfl rfl (ones_cons rfl (ones_cons rfl (ones_cons rfl (ones_cons rfl (ones_cons rfl (ones_cons rfl (ones_cons (vec_one hH136 (i := 1) rfl) (ones_cons rfl (ones_cons rfl ones_nil))))))))) rfl) ?_
  rintro _ M137 ⟨rfl, (hH137 : Has Fr0 M137 (([.vec 111 2 r134.length s134_0 (r134.flatMap enc111), .vec 3 1 r131.Cells.length s131_0 (r131.Cells.flatMap enc3), .obj b129 (.row 46 .whole [(.str []), (.int .i64 0), (.int .i64 0), (.int .i64 0), (.int .i64 0), (.int .i64 0), .nils, (.bool false), (.int .i64 0), .nils]), .obj b126 (.row 46 .whole [(.str r131.Event), (.int .i64 r131.Version), (.int .i64 r131.Time), (.int .i64 r131.Chance.N), (.int .i64 r131.Chance.Of), (.int .i64 r131.Grid), s131_0, (.bool r131.Withdrawn), (.int .i64 r131.Before), se_v0_9]), tb0, tb1, tb2] : List Ent) ++ Hr))⟩
  refine ⟨st_nil, ?_⟩
  refine DrawG.fl rfl (ev_ex wantS_none (ex_fieldAddr rfl off46_1)) rfl ?_
  refine DrawG.opX rfl wantS_none rfl (ExG.storeC (c' := [(.str r131.Event), (.int .i64 r131.Version), (.int .i64 r131.Time), (.int .i64 r131.Chance.N), (.int .i64 r131.Chance.Of), (.int .i64 r131.Grid), s131_0, (.bool r131.Withdrawn), (.int .i64 r131.Before), s134_0]) rfl rfl (cells_one (vec_one hH137 (i := 0) rfl)) hH137 (i := 3) rfl sz44 rfl rfl rfl (ones_cons (vec_one hH137 (i := 0) rfl) ones_nil) rfl) ?_
  rintro _ M138 ⟨rfl, (hH138 : Has Fr0 M138 (([.vec 111 2 r134.length s134_0 (r134.flatMap enc111), .vec 3 1 r131.Cells.length s131_0 (r131.Cells.flatMap enc3), .obj b129 (.row 46 .whole [(.str []), (.int .i64 0), (.int .i64 0), (.int .i64 0), (.int .i64 0), (.int .i64 0), .nils, (.bool false), (.int .i64 0), .nils]), .obj b126 (.row 46 .whole [(.str r131.Event), (.int .i64 r131.Version), (.int .i64 r131.Time), (.int .i64 r131.Chance.N), (.int .i64 r131.Chance.Of), (.int .i64 r131.Grid), s131_0, (.bool r131.Withdrawn), (.int .i64 r131.Before), s134_0]), tb0, tb1, tb2] : List Ent) ++ Hr))⟩
  refine ⟨st_nil, ?_⟩
  refine DrawG.sync ?_
  refine DrawG.nil ?_
  refine Run.seq (Run.region ?_)
  refine Run.opG wantS_none (ex_loadA rfl (hH138.cells (i := 3) rfl 0 rfl) rdLe_rfl agg46 rfl rfl rfl) rfl ?_
  refine Run.opX wantS_none rfl (ExG.storeC (c' := [(.str r131.Event), (.int .i64 r131.Version), (.int .i64 r131.Time), (.int .i64 r131.Chance.N), (.int .i64 r131.Chance.Of), (.int .i64 r131.Grid), s131_0, (.bool r131.Withdrawn), (.int .i64 r131.Before), s134_0]) rfl rfl rfl hH138 (i := 2) rfl sz46 rfl rfl rfl (ones_cons rfl (ones_cons rfl (ones_cons rfl (ones_cons rfl (ones_cons rfl (ones_cons rfl (ones_cons (vec_one hH138 (i := 1) rfl) (ones_cons rfl (ones_cons rfl (ones_cons (vec_one hH138 (i := 0) rfl) ones_nil)))))))))) rfl) ?_
  rintro _ M139 ⟨rfl, (hH139 : Has Fr0 M139 (([.vec 111 2 r134.length s134_0 (r134.flatMap enc111), .vec 3 1 r131.Cells.length s131_0 (r131.Cells.flatMap enc3), .obj b129 (.row 46 .whole [(.str r131.Event), (.int .i64 r131.Version), (.int .i64 r131.Time), (.int .i64 r131.Chance.N), (.int .i64 r131.Chance.Of), (.int .i64 r131.Grid), s131_0, (.bool r131.Withdrawn), (.int .i64 r131.Before), s134_0]), .obj b126 (.row 46 .whole [(.str r131.Event), (.int .i64 r131.Version), (.int .i64 r131.Time), (.int .i64 r131.Chance.N), (.int .i64 r131.Chance.Of), (.int .i64 r131.Grid), s131_0, (.bool r131.Withdrawn), (.int .i64 r131.Before), s134_0]), tb0, tb1, tb2] : List Ent) ++ Hr))⟩
  refine Run.opsEnd ?_
  refine Run.freezeC (t := 2) (i := 1) (io := 2) (j := 6) (enc := enc3) rfl hH139 rfl rfl rfl enc3_len ?_
  intro F140 M140 hle140 (hH140 : Has F140 M140 (([.vec 111 2 r134.length s134_0 (r134.flatMap enc111), .vec 0 0 0 .nils [], .obj b129 (.row 46 .whole [(.str r131.Event), (.int .i64 r131.Version), (.int .i64 r131.Time), (.int .i64 r131.Chance.N), (.int .i64 r131.Chance.Of), (.int .i64 r131.Grid), s131_0, (.bool r131.Withdrawn), (.int .i64 r131.Before), s134_0]), .obj b126 (.row 46 .whole [(.str r131.Event), (.int .i64 r131.Version), (.int .i64 r131.Time), (.int .i64 r131.Chance.N), (.int .i64 r131.Chance.Of), (.int .i64 r131.Grid), s131_0, (.bool r131.Withdrawn), (.int .i64 r131.Before), s134_0]), tb0, tb1, tb2] : List Ent) ++ Hr)) hf140
  refine Run.freezeC (t := 2) (i := 0) (io := 2) (j := 9) (enc := enc111) rfl hH140 rfl rfl rfl enc111_len ?_
  intro F142 M142 hle142 (hH142 : Has F142 M142 (([.vec 0 0 0 .nils [], .vec 0 0 0 .nils [], .obj b129 (.row 46 .whole [(.str r131.Event), (.int .i64 r131.Version), (.int .i64 r131.Time), (.int .i64 r131.Chance.N), (.int .i64 r131.Chance.Of), (.int .i64 r131.Grid), s131_0, (.bool r131.Withdrawn), (.int .i64 r131.Before), s134_0]), .obj b126 (.row 46 .whole [(.str r131.Event), (.int .i64 r131.Version), (.int .i64 r131.Time), (.int .i64 r131.Chance.N), (.int .i64 r131.Chance.Of), (.int .i64 r131.Grid), s131_0, (.bool r131.Withdrawn), (.int .i64 r131.Before), s134_0]), tb0, tb1, tb2] : List Ent) ++ Hr)) hf142
  replace hf140 := hf140.mono hle142 (fun _ _ h => h)
  cases h
  exact Run.ret Tryd.func68 rfl (res_cell rfl (x_load (ex_loadA rfl (hH142.cells (i := 2) rfl 0 rfl) rdLe_rfl agg46 rfl rfl rfl)) res_nil) ⟨_, _, rfl, F142, (fun b c hb => hle142 b c ((fun b c hb => hle140 b c ((fun b c hb => hb) b c hb)) b c hb)), hf140, hf142, hH142.pickT [4, 5, 6] rfl rfl⟩

theorem mkk82 : makeK Tryd.prog 82 = none := by kernel_rfl
theorem cal82 : callable Tryd.prog 82 = true := by kernel_rfl
abbrev alert_only_h2_post (e_c157_0 : (List UInt8)) (e_l155 : (List S_api_Notice)) (e_s155 : SV) (e_r155 : (List SV)) (e_b157 : Pos) (Fr0 : Rd) (Hr : List Ent) (r : (List S_api_Notice)) : SV → Mem → Prop := fun s Me => ∃ q1, s = q1 ∧ ∃ F9 : Rd, RdLe Fr0 F9 ∧ ∃ c1 : List SV, Rows (rep46 F9) 10 c1 r ∧ Has F9 Me (([.vec 46 10 r.length q1 c1, .vec 46 10 e_l155.length e_s155 e_r155, .obj e_b157 (.row 9 .whole [(.str e_c157_0)]), tb0, tb1, tb2] : List Ent) ++ Hr)

def alert_only_h2_2 (F : Nat) (e_c157_0 : (List UInt8)) (e_l155 : (List S_api_Notice)) (hd1 : Int → Int → (List S_api_Notice) → Option ((List S_api_Notice))) (v9 v10 : Int) (l177 : (List S_api_Notice)) : Option ((List S_api_Notice)) :=
  hd1 v9 (w64 (v10 + (1 : Int))) l177

theorem alert_only_h2_2_ok (F : Nat) (e_c157_0 : (List UInt8)) (e_l155 : (List S_api_Notice)) (e_s155 : SV) (e_r155 : (List SV)) (e_b157 : Pos) (Fr0 : Rd) (Hr : List Ent) (hd1 : Int → Int → (List S_api_Notice) → Option ((List S_api_Notice))) (hhd1 : ∀ (v9 v10 : Int) (l158 : (List S_api_Notice)) (s158 : SV) (r158 : (List SV)) (Fr : Rd) (M : Mem) (r : (List S_api_Notice)) (hr158 : Rows (rep46 Fr) 10 r158 l158) (hx155 : Rows (rep46 Fr) 10 e_r155 e_l155) (hfle : RdLe Fr0 Fr) (hH : Has Fr M (([.obj e_b157 (.row 9 .whole [(.str e_c157_0)]), .vec 46 10 l158.length s158 r158, .vec 46 10 e_l155.length e_s155 e_r155, tb0, tb1, tb2] : List Ent) ++ Hr)), hd1 v9 v10 l158 = some r → Run Tryd.prog ⟨⟨83, [], none⟩, []⟩ 23 (alert_only_h2_post e_c157_0 e_l155 e_s155 e_r155 e_b157 Fr0 Hr r) [(1, (.fn (.func 82) [] [(.ptr e_b157 0)])), (5, s158), (8, e_s155), (9, (.int .i64 v9)), (10, (.int .i64 v10))] [codeC Tryd.prog 83 [1, 1, 0, 1, 0, 0], loopC Tryd.prog 83 [1, 1, 0, 1, 0, 0], .inBlock 0, codeC Tryd.prog 83 [1, 1, 1]] M) : ∀ (v9 v10 : Int) (l177 : (List S_api_Notice)) (s177 : SV) (r177 : (List SV)) (Fr : Rd) (M : Mem) (r : (List S_api_Notice)) (hr177 : Rows (rep46 Fr) 10 r177 l177) (hx155 : Rows (rep46 Fr) 10 e_r155 e_l155) (hfle : RdLe Fr0 Fr) (hH : Has Fr M (([.obj e_b157 (.row 9 .whole [(.str e_c157_0)]), .vec 46 10 l177.length s177 r177, .vec 46 10 e_l155.length e_s155 e_r155, tb0, tb1, tb2] : List Ent) ++ Hr)), alert_only_h2_2 F e_c157_0 e_l155 hd1 v9 v10 l177 = some r → Run Tryd.prog ⟨⟨83, [], none⟩, []⟩ 23 (alert_only_h2_post e_c157_0 e_l155 e_s155 e_r155 e_b157 Fr0 Hr r) [(1, (.fn (.func 82) [] [(.ptr e_b157 0)])), (5, s177), (8, e_s155), (9, (.int .i64 v9)), (10, (.int .i64 v10))] [itemC Tryd.prog 83 [1, 1, 0, 1, 0, 0, 1, 1, 1] 0, loopC Tryd.prog 83 [1, 1, 0, 1, 0, 0], .inBlock 0, codeC Tryd.prog 83 [1, 1, 1]] M := by
  intro v9 v10 l177 s177 r177 Fr M r hr177 hx155 hfle hH h
  rw [alert_only_h2_2] at h
  refine Run.opG wantS_none (ex_add rfl rfl) rfl ?_
  refine Run.opG wantS_none (ex_move rfl) rfl ?_
  refine Run.opsEnd (Run.inLoop ?_)
  exact Run.pick [1, 5, 8, 9, 10] (hhd1 v9 (w64 (v10 + (1 : Int))) l177 s177 r177 _ _ _ hr177 hx155 hfle hH h)

def alert_only_h2_1 (F : Nat) (e_c157_0 : (List UInt8)) (e_l155 : (List S_api_Notice)) : Nat → Int → Int → (List S_api_Notice) → Option ((List S_api_Notice))
  | 0, _, _, _ => none
  | N + 1, v9, v10, l158 =>
    bif (decide (v10 < v9)) then
      bnd (idx e_l155 v10) fun x162 =>
      bif (x162.Alert.Event == e_c157_0) then
        bnd (apd 120 l158 ([(S_api_Notice.mk x162.Alert x162.Signatures)] : List S_api_Notice)) fun l176 =>
        alert_only_h2_2 F e_c157_0 e_l155 (alert_only_h2_1 F e_c157_0 e_l155 N) v9 v10 l176
      else
        alert_only_h2_2 F e_c157_0 e_l155 (alert_only_h2_1 F e_c157_0 e_l155 N) v9 v10 l158
    else
      some l158

theorem alert_only_h2_1_ok (F : Nat) (e_c157_0 : (List UInt8)) (e_l155 : (List S_api_Notice)) (e_s155 : SV) (e_r155 : (List SV)) (e_b157 : Pos) (Fr0 : Rd) (Hr : List Ent) : ∀ (N : Nat), ∀ (v9 v10 : Int) (l158 : (List S_api_Notice)) (s158 : SV) (r158 : (List SV)) (Fr : Rd) (M : Mem) (r : (List S_api_Notice)) (hr158 : Rows (rep46 Fr) 10 r158 l158) (hx155 : Rows (rep46 Fr) 10 e_r155 e_l155) (hfle : RdLe Fr0 Fr) (hH : Has Fr M (([.obj e_b157 (.row 9 .whole [(.str e_c157_0)]), .vec 46 10 l158.length s158 r158, .vec 46 10 e_l155.length e_s155 e_r155, tb0, tb1, tb2] : List Ent) ++ Hr)), alert_only_h2_1 F e_c157_0 e_l155 N v9 v10 l158 = some r → Run Tryd.prog ⟨⟨83, [], none⟩, []⟩ 23 (alert_only_h2_post e_c157_0 e_l155 e_s155 e_r155 e_b157 Fr0 Hr r) [(1, (.fn (.func 82) [] [(.ptr e_b157 0)])), (5, s158), (8, e_s155), (9, (.int .i64 v9)), (10, (.int .i64 v10))] [codeC Tryd.prog 83 [1, 1, 0, 1, 0, 0], loopC Tryd.prog 83 [1, 1, 0, 1, 0, 0], .inBlock 0, codeC Tryd.prog 83 [1, 1, 1]] M := by
  intro N
  induction N with
  | zero =>
    intro v9 v10 l158 s158 r158 Fr M r hr158 hx155 hfle hH h
    simp [alert_only_h2_1] at h
  | succ N ih =>
    intro v9 v10 l158 s158 r158 Fr M r hr158 hx155 hfle hH h
    rw [alert_only_h2_1] at h
    refine Run.seq (Run.region ?_)
    refine Run.opG wantS_none (ex_lss rfl rfl) rfl ?_
    refine Run.opsEnd (Run.seq ?_)
    rcases btf ((decide (v10 < v9))) with hc160 | hc160
    · have h := bif_t hc160 h
      refine Run.condT' rfl hc160 ?_
      refine Run.skip (Run.seq (Run.block (Run.seq (Run.region ?_))))
      obtain ⟨x162, hx162, h⟩ := bnd_some h
      obtain ⟨p162, o162, hb162, hx162, he162⟩ := vec_elemR (P := Tryd.prog) (t := 66) (kk := .i64) hH (i := 2) rfl hx162 els66
      obtain ⟨_, hcs162, hln162, ⟨q162_0, q162_1, rfl, hq162_0, hq162_1⟩⟩ := hx155.at he162
      refine Run.opG wantS_none (ex_elX rfl rfl hx162) rfl ?_
      refine Run.opG wantS_none (ex_loadA rfl (hH.atR (i := 2) rfl hb162 hcs162 hln162) rdLe_rfl agg46 rfl rfl rfl) rfl ?_
      refine Run.opX wantS_none rfl (ExG.new (v := fun b => .ptr b 0) (ex_alloc zer46) hH) ?_
      rintro _ M165 ⟨b164, rfl, (hH165 : Has Fr M165 (([.obj b164 (.row 46 .whole [(.str []), (.int .i64 0), (.int .i64 0), (.int .i64 0), (.int .i64 0), (.int .i64 0), .nils, (.bool false), (.int .i64 0), .nils]), .obj e_b157 (.row 9 .whole [(.str e_c157_0)]), .vec 46 10 l158.length s158 r158, .vec 46 10 e_l155.length e_s155 e_r155, tb0, tb1, tb2] : List Ent) ++ Hr))⟩
      refine Run.opX wantS_none rfl (ExG.storeC (c' := [(.str x162.Alert.Event), (.int .i64 x162.Alert.Version), (.int .i64 x162.Alert.Time), (.int .i64 x162.Alert.Chance.N), (.int .i64 x162.Alert.Chance.Of), (.int .i64 x162.Alert.Grid), q162_0, (.bool x162.Alert.Withdrawn), (.int .i64 x162.Alert.Before), q162_1]) rfl rfl rfl hH165 (i := 0) rfl sz46 rfl rfl rfl (ones_cons rfl (ones_cons rfl (ones_cons rfl (ones_cons rfl (ones_cons rfl (ones_cons rfl (ones_cons (slc_one hq162_0) (ones_cons rfl (ones_cons rfl (ones_cons (slc_one hq162_1) ones_nil)))))))))) rfl) ?_
      rintro _ M166 ⟨rfl, (hH166 : Has Fr M166 (([.obj b164 (.row 46 .whole [(.str x162.Alert.Event), (.int .i64 x162.Alert.Version), (.int .i64 x162.Alert.Time), (.int .i64 x162.Alert.Chance.N), (.int .i64 x162.Alert.Chance.Of), (.int .i64 x162.Alert.Grid), q162_0, (.bool x162.Alert.Withdrawn), (.int .i64 x162.Alert.Before), q162_1]), .obj e_b157 (.row 9 .whole [(.str e_c157_0)]), .vec 46 10 l158.length s158 r158, .vec 46 10 e_l155.length e_s155 e_r155, tb0, tb1, tb2] : List Ent) ++ Hr))⟩
      refine Run.opsEnd (Run.seq (Run.region ?_))
      refine Run.opG wantS_none (ex_move rfl) rfl ?_
      refine Run.opG wantS_none (ex_loadA rfl (hH166.cells (i := 0) rfl 0 rfl) rdLe_rfl agg46 rfl rfl rfl) rfl ?_
      refine Run.enter wantS_none (ex_closure rfl rfl mkk82 cal82) Tryd.func82 rfl rfl ?_
      refine Run.seq (Run.region ?_)
      refine Run.opX wantS_none rfl (ExG.box rfl rfl hH166) ?_
      rintro _ M169 ⟨b168, rfl, (hH169 : Has Fr M169 (([.obj b168 (.row 46 .whole [(.str x162.Alert.Event), (.int .i64 x162.Alert.Version), (.int .i64 x162.Alert.Time), (.int .i64 x162.Alert.Chance.N), (.int .i64 x162.Alert.Chance.Of), (.int .i64 x162.Alert.Grid), q162_0, (.bool x162.Alert.Withdrawn), (.int .i64 x162.Alert.Before), q162_1]), .obj b164 (.row 46 .whole [(.str x162.Alert.Event), (.int .i64 x162.Alert.Version), (.int .i64 x162.Alert.Time), (.int .i64 x162.Alert.Chance.N), (.int .i64 x162.Alert.Chance.Of), (.int .i64 x162.Alert.Grid), q162_0, (.bool x162.Alert.Withdrawn), (.int .i64 x162.Alert.Before), q162_1]), .obj e_b157 (.row 9 .whole [(.str e_c157_0)]), .vec 46 10 l158.length s158 r158, .vec 46 10 e_l155.length e_s155 e_r155, tb0, tb1, tb2] : List Ent) ++ Hr))⟩
      refine Run.opG wantS_none (ex_assign rfl) rfl ?_
      refine Run.opsEnd (Run.seq (Run.region ?_))
      refine Run.opG wantS_none (ex_fieldAddr rfl off46_0) rfl ?_
      refine Run.opG wantS_none (ex_fieldAddr rfl off29_0) rfl ?_
      refine Run.opG wantS_none (ex_load1 rfl (hH169.cells (i := 0) rfl 0 rfl) rdLe_rfl agg9) rfl ?_
      refine Run.opG wantS_none (ex_load1 rfl (hH169.cells (i := 2) rfl 0 rfl) rdLe_rfl agg9) rfl ?_
      refine Run.opG wantS_none (ex_eqlS rfl rfl) rfl ?_
      refine Run.opG wantS_none (ex_assign rfl) rfl ?_
      refine Run.opsEnd ?_
      refine Run.retTo Tryd.func82 rfl (res_tmp rfl res_nil) rfl ?_
      refine Run.opsEnd ?_
      rcases btf ((x162.Alert.Event == e_c157_0)) with hc170 | hc170
      · have h := bif_t hc170 h
        refine Run.condT' rfl hc170 ?_
        refine Run.region ?_
        refine Run.opG wantS_none (ex_move rfl) rfl ?_
        refine Run.opG wantS_none (ex_loadA rfl (hH169.cells (i := 1) rfl 0 rfl) rdLe_rfl agg46 rfl rfl rfl) rfl ?_
        have hr172 : Rows (rep46 Fr) 10 [(.str x162.Alert.Event), (.int .i64 x162.Alert.Version), (.int .i64 x162.Alert.Time), (.int .i64 x162.Alert.Chance.N), (.int .i64 x162.Alert.Chance.Of), (.int .i64 x162.Alert.Grid), q162_0, (.bool x162.Alert.Withdrawn), (.int .i64 x162.Alert.Before), q162_1] ([(S_api_Notice.mk x162.Alert x162.Signatures)] : List S_api_Notice) := (Rows.cons (cs := [(.str x162.Alert.Event), (.int .i64 x162.Alert.Version), (.int .i64 x162.Alert.Time), (.int .i64 x162.Alert.Chance.N), (.int .i64 x162.Alert.Chance.Of), (.int .i64 x162.Alert.Grid), q162_0, (.bool x162.Alert.Withdrawn), (.int .i64 x162.Alert.Before), q162_1]) rfl ⟨q162_0, q162_1, rfl, hq162_0, hq162_1⟩ Rows.nil)
        refine Run.opX wantS_none rfl (ExG.builtR (z := 10) (c := [(.str x162.Alert.Event), (.int .i64 x162.Alert.Version), (.int .i64 x162.Alert.Time), (.int .i64 x162.Alert.Chance.N), (.int .i64 x162.Alert.Chance.Of), (.int .i64 x162.Alert.Grid), q162_0, (.bool x162.Alert.Withdrawn), (.int .i64 x162.Alert.Before), q162_1]) rfl elt66 rfl rfl rfl hH169) ?_
        rintro s172 M173 (hH173 : Has Fr M173 (([.vec 46 10 ([(S_api_Notice.mk x162.Alert x162.Signatures)] : List S_api_Notice).length s172 [(.str x162.Alert.Event), (.int .i64 x162.Alert.Version), (.int .i64 x162.Alert.Time), (.int .i64 x162.Alert.Chance.N), (.int .i64 x162.Alert.Chance.Of), (.int .i64 x162.Alert.Grid), q162_0, (.bool x162.Alert.Withdrawn), (.int .i64 x162.Alert.Before), q162_1], .obj b168 (.row 46 .whole [(.str x162.Alert.Event), (.int .i64 x162.Alert.Version), (.int .i64 x162.Alert.Time), (.int .i64 x162.Alert.Chance.N), (.int .i64 x162.Alert.Chance.Of), (.int .i64 x162.Alert.Grid), q162_0, (.bool x162.Alert.Withdrawn), (.int .i64 x162.Alert.Before), q162_1]), .obj b164 (.row 46 .whole [(.str x162.Alert.Event), (.int .i64 x162.Alert.Version), (.int .i64 x162.Alert.Time), (.int .i64 x162.Alert.Chance.N), (.int .i64 x162.Alert.Chance.Of), (.int .i64 x162.Alert.Grid), q162_0, (.bool x162.Alert.Withdrawn), (.int .i64 x162.Alert.Before), q162_1]), .obj e_b157 (.row 9 .whole [(.str e_c157_0)]), .vec 46 10 l158.length s158 r158, .vec 46 10 e_l155.length e_s155 e_r155, tb0, tb1, tb2] : List Ent) ++ Hr))
        obtain ⟨l176, hl176, h⟩ := bnd_some h
        refine Run.opX wantS_none rfl (ExG.appendQ (R := (rep46 Fr)) rfl rfl hH173 (i := 4) rfl hr158 (fun _ _ => rep46_ones) rfl appt66_66 rfl (hH173.slcR (i := 0) rfl hr172) (rdLe_rdRow _) hl176) ?_
        rintro s176 M178 ⟨r176, hr176, (hH178 : Has Fr M178 (([.vec 46 10 ([(S_api_Notice.mk x162.Alert x162.Signatures)] : List S_api_Notice).length s172 [(.str x162.Alert.Event), (.int .i64 x162.Alert.Version), (.int .i64 x162.Alert.Time), (.int .i64 x162.Alert.Chance.N), (.int .i64 x162.Alert.Chance.Of), (.int .i64 x162.Alert.Grid), q162_0, (.bool x162.Alert.Withdrawn), (.int .i64 x162.Alert.Before), q162_1], .obj b168 (.row 46 .whole [(.str x162.Alert.Event), (.int .i64 x162.Alert.Version), (.int .i64 x162.Alert.Time), (.int .i64 x162.Alert.Chance.N), (.int .i64 x162.Alert.Chance.Of), (.int .i64 x162.Alert.Grid), q162_0, (.bool x162.Alert.Withdrawn), (.int .i64 x162.Alert.Before), q162_1]), .obj b164 (.row 46 .whole [(.str x162.Alert.Event), (.int .i64 x162.Alert.Version), (.int .i64 x162.Alert.Time), (.int .i64 x162.Alert.Chance.N), (.int .i64 x162.Alert.Chance.Of), (.int .i64 x162.Alert.Grid), q162_0, (.bool x162.Alert.Withdrawn), (.int .i64 x162.Alert.Before), q162_1]), .obj e_b157 (.row 9 .whole [(.str e_c157_0)]), .vec 46 10 l176.length s176 r176, .vec 46 10 e_l155.length e_s155 e_r155, tb0, tb1, tb2] : List Ent) ++ Hr))⟩
        refine Run.opG wantS_none (ex_assign rfl) rfl ?_
        refine Run.opsEnd (Run.inBlock (Run.region ?_))
        exact Run.pick [1, 5, 8, 9, 10] (alert_only_h2_2_ok F e_c157_0 e_l155 e_s155 e_r155 e_b157 Fr0 Hr (alert_only_h2_1 F e_c157_0 e_l155 N) ih v9 v10 l176 s176 r176 _ _ _ hr176 hx155 hfle (hH178.pickT [3, 4, 5, 6, 7, 8] rfl rfl) h)
      · have h := bif_f hc170 h
        refine Run.condF' rfl hc170 ?_
        refine Run.skip (Run.inBlock (Run.region ?_))
        exact Run.pick [1, 5, 8, 9, 10] (alert_only_h2_2_ok F e_c157_0 e_l155 e_s155 e_r155 e_b157 Fr0 Hr (alert_only_h2_1 F e_c157_0 e_l155 N) ih v9 v10 l158 s158 r158 _ _ _ hr158 hx155 hfle (hH169.pickT [2, 3, 4, 5, 6, 7] rfl rfl) h)
    · have h := bif_f hc160 h
      refine Run.condF' rfl hc160 ?_
      refine Run.exit rfl (Run.seq (Run.region ?_))
      refine Run.opG wantS_none (ex_move rfl) rfl ?_
      refine Run.opG wantS_none (ex_assign rfl) rfl ?_
      refine Run.opsEnd ?_
      cases h
      exact Run.ret Tryd.func83 rfl (res_tmp rfl res_nil) ⟨_, rfl, Fr, hfle, r158, hr158, hH.pickT [1, 2, 0, 3, 4, 5] rfl rfl⟩

def alert_only_h2 (F : Nat) (e_c157_0 : (List UInt8)) (e_l155 : (List S_api_Notice)) : Option ((List S_api_Notice)) :=
  alert_only_h2_1 F e_c157_0 e_l155 F (e_l155.length : Int) (0 : Int) ([] : List S_api_Notice)

theorem alert_only_h2_ok (F : Nat) : ∀ (e_c157_0 : (List UInt8)) (e_l155 : (List S_api_Notice)) (e_s155 : SV) (e_r155 : (List SV)) (e_b157 : Pos) (Fr0 : Rd) (Hr : List Ent) (M : Mem) (r : (List S_api_Notice)) (e_hr155 : Rows (rep46 Fr0) 10 e_r155 e_l155) (hH : Has Fr0 M (([.vec 46 10 e_l155.length e_s155 e_r155, .obj e_b157 (.row 9 .whole [(.str e_c157_0)]), tb0, tb1, tb2] : List Ent) ++ Hr)) (h : alert_only_h2 F e_c157_0 e_l155 = some r), CallsM Tryd.prog 83 [e_s155, (.fn (.func 82) [] [(.ptr e_b157 0)])] M (alert_only_h2_post e_c157_0 e_l155 e_s155 e_r155 e_b157 Fr0 Hr r) := by
  intro e_c157_0 e_l155 e_s155 e_r155 e_b157 Fr0 Hr M r e_hr155 hH h
  refine CallsM.run Tryd.func83 rfl rfl (show Run _ _ _ (alert_only_h2_post e_c157_0 e_l155 e_s155 e_r155 e_b157 Fr0 Hr r) _ _ _ from ?_)
  rw [alert_only_h2] at h
  refine Run.seq (Run.region ?_)
  refine Run.opG wantS_none (ex_assign rfl) rfl ?_
  refine Run.opsEnd (Run.seq (Run.region ?_))
  refine Run.opG wantS_none (ex_assign rfl) rfl ?_
  refine Run.opsEnd (Run.seq (Run.seq (Run.region ?_)))
  refine Run.opG wantS_none (ex_move rfl) rfl ?_
  refine Run.opG wantS_none (ex_len' rfl (hH.slcR (i := 0) rfl e_hr155) lenk66) rfl ?_
  refine Run.opG wantS_none (ex_move rfl) rfl ?_
  refine Run.opsEnd (Run.block (Run.loop ?_))
  have hH159 : Has Fr0 M (([.vec 46 10 ([] : List S_api_Notice).length .nils [], .vec 46 10 e_l155.length e_s155 e_r155, .obj e_b157 (.row 9 .whole [(.str e_c157_0)]), tb0, tb1, tb2] : List Ent) ++ Hr) := hH.nils 46 10
  exact Run.pick [1, 5, 8, 9, 10] (alert_only_h2_1_ok F e_c157_0 e_l155 e_s155 e_r155 e_b157 Fr0 Hr F (e_l155.length : Int) (0 : Int) ([] : List S_api_Notice) .nils [] _ _ _ Rows.nil e_hr155 (fun b c hb => hb) (hH159.pickT [2, 0, 1, 3, 4, 5] rfl rfl) h)

abbrev alert_Board_alertsOf_h2_post (e_v1 : (List UInt8)) (e_c43_1 : Int) (e_l40 : (List S_api_Key)) (e_l155 : (List S_api_Notice)) (e_b43 : Pos) (e_s40 e_s155 : SV) (e_r155 : (List SV)) (Fr0 : Rd) (Hr : List Ent) (r : (List S_api_Alert)) : SV → Mem → Prop := fun s Me => ∃ q1, s = q1 ∧ ∃ F9 : Rd, RdLe Fr0 F9 ∧ ∃ c1 : List SV, Rows (rep29 F9) 9 c1 r ∧ Has F9 Me (([.vec 29 9 r.length q1 c1, .obj e_b43 (.row 103 .whole [e_s40, (.int .i64 e_c43_1), e_s155, (.ptr e_b43 0)]), .vec 79 2 e_l40.length e_s40 (e_l40.flatMap enc79), .vec 46 10 e_l155.length e_s155 e_r155, tb0, tb1, tb2] : List Ent) ++ Hr)

def alert_Board_alertsOf_h2_1 (F : Nat) (e_v1 : (List UInt8)) (e_c43_1 : Int) (e_l40 : (List S_api_Key)) (e_l155 : (List S_api_Notice)) : Nat → Int → Int → (List S_api_Alert) → (List S_api_Notice) → Option ((List S_api_Alert))
  | 0, _, _, _, _ => none
  | N + 1, v16, v17, l164, l162 =>
    bif (decide (v17 < v16)) then
      bnd (idx l162 v17) fun x168 =>
      bnd (alert_copyOfAlert F x168.Alert) fun r175 =>
      bnd (apd 96 l164 ([r175] : List S_api_Alert)) fun l186 =>
      (alert_Board_alertsOf_h2_1 F e_v1 e_c43_1 e_l40 e_l155 N) v16 (w64 (v17 + (1 : Int))) l186 l162
    else
      some l164

theorem alert_Board_alertsOf_h2_1_ok (F : Nat) (e_v1 : (List UInt8)) (e_c43_1 : Int) (e_l40 : (List S_api_Key)) (e_l155 : (List S_api_Notice)) (e_b43 : Pos) (e_s40 e_s155 : SV) (e_r155 : (List SV)) (Fr0 : Rd) (Hr : List Ent) : ∀ (N : Nat), ∀ (v16 v17 : Int) (l164 : (List S_api_Alert)) (l162 : (List S_api_Notice)) (s164 : SV) (r164 : (List SV)) (s162 : SV) (r162 : (List SV)) (Fr : Rd) (M : Mem) (r : (List S_api_Alert)) (hr164 : Rows (rep29 Fr) 9 r164 l164) (hr162 : Rows (rep46 Fr) 10 r162 l162) (hx155 : Rows (rep46 Fr) 10 e_r155 e_l155) (hfle : RdLe Fr0 Fr) (hH : Has Fr M (([.vec 29 9 l164.length s164 r164, .vec 46 10 l162.length s162 r162, .obj e_b43 (.row 103 .whole [e_s40, (.int .i64 e_c43_1), e_s155, (.ptr e_b43 0)]), .vec 79 2 e_l40.length e_s40 (e_l40.flatMap enc79), .vec 46 10 e_l155.length e_s155 e_r155, tb0, tb1, tb2] : List Ent) ++ Hr)), alert_Board_alertsOf_h2_1 F e_v1 e_c43_1 e_l40 e_l155 N v16 v17 l164 l162 = some r → Run Tryd.prog ⟨⟨66, [], none⟩, []⟩ 29 (alert_Board_alertsOf_h2_post e_v1 e_c43_1 e_l40 e_l155 e_b43 e_s40 e_s155 e_r155 Fr0 Hr r) [(6, s164), (15, s162), (16, (.int .i64 v16)), (17, (.int .i64 v17))] [codeC Tryd.prog 66 [1, 1, 1, 0, 1, 0, 0], loopC Tryd.prog 66 [1, 1, 1, 0, 1, 0, 0], .inBlock 0, codeC Tryd.prog 66 [1, 1, 1, 1]] M := by
  intro N
  induction N with
  | zero =>
    intro v16 v17 l164 l162 s164 r164 s162 r162 Fr M r hr164 hr162 hx155 hfle hH h
    simp [alert_Board_alertsOf_h2_1] at h
  | succ N ih =>
    intro v16 v17 l164 l162 s164 r164 s162 r162 Fr M r hr164 hr162 hx155 hfle hH h
    rw [alert_Board_alertsOf_h2_1] at h
    refine Run.seq (Run.region ?_)
    refine Run.opG wantS_none (ex_lss rfl rfl) rfl ?_
    refine Run.opsEnd (Run.seq ?_)
    rcases btf ((decide (v17 < v16))) with hc166 | hc166
    · have h := bif_t hc166 h
      refine Run.condT' rfl hc166 ?_
      refine Run.skip (Run.seq (Run.block (Run.seq (Run.region ?_))))
      obtain ⟨x168, hx168, h⟩ := bnd_some h
      obtain ⟨p168, o168, hb168, hx168, he168⟩ := vec_elemR (P := Tryd.prog) (t := 66) (kk := .i64) hH (i := 1) rfl hx168 els66
      obtain ⟨_, hcs168, hln168, ⟨q168_0, q168_1, rfl, hq168_0, hq168_1⟩⟩ := hr162.at he168
      refine Run.opG wantS_none (ex_elX rfl rfl hx168) rfl ?_
      refine Run.opG wantS_none (ex_loadA rfl (hH.atR (i := 1) rfl hb168 hcs168 hln168) rdLe_rfl agg46 rfl rfl rfl) rfl ?_
      refine Run.opX wantS_none rfl (ExG.new (v := fun b => .ptr b 0) (ex_alloc zer46) hH) ?_
      rintro _ M171 ⟨b170, rfl, (hH171 : Has Fr M171 (([.obj b170 (.row 46 .whole [(.str []), (.int .i64 0), (.int .i64 0), (.int .i64 0), (.int .i64 0), (.int .i64 0), .nils, (.bool false), (.int .i64 0), .nils]), .vec 29 9 l164.length s164 r164, .vec 46 10 l162.length s162 r162, .obj e_b43 (.row 103 .whole [e_s40, (.int .i64 e_c43_1), e_s155, (.ptr e_b43 0)]), .vec 79 2 e_l40.length e_s40 (e_l40.flatMap enc79), .vec 46 10 e_l155.length e_s155 e_r155, tb0, tb1, tb2] : List Ent) ++ Hr))⟩
      refine Run.opX wantS_none rfl (ExG.storeC (c' := [(.str x168.Alert.Event), (.int .i64 x168.Alert.Version), (.int .i64 x168.Alert.Time), (.int .i64 x168.Alert.Chance.N), (.int .i64 x168.Alert.Chance.Of), (.int .i64 x168.Alert.Grid), q168_0, (.bool x168.Alert.Withdrawn), (.int .i64 x168.Alert.Before), q168_1]) rfl rfl rfl hH171 (i := 0) rfl sz46 rfl rfl rfl (ones_cons rfl (ones_cons rfl (ones_cons rfl (ones_cons rfl (ones_cons rfl (ones_cons rfl (ones_cons (slc_one hq168_0) (ones_cons rfl (ones_cons rfl (ones_cons (slc_one hq168_1) ones_nil)))))))))) rfl) ?_
      rintro _ M172 ⟨rfl, (hH172 : Has Fr M172 (([.obj b170 (.row 46 .whole [(.str x168.Alert.Event), (.int .i64 x168.Alert.Version), (.int .i64 x168.Alert.Time), (.int .i64 x168.Alert.Chance.N), (.int .i64 x168.Alert.Chance.Of), (.int .i64 x168.Alert.Grid), q168_0, (.bool x168.Alert.Withdrawn), (.int .i64 x168.Alert.Before), q168_1]), .vec 29 9 l164.length s164 r164, .vec 46 10 l162.length s162 r162, .obj e_b43 (.row 103 .whole [e_s40, (.int .i64 e_c43_1), e_s155, (.ptr e_b43 0)]), .vec 79 2 e_l40.length e_s40 (e_l40.flatMap enc79), .vec 46 10 e_l155.length e_s155 e_r155, tb0, tb1, tb2] : List Ent) ++ Hr))⟩
      refine Run.opsEnd (Run.region ?_)
      refine Run.opG wantS_none (ex_move rfl) rfl ?_
      refine Run.opG wantS_none (ex_fieldAddr rfl off46_0) rfl ?_
      refine Run.opG wantS_none (ex_loadA rfl (hH172.cells (i := 0) rfl 0 rfl) rdLe_rfl agg29 rfl rfl rfl) rfl ?_
      obtain ⟨r175, hr175, h⟩ := bnd_some h
      refine Run.callX wantS_none (ex_call rfl mkk81 cal81) rfl (alert_copyOfAlert_ok F x168.Alert q168_0 _ _ (hH172.slcF hq168_0) hr175) ?_
      rintro _ M177 ⟨s175_0, rfl, hN175⟩
      have hH177 : Has Fr M177 (([.vec 3 1 r175.Cells.length s175_0 (r175.Cells.flatMap enc3), .obj b170 (.row 46 .whole [(.str x168.Alert.Event), (.int .i64 x168.Alert.Version), (.int .i64 x168.Alert.Time), (.int .i64 x168.Alert.Chance.N), (.int .i64 x168.Alert.Chance.Of), (.int .i64 x168.Alert.Grid), q168_0, (.bool x168.Alert.Withdrawn), (.int .i64 x168.Alert.Before), q168_1]), .vec 29 9 l164.length s164 r164, .vec 46 10 l162.length s162 r162, .obj e_b43 (.row 103 .whole [e_s40, (.int .i64 e_c43_1), e_s155, (.ptr e_b43 0)]), .vec 79 2 e_l40.length e_s40 (e_l40.flatMap enc79), .vec 46 10 e_l155.length e_s155 e_r155, tb0, tb1, tb2] : List Ent) ++ Hr) := hN175.1 _ _ hH172
      refine Run.freezeA (t := 24) (i := 0) (j := 6) (enc := enc3) rfl hH177 rfl rfl enc3_len ?_
      intro F179 M179 hle179 (hH179 : Has F179 M179 (([.vec 0 0 0 .nils [], .obj b170 (.row 46 .whole [(.str x168.Alert.Event), (.int .i64 x168.Alert.Version), (.int .i64 x168.Alert.Time), (.int .i64 x168.Alert.Chance.N), (.int .i64 x168.Alert.Chance.Of), (.int .i64 x168.Alert.Grid), q168_0, (.bool x168.Alert.Withdrawn), (.int .i64 x168.Alert.Before), q168_1]), .vec 29 9 l164.length s164 r164, .vec 46 10 l162.length s162 r162, .obj e_b43 (.row 103 .whole [e_s40, (.int .i64 e_c43_1), e_s155, (.ptr e_b43 0)]), .vec 79 2 e_l40.length e_s40 (e_l40.flatMap enc79), .vec 46 10 e_l155.length e_s155 e_r155, tb0, tb1, tb2] : List Ent) ++ Hr)) hf179
      replace hq168_0 := hq168_0.mono hle179 (fun _ _ h => h)
      replace hq168_1 := hq168_1.mono hle179 (fun _ _ h => h)
      replace hr162 := hr162.mono fun _ _ => rep46_mo hle179
      replace hr164 := hr164.mono fun _ _ => rep29_mo hle179
      replace hx155 := hx155.mono fun _ _ => rep46_mo hle179
      have hr182 : Rows (rep29 F179) 9 [(.str r175.Event), (.int .i64 r175.Version), (.int .i64 r175.Time), (.int .i64 r175.Chance.N), (.int .i64 r175.Chance.Of), (.int .i64 r175.Grid), s175_0, (.bool r175.Withdrawn), (.int .i64 r175.Before)] ([r175] : List S_api_Alert) := (Rows.cons (cs := [(.str r175.Event), (.int .i64 r175.Version), (.int .i64 r175.Time), (.int .i64 r175.Chance.N), (.int .i64 r175.Chance.Of), (.int .i64 r175.Grid), s175_0, (.bool r175.Withdrawn), (.int .i64 r175.Before)]) rfl ⟨s175_0, rfl, hf179⟩ Rows.nil)
      refine Run.opX wantS_none rfl (ExG.builtR (z := 9) (c := [(.str r175.Event), (.int .i64 r175.Version), (.int .i64 r175.Time), (.int .i64 r175.Chance.N), (.int .i64 r175.Chance.Of), (.int .i64 r175.Grid), s175_0, (.bool r175.Withdrawn), (.int .i64 r175.Before)]) rfl elt70 rfl rfl rfl hH179) ?_
      rintro s182 M183 (hH183 : Has F179 M183 (([.vec 29 9 ([r175] : List S_api_Alert).length s182 [(.str r175.Event), (.int .i64 r175.Version), (.int .i64 r175.Time), (.int .i64 r175.Chance.N), (.int .i64 r175.Chance.Of), (.int .i64 r175.Grid), s175_0, (.bool r175.Withdrawn), (.int .i64 r175.Before)], .vec 0 0 0 .nils [], .obj b170 (.row 46 .whole [(.str x168.Alert.Event), (.int .i64 x168.Alert.Version), (.int .i64 x168.Alert.Time), (.int .i64 x168.Alert.Chance.N), (.int .i64 x168.Alert.Chance.Of), (.int .i64 x168.Alert.Grid), q168_0, (.bool x168.Alert.Withdrawn), (.int .i64 x168.Alert.Before), q168_1]), .vec 29 9 l164.length s164 r164, .vec 46 10 l162.length s162 r162, .obj e_b43 (.row 103 .whole [e_s40, (.int .i64 e_c43_1), e_s155, (.ptr e_b43 0)]), .vec 79 2 e_l40.length e_s40 (e_l40.flatMap enc79), .vec 46 10 e_l155.length e_s155 e_r155, tb0, tb1, tb2] : List Ent) ++ Hr))
      obtain ⟨l186, hl186, h⟩ := bnd_some h
      refine Run.opX wantS_none rfl (ExG.appendQ (R := (rep29 F179)) rfl rfl hH183 (i := 3) rfl hr164 (fun _ _ => rep29_ones) rfl appt70_70 rfl (hH183.slcR (i := 0) rfl hr182) (rdLe_rdRow _) hl186) ?_
      rintro s186 M188 ⟨r186, hr186, (hH188 : Has F179 M188 (([.vec 29 9 ([r175] : List S_api_Alert).length s182 [(.str r175.Event), (.int .i64 r175.Version), (.int .i64 r175.Time), (.int .i64 r175.Chance.N), (.int .i64 r175.Chance.Of), (.int .i64 r175.Grid), s175_0, (.bool r175.Withdrawn), (.int .i64 r175.Before)], .vec 0 0 0 .nils [], .obj b170 (.row 46 .whole [(.str x168.Alert.Event), (.int .i64 x168.Alert.Version), (.int .i64 x168.Alert.Time), (.int .i64 x168.Alert.Chance.N), (.int .i64 x168.Alert.Chance.Of), (.int .i64 x168.Alert.Grid), q168_0, (.bool x168.Alert.Withdrawn), (.int .i64 x168.Alert.Before), q168_1]), .vec 29 9 l186.length s186 r186, .vec 46 10 l162.length s162 r162, .obj e_b43 (.row 103 .whole [e_s40, (.int .i64 e_c43_1), e_s155, (.ptr e_b43 0)]), .vec 79 2 e_l40.length e_s40 (e_l40.flatMap enc79), .vec 46 10 e_l155.length e_s155 e_r155, tb0, tb1, tb2] : List Ent) ++ Hr))⟩
      refine Run.opG wantS_none (ex_assign rfl) rfl ?_
      refine Run.opsEnd (Run.inBlock (Run.region ?_))
      refine Run.opG wantS_none (ex_add rfl rfl) rfl ?_
      refine Run.opG wantS_none (ex_move rfl) rfl ?_
      refine Run.opsEnd (Run.inLoop ?_)
      exact Run.pick [6, 15, 16, 17] (ih v16 (w64 (v17 + (1 : Int))) l186 l162 s186 r186 s162 r162 _ _ _ hr186 hr162 hx155 (fun b c hb => hle179 b c (hfle b c hb)) (hH188.pickT [3, 4, 5, 6, 7, 8, 9, 10] rfl rfl) h)
    · have h := bif_f hc166 h
      refine Run.condF' rfl hc166 ?_
      refine Run.exit rfl (Run.seq (Run.region ?_))
      refine Run.opG wantS_none (ex_move rfl) rfl ?_
      refine Run.opG wantS_none (ex_assign rfl) rfl ?_
      refine Run.opsEnd ?_
      cases h
      exact Run.ret Tryd.func66 rfl (res_tmp rfl res_nil) ⟨_, rfl, Fr, hfle, r164, hr164, hH.pickT [0, 2, 3, 4, 5, 6, 7] rfl rfl⟩

def alert_Board_alertsOf_h2 (F : Nat) (e_v1 : (List UInt8)) (e_c43_1 : Int) (e_l40 : (List S_api_Key)) (e_l155 : (List S_api_Notice)) : Option ((List S_api_Alert)) :=
  bnd (alert_only_h2 F e_v1 e_l155) fun r161 =>
  alert_Board_alertsOf_h2_1 F e_v1 e_c43_1 e_l40 e_l155 F (r161.length : Int) (0 : Int) ([] : List S_api_Alert) r161

theorem alert_Board_alertsOf_h2_ok (F : Nat) : ∀ (e_v1 : (List UInt8)) (e_c43_1 : Int) (e_l40 : (List S_api_Key)) (e_l155 : (List S_api_Notice)) (e_b43 : Pos) (e_s40 e_s155 : SV) (e_r155 : (List SV)) (Fr0 : Rd) (Hr : List Ent) (M : Mem) (r : (List S_api_Alert)) (e_hr155 : Rows (rep46 Fr0) 10 e_r155 e_l155) (hH : Has Fr0 M (([.obj e_b43 (.row 103 .whole [e_s40, (.int .i64 e_c43_1), e_s155, (.ptr e_b43 0)]), .vec 79 2 e_l40.length e_s40 (e_l40.flatMap enc79), .vec 46 10 e_l155.length e_s155 e_r155, tb0, tb1, tb2] : List Ent) ++ Hr)) (h : alert_Board_alertsOf_h2 F e_v1 e_c43_1 e_l40 e_l155 = some r), CallsM Tryd.prog 66 [(.ptr e_b43 0), (.str e_v1)] M (alert_Board_alertsOf_h2_post e_v1 e_c43_1 e_l40 e_l155 e_b43 e_s40 e_s155 e_r155 Fr0 Hr r) := by
  intro e_v1 e_c43_1 e_l40 e_l155 e_b43 e_s40 e_s155 e_r155 Fr0 Hr M r e_hr155 hH h
  refine CallsM.run Tryd.func66 rfl rfl (show Run _ _ _ (alert_Board_alertsOf_h2_post e_v1 e_c43_1 e_l40 e_l155 e_b43 e_s40 e_s155 e_r155 Fr0 Hr r) _ _ _ from ?_)
  rw [alert_Board_alertsOf_h2] at h
  refine Run.seq (Run.region ?_)
  refine Run.opX wantS_none rfl (ExG.box rfl rfl hH) ?_
  rintro _ M158 ⟨b157, rfl, (hH158 : Has Fr0 M158 (([.obj b157 (.row 9 .whole [(.str e_v1)]), .obj e_b43 (.row 103 .whole [e_s40, (.int .i64 e_c43_1), e_s155, (.ptr e_b43 0)]), .vec 79 2 e_l40.length e_s40 (e_l40.flatMap enc79), .vec 46 10 e_l155.length e_s155 e_r155, tb0, tb1, tb2] : List Ent) ++ Hr))⟩
  refine Run.opG wantS_none (ex_assign rfl) rfl ?_
  refine Run.opsEnd (Run.seq (Run.region ?_))
  refine Run.opG wantS_none (ex_makeFunc rfl rfl) rfl ?_
  refine Run.opG wantS_none (ex_assign rfl) rfl ?_
  refine Run.opsEnd (Run.seq (Run.region ?_))
  refine Run.opG wantS_none (ex_assign rfl) rfl ?_
  refine Run.opsEnd (Run.seq (Run.seq (Run.region ?_)))
  refine Run.opG wantS_none (ex_move rfl) rfl ?_
  refine Run.opG wantS_none (ex_nilP rfl) rfl ?_
  refine Run.opG wantS_none (ex_fieldAddr rfl off103_1) rfl ?_
  refine Run.opG wantS_none (ex_load1 rfl (hH158.cells (i := 1) rfl 2 rfl) rdLe_rfl agg66) rfl ?_
  refine Run.opG wantS_none (ex_move rfl) rfl ?_
  obtain ⟨r161, hr161, h⟩ := bnd_some h
  refine Run.callX wantS_none (ex_call rfl mkk83 cal83) rfl (alert_only_h2_ok F e_v1 e_l155 e_s155 e_r155 b157 Fr0 ([.obj e_b43 (.row 103 .whole [e_s40, (.int .i64 e_c43_1), e_s155, (.ptr e_b43 0)]), .vec 79 2 e_l40.length e_s40 (e_l40.flatMap enc79)] ++ Hr) _ _ e_hr155 (hH158.pickT [3, 0, 4, 5, 6, 1, 2] rfl rfl) hr161) ?_
  rintro s161_0 M163 ⟨_, rfl, F161, hle161, c161_0, hc161_0, (hH163 : Has F161 M163 (([.vec 46 10 r161.length s161_0 c161_0, .vec 46 10 e_l155.length e_s155 e_r155, .obj b157 (.row 9 .whole [(.str e_v1)]), tb0, tb1, tb2, .obj e_b43 (.row 103 .whole [e_s40, (.int .i64 e_c43_1), e_s155, (.ptr e_b43 0)]), .vec 79 2 e_l40.length e_s40 (e_l40.flatMap enc79)] : List Ent) ++ Hr))⟩
  replace e_hr155 := e_hr155.mono fun _ _ => rep46_mo hle161
  refine Run.opG wantS_none (ex_len' rfl (hH163.slcR (i := 0) rfl hc161_0) lenk66) rfl ?_
  refine Run.opG wantS_none (ex_move rfl) rfl ?_
  refine Run.opsEnd (Run.block (Run.loop ?_))
  have hH165 : Has F161 M163 (([.vec 29 9 ([] : List S_api_Alert).length .nils [], .vec 46 10 r161.length s161_0 c161_0, .vec 46 10 e_l155.length e_s155 e_r155, .obj b157 (.row 9 .whole [(.str e_v1)]), tb0, tb1, tb2, .obj e_b43 (.row 103 .whole [e_s40, (.int .i64 e_c43_1), e_s155, (.ptr e_b43 0)]), .vec 79 2 e_l40.length e_s40 (e_l40.flatMap enc79)] : List Ent) ++ Hr) := hH163.nils 29 9
  exact Run.pick [6, 15, 16, 17] (alert_Board_alertsOf_h2_1_ok F e_v1 e_c43_1 e_l40 e_l155 e_b43 e_s40 e_s155 e_r155 Fr0 Hr F (r161.length : Int) (0 : Int) ([] : List S_api_Alert) r161 .nils [] s161_0 c161_0 _ _ _ Rows.nil hc161_0 e_hr155 (fun b c hb => hle161 b c ((fun b c hb => hb) b c hb)) (hH165.pickT [0, 1, 7, 8, 2, 4, 5, 6] rfl rfl) h)

abbrev alert_Board_Force_h2_post (e_v1 : (List UInt8)) (e_c43_1 : Int) (e_l40 : (List S_api_Key)) (e_l73 : (List S_api_Notice)) (e_b43 : Pos) (e_s40 e_s73 : SV) (e_r73 : (List SV)) (Fr0 : Rd) (Hr : List Ent) (r : (List UInt8) × Int × Int × Int × Int × Int × (List Int) × Bool × Int × Int) : SV → Mem → Prop := fun s Me => ∃ q1, s = (.tuple [(.agg [(.str r.1), (.int .i64 r.2.1), (.int .i64 r.2.2.1), (.int .i64 r.2.2.2.1), (.int .i64 r.2.2.2.2.1), (.int .i64 r.2.2.2.2.2.1), q1, (.bool r.2.2.2.2.2.2.2.1), (.int .i64 r.2.2.2.2.2.2.2.2.1)]), (.int .i64 r.2.2.2.2.2.2.2.2.2)]) ∧ ∃ F9 : Rd, RdLe Fr0 F9 ∧ Slc F9 1 (FlatR enc3) q1 r.2.2.2.2.2.2.1 ∧ Has F9 Me (([.obj e_b43 (.row 103 .whole [e_s40, (.int .i64 e_c43_1), e_s73, (.ptr e_b43 0)]), .vec 79 2 e_l40.length e_s40 (e_l40.flatMap enc79), .vec 46 10 e_l73.length e_s73 e_r73, tb0, tb1, tb2] : List Ent) ++ Hr)

def alert_Board_Force_h2 (F : Nat) (e_v1 : (List UInt8)) (e_c43_1 : Int) (e_l40 : (List S_api_Key)) (e_l73 : (List S_api_Notice)) : Option ((List UInt8) × Int × Int × Int × Int × Int × (List Int) × Bool × Int × Int) :=
  bnd (alert_Board_alertsOf_h2 F e_v1 e_c43_1 e_l40 e_l73) fun r79 =>
  bif ((r79.length : Int) == (0 : Int)) then
    some ([], (0 : Int), (0 : Int), (0 : Int), (0 : Int), (0 : Int), [], false, (0 : Int), (4 : Int))
  else
    bnd (idx r79 (w64 ((r79.length : Int) - (1 : Int)))) fun x85 =>
    bif x85.Withdrawn then
      some ([], (0 : Int), (0 : Int), (0 : Int), (0 : Int), (0 : Int), [], false, (0 : Int), (107 : Int))
    else
      some (x85.Event, x85.Version, x85.Time, x85.Chance.N, x85.Chance.Of, x85.Grid, x85.Cells, x85.Withdrawn, x85.Before, (0 : Int))

theorem alert_Board_Force_h2_ok (F : Nat) : ∀ (e_v1 : (List UInt8)) (e_c43_1 : Int) (e_l40 : (List S_api_Key)) (e_l73 : (List S_api_Notice)) (e_b43 : Pos) (e_s40 e_s73 : SV) (e_r73 : (List SV)) (Fr0 : Rd) (Hr : List Ent) (M : Mem) (r : (List UInt8) × Int × Int × Int × Int × Int × (List Int) × Bool × Int × Int) (e_hr73 : Rows (rep46 Fr0) 10 e_r73 e_l73) (hH : Has Fr0 M (([.obj e_b43 (.row 103 .whole [e_s40, (.int .i64 e_c43_1), e_s73, (.ptr e_b43 0)]), .vec 79 2 e_l40.length e_s40 (e_l40.flatMap enc79), .vec 46 10 e_l73.length e_s73 e_r73, tb0, tb1, tb2] : List Ent) ++ Hr)) (h : alert_Board_Force_h2 F e_v1 e_c43_1 e_l40 e_l73 = some r), CallsM Tryd.prog 34 [(.ptr e_b43 0), (.str e_v1)] M (alert_Board_Force_h2_post e_v1 e_c43_1 e_l40 e_l73 e_b43 e_s40 e_s73 e_r73 Fr0 Hr r) := by
  intro e_v1 e_c43_1 e_l40 e_l73 e_b43 e_s40 e_s73 e_r73 Fr0 Hr M r e_hr73 hH h
  refine CallsM.run Tryd.func34 rfl rfl (show Run _ _ _ (alert_Board_Force_h2_post e_v1 e_c43_1 e_l40 e_l73 e_b43 e_s40 e_s73 e_r73 Fr0 Hr r) _ _ _ from ?_)
  rw [alert_Board_Force_h2] at h
  refine Run.seq (Run.region ?_)
  refine Run.opX wantS_none rfl (ExG.new (v := fun b => .ptr b 0) (ex_alloc zer29) hH) ?_
  rintro _ M76 ⟨b75, rfl, (hH76 : Has Fr0 M76 (([.obj b75 (.row 29 .whole [(.str []), (.int .i64 0), (.int .i64 0), (.int .i64 0), (.int .i64 0), (.int .i64 0), .nils, (.bool false), (.int .i64 0)]), .obj e_b43 (.row 103 .whole [e_s40, (.int .i64 e_c43_1), e_s73, (.ptr e_b43 0)]), .vec 79 2 e_l40.length e_s40 (e_l40.flatMap enc79), .vec 46 10 e_l73.length e_s73 e_r73, tb0, tb1, tb2] : List Ent) ++ Hr))⟩
  refine Run.opG wantS_none (ex_assign rfl) rfl ?_
  refine Run.opsEnd (Run.seq (Run.seq (Run.region ?_)))
  refine Run.opG wantS_none (ex_move rfl) rfl ?_
  refine Run.enter wantS_none (ex_call rfl mkk65 cal65) Tryd.func65 rfl rfl ?_
  refine Run.seq (Run.region ?_)
  refine Run.opG wantS_none (ex_assign rfl) rfl ?_
  refine Run.opsEnd (Run.seq (Run.region ?_))
  refine Run.opG wantS_none (ex_move rfl) rfl ?_
  refine Run.opG wantS_none (ex_ptrPNn rfl rfl eqk67) rfl ?_
  refine Run.opG wantS_none (ex_move rfl) rfl ?_
  refine Run.opG (wantS_yes' rfl rfl rfl) (ex_move rfl) rfl ?_
  refine Run.opG (wantS_yes' rfl rfl rfl) (ex_nilP rfl) rfl ?_
  refine Run.opG (wantS_yes' rfl rfl rfl) (ex_fieldAddr rfl off103_2) rfl ?_
  refine Run.opG (wantS_yes' rfl rfl rfl) (ex_load1 rfl (hH76.cells (i := 1) rfl 3 rfl) rdLe_rfl agg67) rfl ?_
  refine Run.opG (wantS_yes' rfl rfl rfl) (ex_move rfl) rfl ?_
  refine Run.opG (wantS_yes' rfl rfl rfl) (ex_ptrSame rfl rfl pte67 inf103) rfl ?_
  refine Run.opG wantS_none (ex_pickT' rfl rfl rfl rfl) rfl ?_
  refine Run.opG wantS_none (ex_assign rfl) rfl ?_
  refine Run.opsEnd ?_
  refine Run.retTo Tryd.func65 rfl (res_tmp rfl res_nil) rfl ?_
  refine Run.opG wantS_none (ex_not rfl) rfl ?_
  refine Run.opsEnd ?_
  refine Run.condF' rfl (bnot_f rfl) ?_
  refine Run.skip (Run.seq (Run.region ?_))
  refine Run.opG wantS_none (ex_move rfl) rfl ?_
  refine Run.opG wantS_none (ex_move rfl) rfl ?_
  obtain ⟨r79, hr79, h⟩ := bnd_some h
  refine Run.callX wantS_none (ex_call rfl mkk66 cal66) rfl (alert_Board_alertsOf_h2_ok F e_v1 e_c43_1 e_l40 e_l73 e_b43 e_s40 e_s73 e_r73 Fr0 ([.obj b75 (.row 29 .whole [(.str []), (.int .i64 0), (.int .i64 0), (.int .i64 0), (.int .i64 0), (.int .i64 0), .nils, (.bool false), (.int .i64 0)])] ++ Hr) _ _ e_hr73 (hH76.pickT [1, 2, 3, 4, 5, 6, 0] rfl rfl) hr79) ?_
  rintro s79_0 M81 ⟨_, rfl, F79, hle79, c79_0, hc79_0, (hH81 : Has F79 M81 (([.vec 29 9 r79.length s79_0 c79_0, .obj e_b43 (.row 103 .whole [e_s40, (.int .i64 e_c43_1), e_s73, (.ptr e_b43 0)]), .vec 79 2 e_l40.length e_s40 (e_l40.flatMap enc79), .vec 46 10 e_l73.length e_s73 e_r73, tb0, tb1, tb2, .obj b75 (.row 29 .whole [(.str []), (.int .i64 0), (.int .i64 0), (.int .i64 0), (.int .i64 0), (.int .i64 0), .nils, (.bool false), (.int .i64 0)])] : List Ent) ++ Hr))⟩
  replace e_hr73 := e_hr73.mono fun _ _ => rep46_mo hle79
  refine Run.opG wantS_none (ex_assign rfl) rfl ?_
  refine Run.opsEnd (Run.seq (Run.seq (Run.region ?_)))
  refine Run.opG wantS_none (ex_move rfl) rfl ?_
  refine Run.opG wantS_none (ex_len' rfl (hH81.slcR (i := 0) rfl hc79_0) lenk70) rfl ?_
  refine Run.opG wantS_none (ex_eql rfl rfl) rfl ?_
  refine Run.opsEnd ?_
  rcases btf (((r79.length : Int) == (0 : Int))) with hc82 | hc82
  · have h := bif_t hc82 h
    refine Run.condT' rfl hc82 ?_
    refine Run.seq (Run.region ?_)
    refine Run.opG wantS_none (ex_build (r := [(.str []), (.int .i64 0), (.int .i64 0), (.int .i64 0), (.int .i64 0), (.int .i64 0), .nils, (.bool false), (.int .i64 0)]) rfl zer29 pls29 rfl) rfl ?_
    refine Run.opX wantS_none rfl (ExG.storeC (c' := [(.str []), (.int .i64 0), (.int .i64 0), (.int .i64 0), (.int .i64 0), (.int .i64 0), .nils, (.bool false), (.int .i64 0)]) rfl rfl rfl hH81 (i := 7) rfl sz29 rfl rfl rfl rfl rfl) ?_
    rintro _ M83 ⟨rfl, (hH83 : Has F79 M83 (([.vec 29 9 r79.length s79_0 c79_0, .obj e_b43 (.row 103 .whole [e_s40, (.int .i64 e_c43_1), e_s73, (.ptr e_b43 0)]), .vec 79 2 e_l40.length e_s40 (e_l40.flatMap enc79), .vec 46 10 e_l73.length e_s73 e_r73, tb0, tb1, tb2, .obj b75 (.row 29 .whole [(.str []), (.int .i64 0), (.int .i64 0), (.int .i64 0), (.int .i64 0), (.int .i64 0), .nils, (.bool false), (.int .i64 0)])] : List Ent) ++ Hr))⟩
    refine Run.opG wantS_none (ex_assign rfl) rfl ?_
    refine Run.opsEnd ?_
    cases h
    exact Run.ret Tryd.func34 rfl (res_cell rfl (x_load (ex_loadA rfl (hH83.cells (i := 7) rfl 0 rfl) rdLe_rfl agg29 rfl rfl rfl)) (res_tmp rfl res_nil)) ⟨_, rfl, F79, (fun b c hb => hle79 b c ((fun b c hb => hb) b c hb)), slc_nil, hH83.pickT [1, 2, 3, 4, 5, 6] rfl rfl⟩
  · have h := bif_f hc82 h
    refine Run.condF' rfl hc82 ?_
    refine Run.skip (Run.seq (Run.region ?_))
    refine Run.opG wantS_none (ex_move rfl) rfl ?_
    refine Run.opG wantS_none (ex_move rfl) rfl ?_
    refine Run.opG wantS_none (ex_len' rfl (hH81.slcR (i := 0) rfl hc79_0) lenk70) rfl ?_
    refine Run.opG wantS_none (ex_sub rfl rfl) rfl ?_
    obtain ⟨x85, hx85, h⟩ := bnd_some h
    obtain ⟨p85, o85, hb85, hx85, he85⟩ := vec_elemR (P := Tryd.prog) (t := 70) (kk := .i64) hH81 (i := 0) rfl hx85 els70
    obtain ⟨_, hcs85, hln85, ⟨q85_0, rfl, hq85_0⟩⟩ := hc79_0.at he85
    refine Run.opG wantS_none (ex_elX rfl rfl hx85) rfl ?_
    refine Run.opG wantS_none (ex_loadA rfl (hH81.atR (i := 0) rfl hb85 hcs85 hln85) rdLe_rfl agg29 rfl rfl rfl) rfl ?_
    refine Run.opX wantS_none rfl (ExG.new (v := fun b => .ptr b 0) (ex_alloc zer29) hH81) ?_
    rintro _ M88 ⟨b87, rfl, (hH88 : Has F79 M88 (([.obj b87 (.row 29 .whole [(.str []), (.int .i64 0), (.int .i64 0), (.int .i64 0), (.int .i64 0), (.int .i64 0), .nils, (.bool false), (.int .i64 0)]), .vec 29 9 r79.length s79_0 c79_0, .obj e_b43 (.row 103 .whole [e_s40, (.int .i64 e_c43_1), e_s73, (.ptr e_b43 0)]), .vec 79 2 e_l40.length e_s40 (e_l40.flatMap enc79), .vec 46 10 e_l73.length e_s73 e_r73, tb0, tb1, tb2, .obj b75 (.row 29 .whole [(.str []), (.int .i64 0), (.int .i64 0), (.int .i64 0), (.int .i64 0), (.int .i64 0), .nils, (.bool false), (.int .i64 0)])] : List Ent) ++ Hr))⟩
    refine Run.opX wantS_none rfl (ExG.storeC (c' := [(.str x85.Event), (.int .i64 x85.Version), (.int .i64 x85.Time), (.int .i64 x85.Chance.N), (.int .i64 x85.Chance.Of), (.int .i64 x85.Grid), q85_0, (.bool x85.Withdrawn), (.int .i64 x85.Before)]) rfl rfl rfl hH88 (i := 0) rfl sz29 rfl rfl rfl (ones_cons rfl (ones_cons rfl (ones_cons rfl (ones_cons rfl (ones_cons rfl (ones_cons rfl (ones_cons (slc_one hq85_0) (ones_cons rfl (ones_cons rfl ones_nil))))))))) rfl) ?_
    rintro _ M89 ⟨rfl, (hH89 : Has F79 M89 (([.obj b87 (.row 29 .whole [(.str x85.Event), (.int .i64 x85.Version), (.int .i64 x85.Time), (.int .i64 x85.Chance.N), (.int .i64 x85.Chance.Of), (.int .i64 x85.Grid), q85_0, (.bool x85.Withdrawn), (.int .i64 x85.Before)]), .vec 29 9 r79.length s79_0 c79_0, .obj e_b43 (.row 103 .whole [e_s40, (.int .i64 e_c43_1), e_s73, (.ptr e_b43 0)]), .vec 79 2 e_l40.length e_s40 (e_l40.flatMap enc79), .vec 46 10 e_l73.length e_s73 e_r73, tb0, tb1, tb2, .obj b75 (.row 29 .whole [(.str []), (.int .i64 0), (.int .i64 0), (.int .i64 0), (.int .i64 0), (.int .i64 0), .nils, (.bool false), (.int .i64 0)])] : List Ent) ++ Hr))⟩
    refine Run.opsEnd (Run.seq (Run.seq (Run.region ?_)))
    refine Run.opG wantS_none (ex_fieldAddr rfl off29_6) rfl ?_
    refine Run.opG wantS_none (ex_load1 rfl (hH89.cells (i := 0) rfl 7 rfl) rdLe_rfl agg4) rfl ?_
    refine Run.opsEnd ?_
    rcases btf (x85.Withdrawn) with hc90 | hc90
    · have h := bif_t hc90 h
      refine Run.condT' rfl hc90 ?_
      refine Run.seq (Run.region ?_)
      refine Run.opG wantS_none (ex_build (r := [(.str []), (.int .i64 0), (.int .i64 0), (.int .i64 0), (.int .i64 0), (.int .i64 0), .nils, (.bool false), (.int .i64 0)]) rfl zer29 pls29 rfl) rfl ?_
      refine Run.opX wantS_none rfl (ExG.storeC (c' := [(.str []), (.int .i64 0), (.int .i64 0), (.int .i64 0), (.int .i64 0), (.int .i64 0), .nils, (.bool false), (.int .i64 0)]) rfl rfl rfl hH89 (i := 8) rfl sz29 rfl rfl rfl rfl rfl) ?_
      rintro _ M91 ⟨rfl, (hH91 : Has F79 M91 (([.obj b87 (.row 29 .whole [(.str x85.Event), (.int .i64 x85.Version), (.int .i64 x85.Time), (.int .i64 x85.Chance.N), (.int .i64 x85.Chance.Of), (.int .i64 x85.Grid), q85_0, (.bool x85.Withdrawn), (.int .i64 x85.Before)]), .vec 29 9 r79.length s79_0 c79_0, .obj e_b43 (.row 103 .whole [e_s40, (.int .i64 e_c43_1), e_s73, (.ptr e_b43 0)]), .vec 79 2 e_l40.length e_s40 (e_l40.flatMap enc79), .vec 46 10 e_l73.length e_s73 e_r73, tb0, tb1, tb2, .obj b75 (.row 29 .whole [(.str []), (.int .i64 0), (.int .i64 0), (.int .i64 0), (.int .i64 0), (.int .i64 0), .nils, (.bool false), (.int .i64 0)])] : List Ent) ++ Hr))⟩
      refine Run.opG wantS_none (ex_assign rfl) rfl ?_
      refine Run.opsEnd ?_
      cases h
      exact Run.ret Tryd.func34 rfl (res_cell rfl (x_load (ex_loadA rfl (hH91.cells (i := 8) rfl 0 rfl) rdLe_rfl agg29 rfl rfl rfl)) (res_tmp rfl res_nil)) ⟨_, rfl, F79, (fun b c hb => hle79 b c ((fun b c hb => hb) b c hb)), slc_nil, hH91.pickT [2, 3, 4, 5, 6, 7] rfl rfl⟩
    · have h := bif_f hc90 h
      refine Run.condF' rfl hc90 ?_
      refine Run.skip (Run.seq (Run.region ?_))
      refine Run.opG wantS_none (ex_loadA rfl (hH89.cells (i := 0) rfl 0 rfl) rdLe_rfl agg29 rfl rfl rfl) rfl ?_
      refine Run.opX wantS_none rfl (ExG.storeC (c' := [(.str x85.Event), (.int .i64 x85.Version), (.int .i64 x85.Time), (.int .i64 x85.Chance.N), (.int .i64 x85.Chance.Of), (.int .i64 x85.Grid), q85_0, (.bool x85.Withdrawn), (.int .i64 x85.Before)]) rfl rfl rfl hH89 (i := 8) rfl sz29 rfl rfl rfl (ones_cons rfl (ones_cons rfl (ones_cons rfl (ones_cons rfl (ones_cons rfl (ones_cons rfl (ones_cons (slc_one hq85_0) (ones_cons rfl (ones_cons rfl ones_nil))))))))) rfl) ?_
      rintro _ M92 ⟨rfl, (hH92 : Has F79 M92 (([.obj b87 (.row 29 .whole [(.str x85.Event), (.int .i64 x85.Version), (.int .i64 x85.Time), (.int .i64 x85.Chance.N), (.int .i64 x85.Chance.Of), (.int .i64 x85.Grid), q85_0, (.bool x85.Withdrawn), (.int .i64 x85.Before)]), .vec 29 9 r79.length s79_0 c79_0, .obj e_b43 (.row 103 .whole [e_s40, (.int .i64 e_c43_1), e_s73, (.ptr e_b43 0)]), .vec 79 2 e_l40.length e_s40 (e_l40.flatMap enc79), .vec 46 10 e_l73.length e_s73 e_r73, tb0, tb1, tb2, .obj b75 (.row 29 .whole [(.str x85.Event), (.int .i64 x85.Version), (.int .i64 x85.Time), (.int .i64 x85.Chance.N), (.int .i64 x85.Chance.Of), (.int .i64 x85.Grid), q85_0, (.bool x85.Withdrawn), (.int .i64 x85.Before)])] : List Ent) ++ Hr))⟩
      refine Run.opG wantS_none (ex_assign rfl) rfl ?_
      refine Run.opsEnd ?_
      cases h
      exact Run.ret Tryd.func34 rfl (res_cell rfl (x_load (ex_loadA rfl (hH92.cells (i := 8) rfl 0 rfl) rdLe_rfl agg29 rfl rfl rfl)) (res_tmp rfl res_nil)) ⟨_, rfl, F79, (fun b c hb => hle79 b c ((fun b c hb => hb) b c hb)), hq85_0, hH92.pickT [2, 3, 4, 5, 6, 7] rfl rfl⟩

theorem plan31_1_1_1_1_1_0 : planOf Tryd.prog (opsC (atC Tryd.prog 31 [1, 1, 1, 1, 1, 0])) = some [.fl 0, .fl 1, .fl 2, .fl 3, .fl 4, .fl 5, .an 6 [4, 3, 2, 1, 0], .an 7 [4, 3, 2, 1, 0], .an 8 [0], .fl 9, .fl 10, .an 11 [], .sync] := by kernel_rfl
theorem plan31_1_1_1_0_0 : planOf Tryd.prog (opsC (atC Tryd.prog 31 [1, 1, 1, 0, 0])) = some [.fl 0, .fl 1, .fl 2, .fl 3, .fl 5, .fl 6, .an 4 [6, 5], .an 7 [], .fl 8, .sync] := by kernel_rfl
theorem plan31_1_1_0_0 : planOf Tryd.prog (opsC (atC Tryd.prog 31 [1, 1, 0, 0])) = some [.fl 0, .fl 1, .fl 2, .fl 3, .fl 4, .an 5 [], .fl 6, .sync] := by kernel_rfl
abbrev law10_AlertChain_post (r : Bool) : SV → Mem → Prop := fun s _ => s = (.bool r)

def law10_AlertChain_7 (F : Nat) (hd5 : (List S_api_Notice) → Int → (List UInt8) → Int → Int → (List S_api_Key) → (List S_api_Notice) → (List S_api_Alert) → Option (Bool)) (v1 : (List S_api_Notice)) (v7 : Int) (v8 : (List UInt8)) (v12 c43_1 : Int) (l40 : (List S_api_Key)) (l47 : (List S_api_Notice)) (l72 : (List S_api_Alert)) : Option (Bool) :=
  hd5 v1 v7 v8 (w64 (v12 + (1 : Int))) c43_1 l40 l47 l72

theorem law10_AlertChain_7_ok (F : Nat) (hd5 : (List S_api_Notice) → Int → (List UInt8) → Int → Int → (List S_api_Key) → (List S_api_Notice) → (List S_api_Alert) → Option (Bool)) (hhd5 : ∀ (v1 : (List S_api_Notice)) (v7 : Int) (v8 : (List UInt8)) (v12 c43_1 : Int) (l40 : (List S_api_Key)) (l47 : (List S_api_Notice)) (l72 : (List S_api_Alert)) (sv1 : SV) (b43 : Pos) (s40 s47 : SV) (r47 : (List SV)) (s72 : SV) (r72 : (List SV)) (Fr : Rd) (M : Mem) (r : Bool) (hv1 : Slc Fr 10 (rep46 Fr) sv1 v1) (hr47 : Rows (rep46 Fr) 10 r47 l47) (hr72 : Rows (rep29 Fr) 9 r72 l72) (hH : Has Fr M [.obj b43 (.row 103 .whole [s40, (.int .i64 c43_1), s47, (.ptr b43 0)]), .vec 79 2 l40.length s40 (l40.flatMap enc79), .vec 46 10 l47.length s47 r47, .vec 29 9 l72.length s72 r72, tb0, tb1, tb2]), hd5 v1 v7 v8 v12 c43_1 l40 l47 l72 = some r → Run Tryd.prog ⟨⟨7, [], none⟩, []⟩ 201 (law10_AlertChain_post r) [(1, sv1), (5, (.ptr b43 0)), (7, (.int .i64 v7)), (8, (.str v8)), (11, s72), (12, (.int .i64 v12))] [codeC Tryd.prog 7 [1, 1, 1, 0, 1, 0, 0, 1, 0, 0, 1, 1, 1, 1, 1, 0, 1, 0, 0], loopC Tryd.prog 7 [1, 1, 1, 0, 1, 0, 0, 1, 0, 0, 1, 1, 1, 1, 1, 0, 1, 0, 0], .inBlock 2, codeC Tryd.prog 7 [1, 1, 1, 0, 1, 0, 0, 1, 0, 0, 1, 1, 1, 1, 1, 1], .inBlock 1, codeC Tryd.prog 7 [1, 1, 1, 0, 1, 0, 0, 1, 1], loopC Tryd.prog 7 [1, 1, 1, 0, 1, 0, 0], .inBlock 0, codeC Tryd.prog 7 [1, 1, 1, 1]] M) : ∀ (v1 : (List S_api_Notice)) (v7 : Int) (v8 : (List UInt8)) (v12 c43_1 : Int) (l40 : (List S_api_Key)) (l47 : (List S_api_Notice)) (l72 : (List S_api_Alert)) (sv1 : SV) (b43 : Pos) (s40 s47 : SV) (r47 : (List SV)) (s72 : SV) (r72 : (List SV)) (Fr : Rd) (M : Mem) (r : Bool) (hv1 : Slc Fr 10 (rep46 Fr) sv1 v1) (hr47 : Rows (rep46 Fr) 10 r47 l47) (hr72 : Rows (rep29 Fr) 9 r72 l72) (hH : Has Fr M [.obj b43 (.row 103 .whole [s40, (.int .i64 c43_1), s47, (.ptr b43 0)]), .vec 79 2 l40.length s40 (l40.flatMap enc79), .vec 46 10 l47.length s47 r47, .vec 29 9 l72.length s72 r72, tb0, tb1, tb2]), law10_AlertChain_7 F hd5 v1 v7 v8 v12 c43_1 l40 l47 l72 = some r → Run Tryd.prog ⟨⟨7, [], none⟩, []⟩ 201 (law10_AlertChain_post r) [(1, sv1), (5, (.ptr b43 0)), (7, (.int .i64 v7)), (8, (.str v8)), (11, s72), (12, (.int .i64 v12))] [itemC Tryd.prog 7 [1, 1, 1, 0, 1, 0, 0, 1, 0, 0, 1, 1, 1, 1, 1, 0, 1, 0, 0, 1, 1] 0, loopC Tryd.prog 7 [1, 1, 1, 0, 1, 0, 0, 1, 0, 0, 1, 1, 1, 1, 1, 0, 1, 0, 0], .inBlock 2, codeC Tryd.prog 7 [1, 1, 1, 0, 1, 0, 0, 1, 0, 0, 1, 1, 1, 1, 1, 1], .inBlock 1, codeC Tryd.prog 7 [1, 1, 1, 0, 1, 0, 0, 1, 1], loopC Tryd.prog 7 [1, 1, 1, 0, 1, 0, 0], .inBlock 0, codeC Tryd.prog 7 [1, 1, 1, 1]] M := by
  intro v1 v7 v8 v12 c43_1 l40 l47 l72 sv1 b43 s40 s47 r47 s72 r72 Fr M r hv1 hr47 hr72 hH h
  rw [law10_AlertChain_7] at h
  refine Run.opG wantS_none (ex_move rfl) rfl ?_
  refine Run.opG wantS_none (ex_add rfl rfl) rfl ?_
  refine Run.opG wantS_none (ex_assign rfl) rfl ?_
  refine Run.opsEnd (Run.inLoop ?_)
  exact Run.pick [1, 5, 7, 8, 11, 12] (hhd5 v1 v7 v8 (w64 (v12 + (1 : Int))) c43_1 l40 l47 l72 sv1 b43 s40 s47 r47 s72 r72 _ _ _ hv1 hr47 hr72 hH h)

def law10_AlertChain_8 (F : Nat) (hd5 : (List S_api_Notice) → Int → (List UInt8) → Int → Int → (List S_api_Key) → (List S_api_Notice) → (List S_api_Alert) → Option (Bool)) (v1 : (List S_api_Notice)) (v7 : Int) (v8 : (List UInt8)) (v12 : Int) (v152 : Bool) (c43_1 : Int) (l40 : (List S_api_Key)) (l47 : (List S_api_Notice)) (l72 : (List S_api_Alert)) : Option (Bool) :=
  bif v152 then
    some false
  else
    law10_AlertChain_7 F hd5 v1 v7 v8 v12 c43_1 l40 l47 l72

theorem law10_AlertChain_8_ok (F : Nat) (hd5 : (List S_api_Notice) → Int → (List UInt8) → Int → Int → (List S_api_Key) → (List S_api_Notice) → (List S_api_Alert) → Option (Bool)) (hhd5 : ∀ (v1 : (List S_api_Notice)) (v7 : Int) (v8 : (List UInt8)) (v12 c43_1 : Int) (l40 : (List S_api_Key)) (l47 : (List S_api_Notice)) (l72 : (List S_api_Alert)) (sv1 : SV) (b43 : Pos) (s40 s47 : SV) (r47 : (List SV)) (s72 : SV) (r72 : (List SV)) (Fr : Rd) (M : Mem) (r : Bool) (hv1 : Slc Fr 10 (rep46 Fr) sv1 v1) (hr47 : Rows (rep46 Fr) 10 r47 l47) (hr72 : Rows (rep29 Fr) 9 r72 l72) (hH : Has Fr M [.obj b43 (.row 103 .whole [s40, (.int .i64 c43_1), s47, (.ptr b43 0)]), .vec 79 2 l40.length s40 (l40.flatMap enc79), .vec 46 10 l47.length s47 r47, .vec 29 9 l72.length s72 r72, tb0, tb1, tb2]), hd5 v1 v7 v8 v12 c43_1 l40 l47 l72 = some r → Run Tryd.prog ⟨⟨7, [], none⟩, []⟩ 201 (law10_AlertChain_post r) [(1, sv1), (5, (.ptr b43 0)), (7, (.int .i64 v7)), (8, (.str v8)), (11, s72), (12, (.int .i64 v12))] [codeC Tryd.prog 7 [1, 1, 1, 0, 1, 0, 0, 1, 0, 0, 1, 1, 1, 1, 1, 0, 1, 0, 0], loopC Tryd.prog 7 [1, 1, 1, 0, 1, 0, 0, 1, 0, 0, 1, 1, 1, 1, 1, 0, 1, 0, 0], .inBlock 2, codeC Tryd.prog 7 [1, 1, 1, 0, 1, 0, 0, 1, 0, 0, 1, 1, 1, 1, 1, 1], .inBlock 1, codeC Tryd.prog 7 [1, 1, 1, 0, 1, 0, 0, 1, 1], loopC Tryd.prog 7 [1, 1, 1, 0, 1, 0, 0], .inBlock 0, codeC Tryd.prog 7 [1, 1, 1, 1]] M) : ∀ (v1 : (List S_api_Notice)) (v7 : Int) (v8 : (List UInt8)) (v12 : Int) (v152 : Bool) (c43_1 : Int) (l40 : (List S_api_Key)) (l47 : (List S_api_Notice)) (l72 : (List S_api_Alert)) (sv1 : SV) (b43 : Pos) (s40 s47 : SV) (r47 : (List SV)) (s72 : SV) (r72 : (List SV)) (Fr : Rd) (M : Mem) (r : Bool) (hv1 : Slc Fr 10 (rep46 Fr) sv1 v1) (hr47 : Rows (rep46 Fr) 10 r47 l47) (hr72 : Rows (rep29 Fr) 9 r72 l72) (hH : Has Fr M [.obj b43 (.row 103 .whole [s40, (.int .i64 c43_1), s47, (.ptr b43 0)]), .vec 79 2 l40.length s40 (l40.flatMap enc79), .vec 46 10 l47.length s47 r47, .vec 29 9 l72.length s72 r72, tb0, tb1, tb2]), law10_AlertChain_8 F hd5 v1 v7 v8 v12 v152 c43_1 l40 l47 l72 = some r → Run Tryd.prog ⟨⟨7, [], none⟩, []⟩ 201 (law10_AlertChain_post r) [(1, sv1), (5, (.ptr b43 0)), (7, (.int .i64 v7)), (8, (.str v8)), (11, s72), (12, (.int .i64 v12)), (152, (.bool v152))] [codeC Tryd.prog 7 [1, 1, 1, 0, 1, 0, 0, 1, 0, 0, 1, 1, 1, 1, 1, 0, 1, 0, 0, 1, 0, 0, 1, 1, 1, 1], .inBlock 3, codeC Tryd.prog 7 [1, 1, 1, 0, 1, 0, 0, 1, 0, 0, 1, 1, 1, 1, 1, 0, 1, 0, 0, 1, 1], loopC Tryd.prog 7 [1, 1, 1, 0, 1, 0, 0, 1, 0, 0, 1, 1, 1, 1, 1, 0, 1, 0, 0], .inBlock 2, codeC Tryd.prog 7 [1, 1, 1, 0, 1, 0, 0, 1, 0, 0, 1, 1, 1, 1, 1, 1], .inBlock 1, codeC Tryd.prog 7 [1, 1, 1, 0, 1, 0, 0, 1, 1], loopC Tryd.prog 7 [1, 1, 1, 0, 1, 0, 0], .inBlock 0, codeC Tryd.prog 7 [1, 1, 1, 1]] M := by
  intro v1 v7 v8 v12 v152 c43_1 l40 l47 l72 sv1 b43 s40 s47 r47 s72 r72 Fr M r hv1 hr47 hr72 hH h
  rw [law10_AlertChain_8] at h
  rcases btf (v152) with hc90 | hc90
  · have h := bif_t hc90 h
    refine Run.condT' rfl hc90 ?_
    refine Run.seq (Run.region ?_)
    refine Run.opG wantS_none (ex_assign rfl) rfl ?_
    refine Run.opsEnd ?_
    cases h
    exact Run.ret Tryd.func7 rfl (res_tmp rfl res_nil) rfl
  · have h := bif_f hc90 h
    refine Run.condF' rfl hc90 ?_
    refine Run.skip (Run.inBlock (Run.region ?_))
    exact Run.pick [1, 5, 7, 8, 11, 12] (law10_AlertChain_7_ok F hd5 hhd5 v1 v7 v8 v12 c43_1 l40 l47 l72 sv1 b43 s40 s47 r47 s72 r72 _ _ _ hv1 hr47 hr72 hH h)

def law10_AlertChain_6 (F : Nat) (hd5 : (List S_api_Notice) → Int → (List UInt8) → Int → Int → (List S_api_Key) → (List S_api_Notice) → (List S_api_Alert) → Option (Bool)) (v1 : (List S_api_Notice)) (v7 : Int) (v8 : (List UInt8)) (v12 : Int) (v116 : Bool) (c43_1 : Int) (l40 : (List S_api_Key)) (l47 : (List S_api_Notice)) (l72 : (List S_api_Alert)) : Option (Bool) :=
  bif v116 then
    some false
  else
    bif (v12 == (0 : Int)) then
      law10_AlertChain_7 F hd5 v1 v7 v8 v12 c43_1 l40 l47 l72
    else
      bnd (idx l72 (w64 (v12 - (1 : Int)))) fun x85 =>
      bnd (alert_Digest F x85) fun r87 =>
      bif (!(r87.2 == (0 : Int))) then
        law10_AlertChain_8 F hd5 v1 v7 v8 v12 true c43_1 l40 l47 l72
      else
        bnd (idx l72 v12) fun x91 =>
        bif (!(x91.Before == r87.1)) then
          law10_AlertChain_8 F hd5 v1 v7 v8 v12 true c43_1 l40 l47 l72
        else
          bnd (idx l72 v12) fun x93 =>
          bnd (idx l72 (w64 (v12 - (1 : Int)))) fun x94 =>
          law10_AlertChain_8 F hd5 v1 v7 v8 v12 (decide (x93.Time < x94.Time)) c43_1 l40 l47 l72

theorem law10_AlertChain_6_ok (F : Nat) (hd5 : (List S_api_Notice) → Int → (List UInt8) → Int → Int → (List S_api_Key) → (List S_api_Notice) → (List S_api_Alert) → Option (Bool)) (hhd5 : ∀ (v1 : (List S_api_Notice)) (v7 : Int) (v8 : (List UInt8)) (v12 c43_1 : Int) (l40 : (List S_api_Key)) (l47 : (List S_api_Notice)) (l72 : (List S_api_Alert)) (sv1 : SV) (b43 : Pos) (s40 s47 : SV) (r47 : (List SV)) (s72 : SV) (r72 : (List SV)) (Fr : Rd) (M : Mem) (r : Bool) (hv1 : Slc Fr 10 (rep46 Fr) sv1 v1) (hr47 : Rows (rep46 Fr) 10 r47 l47) (hr72 : Rows (rep29 Fr) 9 r72 l72) (hH : Has Fr M [.obj b43 (.row 103 .whole [s40, (.int .i64 c43_1), s47, (.ptr b43 0)]), .vec 79 2 l40.length s40 (l40.flatMap enc79), .vec 46 10 l47.length s47 r47, .vec 29 9 l72.length s72 r72, tb0, tb1, tb2]), hd5 v1 v7 v8 v12 c43_1 l40 l47 l72 = some r → Run Tryd.prog ⟨⟨7, [], none⟩, []⟩ 201 (law10_AlertChain_post r) [(1, sv1), (5, (.ptr b43 0)), (7, (.int .i64 v7)), (8, (.str v8)), (11, s72), (12, (.int .i64 v12))] [codeC Tryd.prog 7 [1, 1, 1, 0, 1, 0, 0, 1, 0, 0, 1, 1, 1, 1, 1, 0, 1, 0, 0], loopC Tryd.prog 7 [1, 1, 1, 0, 1, 0, 0, 1, 0, 0, 1, 1, 1, 1, 1, 0, 1, 0, 0], .inBlock 2, codeC Tryd.prog 7 [1, 1, 1, 0, 1, 0, 0, 1, 0, 0, 1, 1, 1, 1, 1, 1], .inBlock 1, codeC Tryd.prog 7 [1, 1, 1, 0, 1, 0, 0, 1, 1], loopC Tryd.prog 7 [1, 1, 1, 0, 1, 0, 0], .inBlock 0, codeC Tryd.prog 7 [1, 1, 1, 1]] M) : ∀ (v1 : (List S_api_Notice)) (v7 : Int) (v8 : (List UInt8)) (v12 : Int) (v116 : Bool) (c43_1 : Int) (l40 : (List S_api_Key)) (l47 : (List S_api_Notice)) (l72 : (List S_api_Alert)) (sv1 : SV) (b43 : Pos) (s40 s47 : SV) (r47 : (List SV)) (s72 : SV) (r72 : (List SV)) (Fr : Rd) (M : Mem) (r : Bool) (hv1 : Slc Fr 10 (rep46 Fr) sv1 v1) (hr47 : Rows (rep46 Fr) 10 r47 l47) (hr72 : Rows (rep29 Fr) 9 r72 l72) (hH : Has Fr M [.obj b43 (.row 103 .whole [s40, (.int .i64 c43_1), s47, (.ptr b43 0)]), .vec 79 2 l40.length s40 (l40.flatMap enc79), .vec 46 10 l47.length s47 r47, .vec 29 9 l72.length s72 r72, tb0, tb1, tb2]), law10_AlertChain_6 F hd5 v1 v7 v8 v12 v116 c43_1 l40 l47 l72 = some r → Run Tryd.prog ⟨⟨7, [], none⟩, []⟩ 201 (law10_AlertChain_post r) [(1, sv1), (5, (.ptr b43 0)), (7, (.int .i64 v7)), (8, (.str v8)), (11, s72), (12, (.int .i64 v12)), (116, (.bool v116))] [codeC Tryd.prog 7 [1, 1, 1, 0, 1, 0, 0, 1, 0, 0, 1, 1, 1, 1, 1, 0, 1, 0, 0, 1, 0, 0, 0, 1], codeC Tryd.prog 7 [1, 1, 1, 0, 1, 0, 0, 1, 0, 0, 1, 1, 1, 1, 1, 0, 1, 0, 0, 1, 0, 0, 1], .inBlock 3, codeC Tryd.prog 7 [1, 1, 1, 0, 1, 0, 0, 1, 0, 0, 1, 1, 1, 1, 1, 0, 1, 0, 0, 1, 1], loopC Tryd.prog 7 [1, 1, 1, 0, 1, 0, 0, 1, 0, 0, 1, 1, 1, 1, 1, 0, 1, 0, 0], .inBlock 2, codeC Tryd.prog 7 [1, 1, 1, 0, 1, 0, 0, 1, 0, 0, 1, 1, 1, 1, 1, 1], .inBlock 1, codeC Tryd.prog 7 [1, 1, 1, 0, 1, 0, 0, 1, 1], loopC Tryd.prog 7 [1, 1, 1, 0, 1, 0, 0], .inBlock 0, codeC Tryd.prog 7 [1, 1, 1, 1]] M := by
  intro v1 v7 v8 v12 v116 c43_1 l40 l47 l72 sv1 b43 s40 s47 r47 s72 r72 Fr M r hv1 hr47 hr72 hH h
  rw [law10_AlertChain_6] at h
  rcases btf (v116) with hc82 | hc82
  · have h := bif_t hc82 h
    refine Run.condT' rfl hc82 ?_
    refine Run.seq (Run.region ?_)
    refine Run.opG wantS_none (ex_assign rfl) rfl ?_
    refine Run.opsEnd ?_
    cases h
    exact Run.ret Tryd.func7 rfl (res_tmp rfl res_nil) rfl
  · have h := bif_f hc82 h
    refine Run.condF' rfl hc82 ?_
    refine Run.skip (Run.seq (Run.seq (Run.region ?_)))
    refine Run.opG wantS_none (ex_move rfl) rfl ?_
    refine Run.opG wantS_none (ex_eql rfl rfl) rfl ?_
    refine Run.opsEnd ?_
    rcases btf ((v12 == (0 : Int))) with hc83 | hc83
    · have h := bif_t hc83 h
      refine Run.condT' rfl hc83 ?_
      refine Run.exit rfl (Run.region ?_)
      exact Run.pick [1, 5, 7, 8, 11, 12] (law10_AlertChain_7_ok F hd5 hhd5 v1 v7 v8 v12 c43_1 l40 l47 l72 sv1 b43 s40 s47 r47 s72 r72 _ _ _ hv1 hr47 hr72 hH h)
    · have h := bif_f hc83 h
      refine Run.condF' rfl hc83 ?_
      refine Run.skip (Run.seq (Run.region ?_))
      refine Run.opG wantS_none (ex_move rfl) rfl ?_
      refine Run.opG wantS_none (ex_move rfl) rfl ?_
      refine Run.opG wantS_none (ex_sub rfl rfl) rfl ?_
      obtain ⟨x85, hx85, h⟩ := bnd_some h
      obtain ⟨p85, o85, hb85, hx85, he85⟩ := vec_elemR (P := Tryd.prog) (t := 70) (kk := .i64) hH (i := 3) rfl hx85 els70
      obtain ⟨_, hcs85, hln85, ⟨q85_0, rfl, hq85_0⟩⟩ := hr72.at he85
      refine Run.opG wantS_none (ex_elX rfl rfl hx85) rfl ?_
      refine Run.opG wantS_none (ex_loadA rfl (hH.atR (i := 3) rfl hb85 hcs85 hln85) rdLe_rfl agg29 rfl rfl rfl) rfl ?_
      obtain ⟨r87, hr87, h⟩ := bnd_some h
      refine Run.callP wantS_none (ex_call rfl mkk33 cal33) rfl (alert_Digest_ok F x85 q85_0 _ _ (hH.slcF hq85_0) (fixH hH (List.mem_of_getElem? (i := 4) rfl) (List.mem_of_getElem? (i := 5) rfl) (List.mem_of_getElem? (i := 6) rfl)) hr87) ?_
      refine Run.opG wantS_none (ex_move rfl) rfl ?_
      refine Run.opG wantS_none (ex_extract rfl rfl) rfl ?_
      refine Run.opG wantS_none (ex_extract rfl rfl) rfl ?_
      refine Run.opG wantS_none (ex_assign rfl) rfl ?_
      refine Run.opG wantS_none (ex_assign rfl) rfl ?_
      refine Run.opsEnd (Run.seq ?_)
      refine Run.drawG plan7_1_1_1_0_1_0_0_1_0_0_1_1_1_1_1_0_1_0_0_1_0_0_1_1_1_0 ?_
      refine DrawG.fl rfl (ev_ex wantS_none (ex_move rfl)) rfl ?_
      refine DrawG.fl rfl (ev_ex wantS_none (ex_neq rfl rfl)) rfl ?_
      refine DrawG.fl rfl (ev_ex wantS_none (ex_move rfl)) rfl ?_
      rcases btf ((!(r87.2 == (0 : Int)))) with hc89 | hc89
      · have h := bif_t hc89 h
        refine DrawG.fl rfl (ev_no (wantS_not' rfl rfl hc89)) rfl ?_
        refine DrawG.fl rfl (ev_no (wantS_not' rfl rfl hc89)) rfl ?_
        refine DrawG.fl rfl (ev_no (wantS_not' rfl rfl hc89)) rfl ?_
        refine DrawG.fl rfl (ev_no (wantS_not' rfl rfl hc89)) rfl ?_
        refine DrawG.fl rfl (ev_no (wantS_not' rfl rfl hc89)) rfl ?_
        refine DrawG.fl rfl (ev_no (wantS_not' rfl rfl hc89)) rfl ?_
        refine DrawG.fl rfl (ev_no (wantS_not' rfl rfl hc89)) rfl ?_
        refine DrawG.fl rfl (ev_ex wantS_none (ex_pickT' rfl hc89 rfl rfl)) rfl ?_
        refine DrawG.fl rfl (ev_ex wantS_none (ex_move rfl)) rfl ?_
        refine DrawG.fl rfl (ev_no (wantS_not' rfl rfl rfl)) rfl ?_
        refine DrawG.fl rfl (ev_no (wantS_not' rfl rfl rfl)) rfl ?_
        refine DrawG.fl rfl (ev_no (wantS_not' rfl rfl rfl)) rfl ?_
        refine DrawG.fl rfl (ev_no (wantS_not' rfl rfl rfl)) rfl ?_
        refine DrawG.fl rfl (ev_no (wantS_not' rfl rfl rfl)) rfl ?_
        refine DrawG.fl rfl (ev_no (wantS_not' rfl rfl rfl)) rfl ?_
        refine DrawG.fl rfl (ev_no (wantS_not' rfl rfl rfl)) rfl ?_
        refine DrawG.fl rfl (ev_no (wantS_not' rfl rfl rfl)) rfl ?_
        refine DrawG.fl rfl (ev_no (wantS_not' rfl rfl rfl)) rfl ?_
        refine DrawG.fl rfl (ev_no (wantS_not' rfl rfl rfl)) rfl ?_
        refine DrawG.fl rfl (ev_no (wantS_not' rfl rfl rfl)) rfl ?_
        refine DrawG.fl rfl (ev_no (wantS_not' rfl rfl rfl)) rfl ?_
        refine DrawG.fl rfl (ev_ex wantS_none (ex_pickT' rfl rfl rfl rfl)) rfl ?_
        refine DrawG.sync ?_
        refine DrawG.nil ?_
        exact Run.pick [1, 5, 7, 8, 11, 12, 152] (law10_AlertChain_8_ok F hd5 hhd5 v1 v7 v8 v12 true c43_1 l40 l47 l72 sv1 b43 s40 s47 r47 s72 r72 _ _ _ hv1 hr47 hr72 hH h)
      · have h := bif_f hc89 h
        refine DrawG.fl rfl (ev_ex (wantS_yes' rfl rfl hc89) (ex_move rfl)) rfl ?_
        refine DrawG.fl rfl (ev_ex (wantS_yes' rfl rfl hc89) (ex_move rfl)) rfl ?_
        obtain ⟨x91, hx91, h⟩ := bnd_some h
        obtain ⟨p91, o91, hb91, hx91, he91⟩ := vec_elemR (P := Tryd.prog) (t := 70) (kk := .i64) hH (i := 3) rfl hx91 els70
        obtain ⟨_, hcs91, hln91, ⟨q91_0, rfl, hq91_0⟩⟩ := hr72.at he91
        refine DrawG.fl rfl (ev_ex (wantS_yes' rfl rfl hc89) (ex_elX rfl rfl hx91)) rfl ?_
        refine DrawG.fl rfl (ev_ex (wantS_yes' rfl rfl hc89) (ex_fieldAddr rfl off29_7)) rfl ?_
        refine DrawG.fl rfl (ev_ex (wantS_yes' rfl rfl hc89) (ex_load1 rfl ((hH.atR (i := 3) rfl hb91 hcs91 hln91).fld (o := 8) rfl) rdLe_rfl agg3)) rfl ?_
        refine DrawG.fl rfl (ev_ex (wantS_yes' rfl rfl hc89) (ex_move rfl)) rfl ?_
        refine DrawG.fl rfl (ev_ex (wantS_yes' rfl rfl hc89) (ex_neq rfl rfl)) rfl ?_
        refine DrawG.fl rfl (ev_ex wantS_none (ex_pickF' rfl hc89 rfl rfl)) rfl ?_
        refine DrawG.fl rfl (ev_ex wantS_none (ex_move rfl)) rfl ?_
        rcases btf ((!(x91.Before == r87.1))) with hc92 | hc92
        · have h := bif_t hc92 h
          refine DrawG.fl rfl (ev_no (wantS_not' rfl rfl hc92)) rfl ?_
          refine DrawG.fl rfl (ev_no (wantS_not' rfl rfl hc92)) rfl ?_
          refine DrawG.fl rfl (ev_no (wantS_not' rfl rfl hc92)) rfl ?_
          refine DrawG.fl rfl (ev_no (wantS_not' rfl rfl hc92)) rfl ?_
          refine DrawG.fl rfl (ev_no (wantS_not' rfl rfl hc92)) rfl ?_
          refine DrawG.fl rfl (ev_no (wantS_not' rfl rfl hc92)) rfl ?_
          refine DrawG.fl rfl (ev_no (wantS_not' rfl rfl hc92)) rfl ?_
          refine DrawG.fl rfl (ev_no (wantS_not' rfl rfl hc92)) rfl ?_
          refine DrawG.fl rfl (ev_no (wantS_not' rfl rfl hc92)) rfl ?_
          refine DrawG.fl rfl (ev_no (wantS_not' rfl rfl hc92)) rfl ?_
          refine DrawG.fl rfl (ev_no (wantS_not' rfl rfl hc92)) rfl ?_
          refine DrawG.fl rfl (ev_no (wantS_not' rfl rfl hc92)) rfl ?_
          refine DrawG.fl rfl (ev_ex wantS_none (ex_pickT' rfl hc92 rfl rfl)) rfl ?_
          refine DrawG.sync ?_
          refine DrawG.nil ?_
          exact Run.pick [1, 5, 7, 8, 11, 12, 152] (law10_AlertChain_8_ok F hd5 hhd5 v1 v7 v8 v12 true c43_1 l40 l47 l72 sv1 b43 s40 s47 r47 s72 r72 _ _ _ hv1 hr47 hr72 hH h)
        · have h := bif_f hc92 h
          refine DrawG.fl rfl (ev_ex (wantS_yes' rfl rfl hc92) (ex_move rfl)) rfl ?_
          refine DrawG.fl rfl (ev_ex (wantS_yes' rfl rfl hc92) (ex_move rfl)) rfl ?_
          obtain ⟨x93, hx93, h⟩ := bnd_some h
          obtain ⟨p93, o93, hb93, hx93, he93⟩ := vec_elemR (P := Tryd.prog) (t := 70) (kk := .i64) hH (i := 3) rfl hx93 els70
          obtain ⟨_, hcs93, hln93, ⟨q93_0, rfl, hq93_0⟩⟩ := hr72.at he93
          refine DrawG.fl rfl (ev_ex (wantS_yes' rfl rfl hc92) (ex_elX rfl rfl hx93)) rfl ?_
          refine DrawG.fl rfl (ev_ex (wantS_yes' rfl rfl hc92) (ex_fieldAddr rfl off29_2)) rfl ?_
          refine DrawG.fl rfl (ev_ex (wantS_yes' rfl rfl hc92) (ex_load1 rfl ((hH.atR (i := 3) rfl hb93 hcs93 hln93).fld (o := 2) rfl) rdLe_rfl agg3)) rfl ?_
          refine DrawG.fl rfl (ev_ex (wantS_yes' rfl rfl hc92) (ex_move rfl)) rfl ?_
          refine DrawG.fl rfl (ev_ex (wantS_yes' rfl rfl hc92) (ex_move rfl)) rfl ?_
          refine DrawG.fl rfl (ev_ex (wantS_yes' rfl rfl hc92) (ex_sub rfl rfl)) rfl ?_
          obtain ⟨x94, hx94, h⟩ := bnd_some h
          obtain ⟨p94, o94, hb94, hx94, he94⟩ := vec_elemR (P := Tryd.prog) (t := 70) (kk := .i64) hH (i := 3) rfl hx94 els70
          obtain ⟨_, hcs94, hln94, ⟨q94_0, rfl, hq94_0⟩⟩ := hr72.at he94
          refine DrawG.fl rfl (ev_ex (wantS_yes' rfl rfl hc92) (ex_elX rfl rfl hx94)) rfl ?_
          refine DrawG.fl rfl (ev_ex (wantS_yes' rfl rfl hc92) (ex_fieldAddr rfl off29_2)) rfl ?_
          refine DrawG.fl rfl (ev_ex (wantS_yes' rfl rfl hc92) (ex_load1 rfl ((hH.atR (i := 3) rfl hb94 hcs94 hln94).fld (o := 2) rfl) rdLe_rfl agg3)) rfl ?_
          refine DrawG.fl rfl (ev_ex (wantS_yes' rfl rfl hc92) (ex_lss rfl rfl)) rfl ?_
          refine DrawG.fl rfl (ev_ex wantS_none (ex_pickF' rfl hc92 rfl rfl)) rfl ?_
          refine DrawG.sync ?_
          refine DrawG.nil ?_
          exact Run.pick [1, 5, 7, 8, 11, 12, 152] (law10_AlertChain_8_ok F hd5 hhd5 v1 v7 v8 v12 (decide (x93.Time < x94.Time)) c43_1 l40 l47 l72 sv1 b43 s40 s47 r47 s72 r72 _ _ _ hv1 hr47 hr72 hH h)

def law10_AlertChain_9 (F : Nat) (hd5 : (List S_api_Notice) → Int → (List UInt8) → Int → Int → (List S_api_Key) → (List S_api_Notice) → (List S_api_Alert) → Option (Bool)) (v1 : (List S_api_Notice)) (v7 : Int) (v8 : (List UInt8)) (v12 : Int) (v103 v115 : Bool) (c43_1 : Int) (l40 : (List S_api_Key)) (l47 : (List S_api_Notice)) (l72 : (List S_api_Alert)) : Option (Bool) :=
  law10_AlertChain_6 F hd5 v1 v7 v8 v12 (bif v103 then true else v115) c43_1 l40 l47 l72

theorem law10_AlertChain_9_ok (F : Nat) (hd5 : (List S_api_Notice) → Int → (List UInt8) → Int → Int → (List S_api_Key) → (List S_api_Notice) → (List S_api_Alert) → Option (Bool)) (hhd5 : ∀ (v1 : (List S_api_Notice)) (v7 : Int) (v8 : (List UInt8)) (v12 c43_1 : Int) (l40 : (List S_api_Key)) (l47 : (List S_api_Notice)) (l72 : (List S_api_Alert)) (sv1 : SV) (b43 : Pos) (s40 s47 : SV) (r47 : (List SV)) (s72 : SV) (r72 : (List SV)) (Fr : Rd) (M : Mem) (r : Bool) (hv1 : Slc Fr 10 (rep46 Fr) sv1 v1) (hr47 : Rows (rep46 Fr) 10 r47 l47) (hr72 : Rows (rep29 Fr) 9 r72 l72) (hH : Has Fr M [.obj b43 (.row 103 .whole [s40, (.int .i64 c43_1), s47, (.ptr b43 0)]), .vec 79 2 l40.length s40 (l40.flatMap enc79), .vec 46 10 l47.length s47 r47, .vec 29 9 l72.length s72 r72, tb0, tb1, tb2]), hd5 v1 v7 v8 v12 c43_1 l40 l47 l72 = some r → Run Tryd.prog ⟨⟨7, [], none⟩, []⟩ 201 (law10_AlertChain_post r) [(1, sv1), (5, (.ptr b43 0)), (7, (.int .i64 v7)), (8, (.str v8)), (11, s72), (12, (.int .i64 v12))] [codeC Tryd.prog 7 [1, 1, 1, 0, 1, 0, 0, 1, 0, 0, 1, 1, 1, 1, 1, 0, 1, 0, 0], loopC Tryd.prog 7 [1, 1, 1, 0, 1, 0, 0, 1, 0, 0, 1, 1, 1, 1, 1, 0, 1, 0, 0], .inBlock 2, codeC Tryd.prog 7 [1, 1, 1, 0, 1, 0, 0, 1, 0, 0, 1, 1, 1, 1, 1, 1], .inBlock 1, codeC Tryd.prog 7 [1, 1, 1, 0, 1, 0, 0, 1, 1], loopC Tryd.prog 7 [1, 1, 1, 0, 1, 0, 0], .inBlock 0, codeC Tryd.prog 7 [1, 1, 1, 1]] M) : ∀ (v1 : (List S_api_Notice)) (v7 : Int) (v8 : (List UInt8)) (v12 : Int) (v103 v115 : Bool) (c43_1 : Int) (l40 : (List S_api_Key)) (l47 : (List S_api_Notice)) (l72 : (List S_api_Alert)) (sv1 : SV) (b43 : Pos) (s40 s47 : SV) (r47 : (List SV)) (s72 : SV) (r72 : (List SV)) (Fr : Rd) (M : Mem) (r : Bool) (hv1 : Slc Fr 10 (rep46 Fr) sv1 v1) (hr47 : Rows (rep46 Fr) 10 r47 l47) (hr72 : Rows (rep29 Fr) 9 r72 l72) (hH : Has Fr M [.obj b43 (.row 103 .whole [s40, (.int .i64 c43_1), s47, (.ptr b43 0)]), .vec 79 2 l40.length s40 (l40.flatMap enc79), .vec 46 10 l47.length s47 r47, .vec 29 9 l72.length s72 r72, tb0, tb1, tb2]), law10_AlertChain_9 F hd5 v1 v7 v8 v12 v103 v115 c43_1 l40 l47 l72 = some r → Run Tryd.prog ⟨⟨7, [], none⟩, []⟩ 201 (law10_AlertChain_post r) [(1, sv1), (5, (.ptr b43 0)), (7, (.int .i64 v7)), (8, (.str v8)), (11, s72), (12, (.int .i64 v12)), (103, (.bool v103)), (115, (.bool v115))] [itemC Tryd.prog 7 [1, 1, 1, 0, 1, 0, 0, 1, 0, 0, 1, 1, 1, 1, 1, 0, 1, 0, 0, 1, 0, 0, 0, 0] 21, codeC Tryd.prog 7 [1, 1, 1, 0, 1, 0, 0, 1, 0, 0, 1, 1, 1, 1, 1, 0, 1, 0, 0, 1, 0, 0, 0, 1], codeC Tryd.prog 7 [1, 1, 1, 0, 1, 0, 0, 1, 0, 0, 1, 1, 1, 1, 1, 0, 1, 0, 0, 1, 0, 0, 1], .inBlock 3, codeC Tryd.prog 7 [1, 1, 1, 0, 1, 0, 0, 1, 0, 0, 1, 1, 1, 1, 1, 0, 1, 0, 0, 1, 1], loopC Tryd.prog 7 [1, 1, 1, 0, 1, 0, 0, 1, 0, 0, 1, 1, 1, 1, 1, 0, 1, 0, 0], .inBlock 2, codeC Tryd.prog 7 [1, 1, 1, 0, 1, 0, 0, 1, 0, 0, 1, 1, 1, 1, 1, 1], .inBlock 1, codeC Tryd.prog 7 [1, 1, 1, 0, 1, 0, 0, 1, 1], loopC Tryd.prog 7 [1, 1, 1, 0, 1, 0, 0], .inBlock 0, codeC Tryd.prog 7 [1, 1, 1, 1]] M := by
  intro v1 v7 v8 v12 v103 v115 c43_1 l40 l47 l72 sv1 b43 s40 s47 r47 s72 r72 Fr M r hv1 hr47 hr72 hH h
  rw [law10_AlertChain_9] at h
  refine Run.opG wantS_none (ex_pickB rfl rfl rfl) rfl ?_
  refine Run.opsEnd ?_
  exact Run.pick [1, 5, 7, 8, 11, 12, 116] (law10_AlertChain_6_ok F hd5 hhd5 v1 v7 v8 v12 (bif v103 then true else v115) c43_1 l40 l47 l72 sv1 b43 s40 s47 r47 s72 r72 _ _ _ hv1 hr47 hr72 hH h)

def law10_AlertChain_10 (F : Nat) (hd1 : (List S_api_Notice) → Int → Int → (List S_api_Key) → (List S_api_Notice) → Option (Bool)) (v1 : (List S_api_Notice)) (v7 : Int) (v199 : Bool) (c43_1 : Int) (l40 : (List S_api_Key)) (l47 : (List S_api_Notice)) : Option (Bool) :=
  bif v199 then
    some false
  else
    hd1 v1 (w64 (v7 + (1 : Int))) c43_1 l40 l47

theorem law10_AlertChain_10_ok (F : Nat) (hd1 : (List S_api_Notice) → Int → Int → (List S_api_Key) → (List S_api_Notice) → Option (Bool)) (hhd1 : ∀ (v1 : (List S_api_Notice)) (v7 c43_1 : Int) (l40 : (List S_api_Key)) (l47 : (List S_api_Notice)) (sv1 : SV) (b43 : Pos) (s40 s47 : SV) (r47 : (List SV)) (Fr : Rd) (M : Mem) (r : Bool) (hv1 : Slc Fr 10 (rep46 Fr) sv1 v1) (hr47 : Rows (rep46 Fr) 10 r47 l47) (hH : Has Fr M [.obj b43 (.row 103 .whole [s40, (.int .i64 c43_1), s47, (.ptr b43 0)]), .vec 79 2 l40.length s40 (l40.flatMap enc79), .vec 46 10 l47.length s47 r47, tb0, tb1, tb2]), hd1 v1 v7 c43_1 l40 l47 = some r → Run Tryd.prog ⟨⟨7, [], none⟩, []⟩ 201 (law10_AlertChain_post r) [(1, sv1), (5, (.ptr b43 0)), (7, (.int .i64 v7))] [codeC Tryd.prog 7 [1, 1, 1, 0, 1, 0, 0], loopC Tryd.prog 7 [1, 1, 1, 0, 1, 0, 0], .inBlock 0, codeC Tryd.prog 7 [1, 1, 1, 1]] M) : ∀ (v1 : (List S_api_Notice)) (v7 : Int) (v199 : Bool) (c43_1 : Int) (l40 : (List S_api_Key)) (l47 : (List S_api_Notice)) (sv1 : SV) (b43 : Pos) (s40 s47 : SV) (r47 : (List SV)) (Fr : Rd) (M : Mem) (r : Bool) (hv1 : Slc Fr 10 (rep46 Fr) sv1 v1) (hr47 : Rows (rep46 Fr) 10 r47 l47) (hH : Has Fr M [.obj b43 (.row 103 .whole [s40, (.int .i64 c43_1), s47, (.ptr b43 0)]), .vec 79 2 l40.length s40 (l40.flatMap enc79), .vec 46 10 l47.length s47 r47, tb0, tb1, tb2]), law10_AlertChain_10 F hd1 v1 v7 v199 c43_1 l40 l47 = some r → Run Tryd.prog ⟨⟨7, [], none⟩, []⟩ 201 (law10_AlertChain_post r) [(1, sv1), (5, (.ptr b43 0)), (7, (.int .i64 v7)), (199, (.bool v199))] [codeC Tryd.prog 7 [1, 1, 1, 0, 1, 0, 0, 1, 0, 0, 1, 1, 1, 1, 1, 1, 1, 1, 1], .inBlock 1, codeC Tryd.prog 7 [1, 1, 1, 0, 1, 0, 0, 1, 1], loopC Tryd.prog 7 [1, 1, 1, 0, 1, 0, 0], .inBlock 0, codeC Tryd.prog 7 [1, 1, 1, 1]] M := by
  intro v1 v7 v199 c43_1 l40 l47 sv1 b43 s40 s47 r47 Fr M r hv1 hr47 hH h
  rw [law10_AlertChain_10] at h
  rcases btf (v199) with hc108 | hc108
  · have h := bif_t hc108 h
    refine Run.condT' rfl hc108 ?_
    refine Run.seq (Run.region ?_)
    refine Run.opG wantS_none (ex_assign rfl) rfl ?_
    refine Run.opsEnd ?_
    cases h
    exact Run.ret Tryd.func7 rfl (res_tmp rfl res_nil) rfl
  · have h := bif_f hc108 h
    refine Run.condF' rfl hc108 ?_
    refine Run.skip (Run.inBlock (Run.region ?_))
    refine Run.opG wantS_none (ex_move rfl) rfl ?_
    refine Run.opG wantS_none (ex_add rfl rfl) rfl ?_
    refine Run.opG wantS_none (ex_assign rfl) rfl ?_
    refine Run.opsEnd (Run.inLoop ?_)
    exact Run.pick [1, 5, 7] (hhd1 v1 (w64 (v7 + (1 : Int))) c43_1 l40 l47 sv1 b43 s40 s47 r47 _ _ _ hv1 hr47 hH h)

def law10_AlertChain_5 (F : Nat) (hd1 : (List S_api_Notice) → Int → Int → (List S_api_Key) → (List S_api_Notice) → Option (Bool)) : Nat → (List S_api_Notice) → Int → (List UInt8) → Int → Int → (List S_api_Key) → (List S_api_Notice) → (List S_api_Alert) → Option (Bool)
  | 0, _, _, _, _, _, _, _, _ => none
  | N + 1, v1, v7, v8, v12, c43_1, l40, l47, l72 =>
    bif (decide (v12 < (l72.length : Int))) then
      bnd (idx l72 v12) fun x80 =>
      bif (!(x80.Version == (w64 (v12 + (1 : Int))))) then
        law10_AlertChain_6 F (law10_AlertChain_5 F hd1 N) v1 v7 v8 v12 true c43_1 l40 l47 l72
      else
        bif (decide ((w64 (v12 + (1 : Int))) < (l72.length : Int))) then
          bnd (idx l72 v12) fun x97 =>
          law10_AlertChain_9 F (law10_AlertChain_5 F hd1 N) v1 v7 v8 v12 (!(x80.Version == (w64 (v12 + (1 : Int))))) x97.Withdrawn c43_1 l40 l47 l72
        else
          law10_AlertChain_9 F (law10_AlertChain_5 F hd1 N) v1 v7 v8 v12 (!(x80.Version == (w64 (v12 + (1 : Int))))) false c43_1 l40 l47 l72
    else
      bnd (alert_Board_Force_h2 F v8 c43_1 l40 l47) fun r99 =>
      bif (decide ((0 : Int) < (l72.length : Int))) then
        bnd (idx l72 (w64 ((l72.length : Int) - (1 : Int)))) fun x106 =>
        bif (!(x106.Withdrawn == (r99.2.2.2.2.2.2.2.2.2 == (107 : Int)))) then
          law10_AlertChain_10 F hd1 v1 v7 true c43_1 l40 l47
        else
          bif (r99.2.2.2.2.2.2.2.2.2 == (0 : Int)) then
            bnd (idx l72 (w64 ((l72.length : Int) - (1 : Int)))) fun x110 =>
            bnd (law10_same F (S_api_Alert.mk r99.1 r99.2.1 r99.2.2.1 (S_api_Chance.mk r99.2.2.2.1 r99.2.2.2.2.1) r99.2.2.2.2.2.1 r99.2.2.2.2.2.2.1 r99.2.2.2.2.2.2.2.1 r99.2.2.2.2.2.2.2.2.1) x110) fun r111 =>
            bif (!r111) then
              law10_AlertChain_10 F hd1 v1 v7 true c43_1 l40 l47
            else
              bif ((l72.length : Int) == (0 : Int)) then
                law10_AlertChain_10 F hd1 v1 v7 (!(r99.2.2.2.2.2.2.2.2.2 == (4 : Int))) c43_1 l40 l47
              else
                law10_AlertChain_10 F hd1 v1 v7 false c43_1 l40 l47
          else
            bif ((l72.length : Int) == (0 : Int)) then
              law10_AlertChain_10 F hd1 v1 v7 (!(r99.2.2.2.2.2.2.2.2.2 == (4 : Int))) c43_1 l40 l47
            else
              law10_AlertChain_10 F hd1 v1 v7 false c43_1 l40 l47
      else
        bif ((l72.length : Int) == (0 : Int)) then
          law10_AlertChain_10 F hd1 v1 v7 (!(r99.2.2.2.2.2.2.2.2.2 == (4 : Int))) c43_1 l40 l47
        else
          law10_AlertChain_10 F hd1 v1 v7 false c43_1 l40 l47

theorem law10_AlertChain_5_ok (F : Nat) (hd1 : (List S_api_Notice) → Int → Int → (List S_api_Key) → (List S_api_Notice) → Option (Bool)) (hhd1 : ∀ (v1 : (List S_api_Notice)) (v7 c43_1 : Int) (l40 : (List S_api_Key)) (l47 : (List S_api_Notice)) (sv1 : SV) (b43 : Pos) (s40 s47 : SV) (r47 : (List SV)) (Fr : Rd) (M : Mem) (r : Bool) (hv1 : Slc Fr 10 (rep46 Fr) sv1 v1) (hr47 : Rows (rep46 Fr) 10 r47 l47) (hH : Has Fr M [.obj b43 (.row 103 .whole [s40, (.int .i64 c43_1), s47, (.ptr b43 0)]), .vec 79 2 l40.length s40 (l40.flatMap enc79), .vec 46 10 l47.length s47 r47, tb0, tb1, tb2]), hd1 v1 v7 c43_1 l40 l47 = some r → Run Tryd.prog ⟨⟨7, [], none⟩, []⟩ 201 (law10_AlertChain_post r) [(1, sv1), (5, (.ptr b43 0)), (7, (.int .i64 v7))] [codeC Tryd.prog 7 [1, 1, 1, 0, 1, 0, 0], loopC Tryd.prog 7 [1, 1, 1, 0, 1, 0, 0], .inBlock 0, codeC Tryd.prog 7 [1, 1, 1, 1]] M) : ∀ (N : Nat), ∀ (v1 : (List S_api_Notice)) (v7 : Int) (v8 : (List UInt8)) (v12 c43_1 : Int) (l40 : (List S_api_Key)) (l47 : (List S_api_Notice)) (l72 : (List S_api_Alert)) (sv1 : SV) (b43 : Pos) (s40 s47 : SV) (r47 : (List SV)) (s72 : SV) (r72 : (List SV)) (Fr : Rd) (M : Mem) (r : Bool) (hv1 : Slc Fr 10 (rep46 Fr) sv1 v1) (hr47 : Rows (rep46 Fr) 10 r47 l47) (hr72 : Rows (rep29 Fr) 9 r72 l72) (hH : Has Fr M [.obj b43 (.row 103 .whole [s40, (.int .i64 c43_1), s47, (.ptr b43 0)]), .vec 79 2 l40.length s40 (l40.flatMap enc79), .vec 46 10 l47.length s47 r47, .vec 29 9 l72.length s72 r72, tb0, tb1, tb2]), law10_AlertChain_5 F hd1 N v1 v7 v8 v12 c43_1 l40 l47 l72 = some r → Run Tryd.prog ⟨⟨7, [], none⟩, []⟩ 201 (law10_AlertChain_post r) [(1, sv1), (5, (.ptr b43 0)), (7, (.int .i64 v7)), (8, (.str v8)), (11, s72), (12, (.int .i64 v12))] [codeC Tryd.prog 7 [1, 1, 1, 0, 1, 0, 0, 1, 0, 0, 1, 1, 1, 1, 1, 0, 1, 0, 0], loopC Tryd.prog 7 [1, 1, 1, 0, 1, 0, 0, 1, 0, 0, 1, 1, 1, 1, 1, 0, 1, 0, 0], .inBlock 2, codeC Tryd.prog 7 [1, 1, 1, 0, 1, 0, 0, 1, 0, 0, 1, 1, 1, 1, 1, 1], .inBlock 1, codeC Tryd.prog 7 [1, 1, 1, 0, 1, 0, 0, 1, 1], loopC Tryd.prog 7 [1, 1, 1, 0, 1, 0, 0], .inBlock 0, codeC Tryd.prog 7 [1, 1, 1, 1]] M := by
  intro N
  induction N with
  | zero =>
    intro v1 v7 v8 v12 c43_1 l40 l47 l72 sv1 b43 s40 s47 r47 s72 r72 Fr M r hv1 hr47 hr72 hH h
    simp [law10_AlertChain_5] at h
  | succ N ih =>
    intro v1 v7 v8 v12 c43_1 l40 l47 l72 sv1 b43 s40 s47 r47 s72 r72 Fr M r hv1 hr47 hr72 hH h
    rw [law10_AlertChain_5] at h
    refine Run.seq (Run.seq (Run.region ?_))
    refine Run.opG wantS_none (ex_move rfl) rfl ?_
    refine Run.opG wantS_none (ex_move rfl) rfl ?_
    refine Run.opG wantS_none (ex_len' rfl (hH.slcR (i := 3) rfl hr72) lenk70) rfl ?_
    refine Run.opG wantS_none (ex_lss rfl rfl) rfl ?_
    refine Run.opsEnd ?_
    rcases btf ((decide (v12 < (l72.length : Int)))) with hc78 | hc78
    · have h := bif_t hc78 h
      refine Run.condT' rfl hc78 ?_
      refine Run.skip (Run.seq (Run.block (Run.seq (Run.seq (Run.region ?_)))))
      refine Run.opG wantS_none (ex_move rfl) rfl ?_
      refine Run.opG wantS_none (ex_move rfl) rfl ?_
      obtain ⟨x80, hx80, h⟩ := bnd_some h
      obtain ⟨p80, o80, hb80, hx80, he80⟩ := vec_elemR (P := Tryd.prog) (t := 70) (kk := .i64) hH (i := 3) rfl hx80 els70
      obtain ⟨_, hcs80, hln80, ⟨q80_0, rfl, hq80_0⟩⟩ := hr72.at he80
      refine Run.opG wantS_none (ex_elX rfl rfl hx80) rfl ?_
      refine Run.opG wantS_none (ex_fieldAddr rfl off29_1) rfl ?_
      refine Run.opG wantS_none (ex_load1 rfl ((hH.atR (i := 3) rfl hb80 hcs80 hln80).fld (o := 1) rfl) rdLe_rfl agg3) rfl ?_
      refine Run.opG wantS_none (ex_move rfl) rfl ?_
      refine Run.opG wantS_none (ex_add rfl rfl) rfl ?_
      refine Run.opG wantS_none (ex_neq rfl rfl) rfl ?_
      refine Run.opG wantS_none (ex_move rfl) rfl ?_
      rcases btf ((!(x80.Version == (w64 (v12 + (1 : Int)))))) with hc81 | hc81
      · have h := bif_t hc81 h
        refine Run.no (wantS_not' rfl rfl hc81) rfl ?_
        refine Run.no (wantS_not' rfl rfl hc81) rfl ?_
        refine Run.no (wantS_not' rfl rfl hc81) rfl ?_
        refine Run.no (wantS_not' rfl rfl hc81) rfl ?_
        refine Run.no (wantS_not' rfl rfl hc81) rfl ?_
        refine Run.no (wantS_not' rfl rfl hc81) rfl ?_
        refine Run.no (wantS_skip rfl rfl) rfl ?_
        refine Run.no (wantS_skip rfl rfl) rfl ?_
        refine Run.no (wantS_skip rfl rfl) rfl ?_
        refine Run.no (wantS_skip rfl rfl) rfl ?_
        refine Run.no (wantS_skip rfl rfl) rfl ?_
        refine Run.no (wantS_not' rfl rfl hc81) rfl ?_
        refine Run.opG wantS_none (ex_pickT' rfl hc81 rfl rfl) rfl ?_
        refine Run.opsEnd ?_
        exact Run.pick [1, 5, 7, 8, 11, 12, 116] (law10_AlertChain_6_ok F (law10_AlertChain_5 F hd1 N) ih v1 v7 v8 v12 true c43_1 l40 l47 l72 sv1 b43 s40 s47 r47 s72 r72 _ _ _ hv1 hr47 hr72 hH h)
      · have h := bif_f hc81 h
        refine Run.opG (wantS_yes' rfl rfl hc81) (ex_move rfl) rfl ?_
        refine Run.opG (wantS_yes' rfl rfl hc81) (ex_add rfl rfl) rfl ?_
        refine Run.opG (wantS_yes' rfl rfl hc81) (ex_move rfl) rfl ?_
        refine Run.opG (wantS_yes' rfl rfl hc81) (ex_len' rfl (hH.slcR (i := 3) rfl hr72) lenk70) rfl ?_
        refine Run.opG (wantS_yes' rfl rfl hc81) (ex_lss rfl rfl) rfl ?_
        refine Run.opG (wantS_yes' rfl rfl hc81) (ex_move rfl) rfl ?_
        rcases btf ((decide ((w64 (v12 + (1 : Int))) < (l72.length : Int)))) with hc95 | hc95
        · have h := bif_t hc95 h
          refine Run.opG (wantS_yes' rfl rfl hc95) (ex_move rfl) rfl ?_
          refine Run.opG (wantS_yes' rfl rfl hc95) (ex_move rfl) rfl ?_
          obtain ⟨x97, hx97, h⟩ := bnd_some h
          obtain ⟨p97, o97, hb97, hx97, he97⟩ := vec_elemR (P := Tryd.prog) (t := 70) (kk := .i64) hH (i := 3) rfl hx97 els70
          obtain ⟨_, hcs97, hln97, ⟨q97_0, rfl, hq97_0⟩⟩ := hr72.at he97
          refine Run.opG (wantS_yes' rfl rfl hc95) (ex_elX rfl rfl hx97) rfl ?_
          refine Run.opG (wantS_yes' rfl rfl hc95) (ex_fieldAddr rfl off29_6) rfl ?_
          refine Run.opG (wantS_yes' rfl rfl hc95) (ex_load1 rfl ((hH.atR (i := 3) rfl hb97 hcs97 hln97).fld (o := 7) rfl) rdLe_rfl agg4) rfl ?_
          refine Run.opG (wantS_yes' rfl rfl hc81) (ex_pickT' rfl hc95 rfl rfl) rfl ?_
          exact Run.pick [1, 5, 7, 8, 11, 12, 103, 115] (law10_AlertChain_9_ok F (law10_AlertChain_5 F hd1 N) ih v1 v7 v8 v12 (!(x80.Version == (w64 (v12 + (1 : Int))))) x97.Withdrawn c43_1 l40 l47 l72 sv1 b43 s40 s47 r47 s72 r72 _ _ _ hv1 hr47 hr72 hH h)
        · have h := bif_f hc95 h
          refine Run.no (wantS_not' rfl rfl hc95) rfl ?_
          refine Run.no (wantS_not' rfl rfl hc95) rfl ?_
          refine Run.no (wantS_not' rfl rfl hc95) rfl ?_
          refine Run.no (wantS_not' rfl rfl hc95) rfl ?_
          refine Run.no (wantS_not' rfl rfl hc95) rfl ?_
          refine Run.opG (wantS_yes' rfl rfl hc81) (ex_pickF' rfl hc95 rfl rfl) rfl ?_
          exact Run.pick [1, 5, 7, 8, 11, 12, 103, 115] (law10_AlertChain_9_ok F (law10_AlertChain_5 F hd1 N) ih v1 v7 v8 v12 (!(x80.Version == (w64 (v12 + (1 : Int))))) false c43_1 l40 l47 l72 sv1 b43 s40 s47 r47 s72 r72 _ _ _ hv1 hr47 hr72 hH h)
    · have h := bif_f hc78 h
      refine Run.condF' rfl hc78 ?_
      refine Run.exit rfl (Run.seq (Run.region ?_))
      refine Run.opG wantS_none (ex_move rfl) rfl ?_
      refine Run.opG wantS_none (ex_move rfl) rfl ?_
      obtain ⟨r99, hr99, h⟩ := bnd_some h
      refine Run.callX wantS_none (ex_call rfl mkk34 cal34) rfl (alert_Board_Force_h2_ok F v8 c43_1 l40 l47 b43 s40 s47 r47 Fr [.vec 29 9 l72.length s72 r72] _ _ hr47 (hH.pick [0, 1, 2, 4, 5, 6, 3] rfl rfl) hr99) ?_
      rintro _ M100 ⟨s99_0, rfl, F99, hle99, hq99_0, (hH100 : Has F99 M100 [.obj b43 (.row 103 .whole [s40, (.int .i64 c43_1), s47, (.ptr b43 0)]), .vec 79 2 l40.length s40 (l40.flatMap enc79), .vec 46 10 l47.length s47 r47, tb0, tb1, tb2, .vec 29 9 l72.length s72 r72])⟩
      replace hv1 := hv1.mono hle99 (fun _ _ => rep46_mo hle99)
      replace hr47 := hr47.mono fun _ _ => rep46_mo hle99
      replace hr72 := hr72.mono fun _ _ => rep29_mo hle99
      refine Run.opG wantS_none (ex_move rfl) rfl ?_
      refine Run.opG wantS_none (ex_extract rfl rfl) rfl ?_
      refine Run.opG wantS_none (ex_extract rfl rfl) rfl ?_
      refine Run.opX wantS_none rfl (ExG.new (v := fun b => .ptr b 0) (ex_alloc zer29) hH100) ?_
      rintro _ M103 ⟨b102, rfl, hH103⟩
      refine Run.opX wantS_none rfl (ExG.storeC (c' := [(.str r99.1), (.int .i64 r99.2.1), (.int .i64 r99.2.2.1), (.int .i64 r99.2.2.2.1), (.int .i64 r99.2.2.2.2.1), (.int .i64 r99.2.2.2.2.2.1), s99_0, (.bool r99.2.2.2.2.2.2.2.1), (.int .i64 r99.2.2.2.2.2.2.2.2.1)]) rfl rfl rfl hH103 (i := 0) rfl sz29 rfl rfl rfl (ones_cons rfl (ones_cons rfl (ones_cons rfl (ones_cons rfl (ones_cons rfl (ones_cons rfl (ones_cons (slc_one hq99_0) (ones_cons rfl (ones_cons rfl ones_nil))))))))) rfl) ?_
      rintro _ M104 ⟨rfl, (hH104 : Has F99 M104 [.obj b102 (.row 29 .whole [(.str r99.1), (.int .i64 r99.2.1), (.int .i64 r99.2.2.1), (.int .i64 r99.2.2.2.1), (.int .i64 r99.2.2.2.2.1), (.int .i64 r99.2.2.2.2.2.1), s99_0, (.bool r99.2.2.2.2.2.2.2.1), (.int .i64 r99.2.2.2.2.2.2.2.2.1)]), .obj b43 (.row 103 .whole [s40, (.int .i64 c43_1), s47, (.ptr b43 0)]), .vec 79 2 l40.length s40 (l40.flatMap enc79), .vec 46 10 l47.length s47 r47, tb0, tb1, tb2, .vec 29 9 l72.length s72 r72])⟩
      refine Run.opG wantS_none (ex_assign rfl) rfl ?_
      refine Run.opsEnd (Run.seq (Run.region ?_))
      refine Run.opG wantS_none (ex_move rfl) rfl ?_
      refine Run.opG wantS_none (ex_len' rfl (hH104.slcR (i := 7) rfl hr72) lenk70) rfl ?_
      refine Run.opG wantS_none (ex_assign rfl) rfl ?_
      refine Run.opsEnd (Run.seq ?_)
      refine Run.drawG plan7_1_1_1_0_1_0_0_1_0_0_1_1_1_1_1_1_1_1_0 ?_
      refine DrawG.fl rfl (ev_ex wantS_none (ex_move rfl)) rfl ?_
      refine DrawG.fl rfl (ev_ex wantS_none (ex_gtr rfl rfl)) rfl ?_
      refine DrawG.fl rfl (ev_ex wantS_none (ex_move rfl)) rfl ?_
      rcases btf ((decide ((0 : Int) < (l72.length : Int)))) with hc105 | hc105
      · have h := bif_t hc105 h
        refine DrawG.fl rfl (ev_ex (wantS_yes' rfl rfl hc105) (ex_move rfl)) rfl ?_
        refine DrawG.fl rfl (ev_ex (wantS_yes' rfl rfl hc105) (ex_move rfl)) rfl ?_
        refine DrawG.fl rfl (ev_ex (wantS_yes' rfl rfl hc105) (ex_sub rfl rfl)) rfl ?_
        obtain ⟨x106, hx106, h⟩ := bnd_some h
        obtain ⟨p106, o106, hb106, hx106, he106⟩ := vec_elemR (P := Tryd.prog) (t := 70) (kk := .i64) hH104 (i := 7) rfl hx106 els70
        obtain ⟨_, hcs106, hln106, ⟨q106_0, rfl, hq106_0⟩⟩ := hr72.at he106
        refine DrawG.fl rfl (ev_ex (wantS_yes' rfl rfl hc105) (ex_elX rfl rfl hx106)) rfl ?_
        refine DrawG.fl rfl (ev_ex (wantS_yes' rfl rfl hc105) (ex_fieldAddr rfl off29_6)) rfl ?_
        refine DrawG.fl rfl (ev_ex (wantS_yes' rfl rfl hc105) (ex_load1 rfl ((hH104.atR (i := 7) rfl hb106 hcs106 hln106).fld (o := 7) rfl) rdLe_rfl agg4)) rfl ?_
        refine DrawG.fl rfl (ev_ex (wantS_yes' rfl rfl hc105) (ex_move rfl)) rfl ?_
        refine DrawG.fl rfl (ev_ex (wantS_yes' rfl rfl hc105) (ex_eql rfl rfl)) rfl ?_
        refine DrawG.fl rfl (ev_ex (wantS_yes' rfl rfl hc105) (ex_neqB rfl rfl eqk4)) rfl ?_
        refine DrawG.fl rfl (ev_ex wantS_none (ex_pickT' rfl hc105 rfl rfl)) rfl ?_
        refine DrawG.fl rfl (ev_ex wantS_none (ex_move rfl)) rfl ?_
        rcases btf ((!(x106.Withdrawn == (r99.2.2.2.2.2.2.2.2.2 == (107 : Int))))) with hc107 | hc107
        · have h := bif_t hc107 h
          refine DrawG.fl rfl (ev_no (wantS_not' rfl rfl hc107)) rfl ?_
          refine DrawG.fl rfl (ev_no (wantS_not' rfl rfl hc107)) rfl ?_
          refine DrawG.fl rfl (ev_no (wantS_not' rfl rfl hc107)) rfl ?_
          refine DrawG.fl rfl (ev_no (wantS_skip rfl rfl)) rfl ?_
          refine DrawG.fl rfl (ev_no (wantS_skip rfl rfl)) rfl ?_
          refine DrawG.fl rfl (ev_no (wantS_not' rfl rfl hc107)) rfl ?_
          refine DrawG.fl rfl (ev_no (wantS_not' rfl rfl hc107)) rfl ?_
          refine DrawG.fl rfl (ev_no (wantS_skip rfl rfl)) rfl ?_
          refine DrawG.fl rfl (ev_no (wantS_skip rfl rfl)) rfl ?_
          refine DrawG.fl rfl (ev_no (wantS_skip rfl rfl)) rfl ?_
          refine DrawG.fl rfl (ev_no (wantS_skip rfl rfl)) rfl ?_
          refine DrawG.fl rfl (ev_no (wantS_skip rfl rfl)) rfl ?_
          refine DrawG.fl rfl (ev_no (wantS_skip rfl rfl)) rfl ?_
          refine DrawG.no rfl (wantS_skip rfl rfl) rfl st_nil ?_
          refine DrawG.fl rfl (ev_no (wantS_skip rfl rfl)) rfl ?_
          refine DrawG.fl rfl (ev_no (wantS_not' rfl rfl hc107)) rfl ?_
          refine DrawG.fl rfl (ev_ex wantS_none (ex_pickT' rfl hc107 rfl rfl)) rfl ?_
          refine DrawG.fl rfl (ev_ex wantS_none (ex_move rfl)) rfl ?_
          refine DrawG.fl rfl (ev_no (wantS_not' rfl rfl rfl)) rfl ?_
          refine DrawG.fl rfl (ev_no (wantS_not' rfl rfl rfl)) rfl ?_
          refine DrawG.fl rfl (ev_no (wantS_not' rfl rfl rfl)) rfl ?_
          refine DrawG.fl rfl (ev_no (wantS_skip rfl rfl)) rfl ?_
          refine DrawG.fl rfl (ev_no (wantS_skip rfl rfl)) rfl ?_
          refine DrawG.fl rfl (ev_no (wantS_not' rfl rfl rfl)) rfl ?_
          refine DrawG.fl rfl (ev_ex wantS_none (ex_pickT' rfl rfl rfl rfl)) rfl ?_
          refine DrawG.sync ?_
          refine DrawG.nil ?_
          exact Run.pick [1, 5, 7, 199] (law10_AlertChain_10_ok F hd1 hhd1 v1 v7 true c43_1 l40 l47 sv1 b43 s40 s47 r47 _ _ _ hv1 hr47 (hH104.pick [1, 2, 3, 4, 5, 6] rfl rfl) h)
        · have h := bif_f hc107 h
          refine DrawG.fl rfl (ev_ex (wantS_yes' rfl rfl hc107) (ex_move rfl)) rfl ?_
          refine DrawG.fl rfl (ev_ex (wantS_yes' rfl rfl hc107) (ex_gtr rfl rfl)) rfl ?_
          refine DrawG.fl rfl (ev_ex (wantS_yes' rfl rfl hc107) (ex_move rfl)) rfl ?_
          refine DrawG.fl rfl (ev_ex (wantS_yes' rfl rfl hc105) (ex_move rfl)) rfl ?_
          refine DrawG.fl rfl (ev_ex (wantS_yes' rfl rfl hc105) (ex_eql rfl rfl)) rfl ?_
          refine DrawG.fl rfl (ev_ex (wantS_yes' rfl rfl hc107) (ex_pickT' rfl hc105 rfl rfl)) rfl ?_
          refine DrawG.fl rfl (ev_ex (wantS_yes' rfl rfl hc107) (ex_move rfl)) rfl ?_
          rcases btf ((r99.2.2.2.2.2.2.2.2.2 == (0 : Int))) with hc109 | hc109
          · have h := bif_t hc109 h
            refine DrawG.fl rfl (ev_ex (wantS_yes' rfl rfl hc109) (ex_loadA rfl (hH104.cells (i := 0) rfl 0 rfl) rdLe_rfl agg29 rfl rfl rfl)) rfl ?_
            refine DrawG.fl rfl (ev_ex (wantS_yes' rfl rfl hc109) (ex_move rfl)) rfl ?_
            refine DrawG.fl rfl (ev_ex (wantS_yes' rfl rfl hc109) (ex_move rfl)) rfl ?_
            refine DrawG.fl rfl (ev_ex (wantS_yes' rfl rfl hc109) (ex_sub rfl rfl)) rfl ?_
            obtain ⟨x110, hx110, h⟩ := bnd_some h
            obtain ⟨p110, o110, hb110, hx110, he110⟩ := vec_elemR (P := Tryd.prog) (t := 70) (kk := .i64) hH104 (i := 7) rfl hx110 els70
            obtain ⟨_, hcs110, hln110, ⟨q110_0, rfl, hq110_0⟩⟩ := hr72.at he110
            refine DrawG.fl rfl (ev_ex (wantS_yes' rfl rfl hc109) (ex_elX rfl rfl hx110)) rfl ?_
            refine DrawG.fl rfl (ev_ex (wantS_yes' rfl rfl hc109) (ex_loadA rfl (hH104.atR (i := 7) rfl hb110 hcs110 hln110) rdLe_rfl agg29 rfl rfl rfl)) rfl ?_
            obtain ⟨r111, hr111, h⟩ := bnd_some h
            refine DrawG.callP rfl (wantS_yes' rfl rfl hc109) (ex_call rfl mkk21 cal21) rfl (law10_same_ok F (S_api_Alert.mk r99.1 r99.2.1 r99.2.2.1 (S_api_Chance.mk r99.2.2.2.1 r99.2.2.2.2.1) r99.2.2.2.2.2.1 r99.2.2.2.2.2.2.1 r99.2.2.2.2.2.2.2.1 r99.2.2.2.2.2.2.2.2.1) x110 s99_0 q110_0 _ _ (hH104.slcF hq99_0) (hH104.slcF hq110_0) hr111) st_nil ?_
            refine DrawG.fl rfl (ev_ex (wantS_yes' rfl rfl hc109) (ex_not rfl)) rfl ?_
            refine DrawG.fl rfl (ev_ex (wantS_yes' rfl rfl hc107) (ex_pickT' rfl hc109 rfl rfl)) rfl ?_
            refine DrawG.fl rfl (ev_ex wantS_none (ex_pickF' rfl hc107 rfl rfl)) rfl ?_
            refine DrawG.fl rfl (ev_ex wantS_none (ex_move rfl)) rfl ?_
            rcases btf ((!r111)) with hc113 | hc113
            · have h := bif_t hc113 h
              refine DrawG.fl rfl (ev_no (wantS_not' rfl rfl hc113)) rfl ?_
              refine DrawG.fl rfl (ev_no (wantS_not' rfl rfl hc113)) rfl ?_
              refine DrawG.fl rfl (ev_no (wantS_not' rfl rfl hc113)) rfl ?_
              refine DrawG.fl rfl (ev_no (wantS_skip rfl rfl)) rfl ?_
              refine DrawG.fl rfl (ev_no (wantS_skip rfl rfl)) rfl ?_
              refine DrawG.fl rfl (ev_no (wantS_not' rfl rfl hc113)) rfl ?_
              refine DrawG.fl rfl (ev_ex wantS_none (ex_pickT' rfl hc113 rfl rfl)) rfl ?_
              refine DrawG.sync ?_
              refine DrawG.nil ?_
              exact Run.pick [1, 5, 7, 199] (law10_AlertChain_10_ok F hd1 hhd1 v1 v7 true c43_1 l40 l47 sv1 b43 s40 s47 r47 _ _ _ hv1 hr47 (hH104.pick [1, 2, 3, 4, 5, 6] rfl rfl) h)
            · have h := bif_f hc113 h
              refine DrawG.fl rfl (ev_ex (wantS_yes' rfl rfl hc113) (ex_move rfl)) rfl ?_
              refine DrawG.fl rfl (ev_ex (wantS_yes' rfl rfl hc113) (ex_eql rfl rfl)) rfl ?_
              refine DrawG.fl rfl (ev_ex (wantS_yes' rfl rfl hc113) (ex_move rfl)) rfl ?_
              rcases btf (((l72.length : Int) == (0 : Int))) with hc114 | hc114
              · have h := bif_t hc114 h
                refine DrawG.fl rfl (ev_ex (wantS_yes' rfl rfl hc114) (ex_move rfl)) rfl ?_
                refine DrawG.fl rfl (ev_ex (wantS_yes' rfl rfl hc114) (ex_neq rfl rfl)) rfl ?_
                refine DrawG.fl rfl (ev_ex (wantS_yes' rfl rfl hc113) (ex_pickT' rfl hc114 rfl rfl)) rfl ?_
                refine DrawG.fl rfl (ev_ex wantS_none (ex_pickF' rfl hc113 rfl rfl)) rfl ?_
                refine DrawG.sync ?_
                refine DrawG.nil ?_
                exact Run.pick [1, 5, 7, 199] (law10_AlertChain_10_ok F hd1 hhd1 v1 v7 (!(r99.2.2.2.2.2.2.2.2.2 == (4 : Int))) c43_1 l40 l47 sv1 b43 s40 s47 r47 _ _ _ hv1 hr47 (hH104.pick [1, 2, 3, 4, 5, 6] rfl rfl) h)
              · have h := bif_f hc114 h
                refine DrawG.fl rfl (ev_no (wantS_not' rfl rfl hc114)) rfl ?_
                refine DrawG.fl rfl (ev_no (wantS_not' rfl rfl hc114)) rfl ?_
                refine DrawG.fl rfl (ev_ex (wantS_yes' rfl rfl hc113) (ex_pickF' rfl hc114 rfl rfl)) rfl ?_
                refine DrawG.fl rfl (ev_ex wantS_none (ex_pickF' rfl hc113 rfl rfl)) rfl ?_
                refine DrawG.sync ?_
                refine DrawG.nil ?_
                exact Run.pick [1, 5, 7, 199] (law10_AlertChain_10_ok F hd1 hhd1 v1 v7 false c43_1 l40 l47 sv1 b43 s40 s47 r47 _ _ _ hv1 hr47 (hH104.pick [1, 2, 3, 4, 5, 6] rfl rfl) h)
          · have h := bif_f hc109 h
            refine DrawG.fl rfl (ev_no (wantS_not' rfl rfl hc109)) rfl ?_
            refine DrawG.fl rfl (ev_no (wantS_not' rfl rfl hc109)) rfl ?_
            refine DrawG.fl rfl (ev_no (wantS_not' rfl rfl hc109)) rfl ?_
            refine DrawG.fl rfl (ev_no (wantS_not' rfl rfl hc109)) rfl ?_
            refine DrawG.fl rfl (ev_no (wantS_not' rfl rfl hc109)) rfl ?_
            refine DrawG.fl rfl (ev_no (wantS_not' rfl rfl hc109)) rfl ?_
            refine DrawG.no rfl (wantS_not' rfl rfl hc109) rfl st_nil ?_
            refine DrawG.fl rfl (ev_no (wantS_not' rfl rfl hc109)) rfl ?_
            refine DrawG.fl rfl (ev_ex (wantS_yes' rfl rfl hc107) (ex_pickF' rfl hc109 rfl rfl)) rfl ?_
            refine DrawG.fl rfl (ev_ex wantS_none (ex_pickF' rfl hc107 rfl rfl)) rfl ?_
            refine DrawG.fl rfl (ev_ex wantS_none (ex_move rfl)) rfl ?_
            refine DrawG.fl rfl (ev_ex (wantS_yes' rfl rfl rfl) (ex_move rfl)) rfl ?_
            refine DrawG.fl rfl (ev_ex (wantS_yes' rfl rfl rfl) (ex_eql rfl rfl)) rfl ?_
            refine DrawG.fl rfl (ev_ex (wantS_yes' rfl rfl rfl) (ex_move rfl)) rfl ?_
            rcases btf (((l72.length : Int) == (0 : Int))) with hc115 | hc115
            · have h := bif_t hc115 h
              refine DrawG.fl rfl (ev_ex (wantS_yes' rfl rfl hc115) (ex_move rfl)) rfl ?_
              refine DrawG.fl rfl (ev_ex (wantS_yes' rfl rfl hc115) (ex_neq rfl rfl)) rfl ?_
              refine DrawG.fl rfl (ev_ex (wantS_yes' rfl rfl rfl) (ex_pickT' rfl hc115 rfl rfl)) rfl ?_
              refine DrawG.fl rfl (ev_ex wantS_none (ex_pickF' rfl rfl rfl rfl)) rfl ?_
              refine DrawG.sync ?_
              refine DrawG.nil ?_
              exact Run.pick [1, 5, 7, 199] (law10_AlertChain_10_ok F hd1 hhd1 v1 v7 (!(r99.2.2.2.2.2.2.2.2.2 == (4 : Int))) c43_1 l40 l47 sv1 b43 s40 s47 r47 _ _ _ hv1 hr47 (hH104.pick [1, 2, 3, 4, 5, 6] rfl rfl) h)
            · have h := bif_f hc115 h
              refine DrawG.fl rfl (ev_no (wantS_not' rfl rfl hc115)) rfl ?_
              refine DrawG.fl rfl (ev_no (wantS_not' rfl rfl hc115)) rfl ?_
              refine DrawG.fl rfl (ev_ex (wantS_yes' rfl rfl rfl) (ex_pickF' rfl hc115 rfl rfl)) rfl ?_
              refine DrawG.fl rfl (ev_ex wantS_none (ex_pickF' rfl rfl rfl rfl)) rfl ?_
              refine DrawG.sync ?_
              refine DrawG.nil ?_
              exact Run.pick [1, 5, 7, 199] (law10_AlertChain_10_ok F hd1 hhd1 v1 v7 false c43_1 l40 l47 sv1 b43 s40 s47 r47 _ _ _ hv1 hr47 (hH104.pick [1, 2, 3, 4, 5, 6] rfl rfl) h)
      · have h := bif_f hc105 h
        refine DrawG.fl rfl (ev_no (wantS_not' rfl rfl hc105)) rfl ?_
        refine DrawG.fl rfl (ev_no (wantS_not' rfl rfl hc105)) rfl ?_
        refine DrawG.fl rfl (ev_no (wantS_not' rfl rfl hc105)) rfl ?_
        refine DrawG.fl rfl (ev_no (wantS_not' rfl rfl hc105)) rfl ?_
        refine DrawG.fl rfl (ev_no (wantS_not' rfl rfl hc105)) rfl ?_
        refine DrawG.fl rfl (ev_no (wantS_not' rfl rfl hc105)) rfl ?_
        refine DrawG.fl rfl (ev_no (wantS_not' rfl rfl hc105)) rfl ?_
        refine DrawG.fl rfl (ev_no (wantS_not' rfl rfl hc105)) rfl ?_
        refine DrawG.fl rfl (ev_no (wantS_not' rfl rfl hc105)) rfl ?_
        refine DrawG.fl rfl (ev_ex wantS_none (ex_pickF' rfl hc105 rfl rfl)) rfl ?_
        refine DrawG.fl rfl (ev_ex wantS_none (ex_move rfl)) rfl ?_
        refine DrawG.fl rfl (ev_ex (wantS_yes' rfl rfl rfl) (ex_move rfl)) rfl ?_
        refine DrawG.fl rfl (ev_ex (wantS_yes' rfl rfl rfl) (ex_gtr rfl rfl)) rfl ?_
        refine DrawG.fl rfl (ev_ex (wantS_yes' rfl rfl rfl) (ex_move rfl)) rfl ?_
        refine DrawG.fl rfl (ev_no (wantS_not' rfl rfl hc105)) rfl ?_
        refine DrawG.fl rfl (ev_no (wantS_not' rfl rfl hc105)) rfl ?_
        refine DrawG.fl rfl (ev_ex (wantS_yes' rfl rfl rfl) (ex_pickF' rfl hc105 rfl rfl)) rfl ?_
        refine DrawG.fl rfl (ev_ex (wantS_yes' rfl rfl rfl) (ex_move rfl)) rfl ?_
        refine DrawG.fl rfl (ev_no (wantS_not' rfl rfl rfl)) rfl ?_
        refine DrawG.fl rfl (ev_no (wantS_not' rfl rfl rfl)) rfl ?_
        refine DrawG.fl rfl (ev_no (wantS_not' rfl rfl rfl)) rfl ?_
        refine DrawG.fl rfl (ev_no (wantS_not' rfl rfl rfl)) rfl ?_
        refine DrawG.fl rfl (ev_no (wantS_not' rfl rfl rfl)) rfl ?_
        refine DrawG.fl rfl (ev_no (wantS_not' rfl rfl rfl)) rfl ?_
        refine DrawG.no rfl (wantS_not' rfl rfl rfl) rfl st_nil ?_
        refine DrawG.fl rfl (ev_no (wantS_not' rfl rfl rfl)) rfl ?_
        refine DrawG.fl rfl (ev_ex (wantS_yes' rfl rfl rfl) (ex_pickF' rfl rfl rfl rfl)) rfl ?_
        refine DrawG.fl rfl (ev_ex wantS_none (ex_pickF' rfl rfl rfl rfl)) rfl ?_
        refine DrawG.fl rfl (ev_ex wantS_none (ex_move rfl)) rfl ?_
        refine DrawG.fl rfl (ev_ex (wantS_yes' rfl rfl rfl) (ex_move rfl)) rfl ?_
        refine DrawG.fl rfl (ev_ex (wantS_yes' rfl rfl rfl) (ex_eql rfl rfl)) rfl ?_
        refine DrawG.fl rfl (ev_ex (wantS_yes' rfl rfl rfl) (ex_move rfl)) rfl ?_
        rcases btf (((l72.length : Int) == (0 : Int))) with hc116 | hc116
        · have h := bif_t hc116 h
          refine DrawG.fl rfl (ev_ex (wantS_yes' rfl rfl hc116) (ex_move rfl)) rfl ?_
          refine DrawG.fl rfl (ev_ex (wantS_yes' rfl rfl hc116) (ex_neq rfl rfl)) rfl ?_
          refine DrawG.fl rfl (ev_ex (wantS_yes' rfl rfl rfl) (ex_pickT' rfl hc116 rfl rfl)) rfl ?_
          refine DrawG.fl rfl (ev_ex wantS_none (ex_pickF' rfl rfl rfl rfl)) rfl ?_
          refine DrawG.sync ?_
          refine DrawG.nil ?_
          exact Run.pick [1, 5, 7, 199] (law10_AlertChain_10_ok F hd1 hhd1 v1 v7 (!(r99.2.2.2.2.2.2.2.2.2 == (4 : Int))) c43_1 l40 l47 sv1 b43 s40 s47 r47 _ _ _ hv1 hr47 (hH104.pick [1, 2, 3, 4, 5, 6] rfl rfl) h)
        · have h := bif_f hc116 h
          refine DrawG.fl rfl (ev_no (wantS_not' rfl rfl hc116)) rfl ?_
          refine DrawG.fl rfl (ev_no (wantS_not' rfl rfl hc116)) rfl ?_
          refine DrawG.fl rfl (ev_ex (wantS_yes' rfl rfl rfl) (ex_pickF' rfl hc116 rfl rfl)) rfl ?_
          refine DrawG.fl rfl (ev_ex wantS_none (ex_pickF' rfl rfl rfl rfl)) rfl ?_
          refine DrawG.sync ?_
          refine DrawG.nil ?_
          exact Run.pick [1, 5, 7, 199] (law10_AlertChain_10_ok F hd1 hhd1 v1 v7 false c43_1 l40 l47 sv1 b43 s40 s47 r47 _ _ _ hv1 hr47 (hH104.pick [1, 2, 3, 4, 5, 6] rfl rfl) h)

def law10_AlertChain_4 (F : Nat) (hd1 : (List S_api_Notice) → Int → Int → (List S_api_Key) → (List S_api_Notice) → Option (Bool)) (v1 : (List S_api_Notice)) (v7 : Int) (v8 : (List UInt8)) (v88 : Bool) (c43_1 : Int) (l40 : (List S_api_Key)) (l47 : (List S_api_Notice)) (l72 : (List S_api_Alert)) : Option (Bool) :=
  bif v88 then
    some false
  else
    law10_AlertChain_5 F hd1 F v1 v7 v8 (0 : Int) c43_1 l40 l47 l72

theorem law10_AlertChain_4_ok (F : Nat) (hd1 : (List S_api_Notice) → Int → Int → (List S_api_Key) → (List S_api_Notice) → Option (Bool)) (hhd1 : ∀ (v1 : (List S_api_Notice)) (v7 c43_1 : Int) (l40 : (List S_api_Key)) (l47 : (List S_api_Notice)) (sv1 : SV) (b43 : Pos) (s40 s47 : SV) (r47 : (List SV)) (Fr : Rd) (M : Mem) (r : Bool) (hv1 : Slc Fr 10 (rep46 Fr) sv1 v1) (hr47 : Rows (rep46 Fr) 10 r47 l47) (hH : Has Fr M [.obj b43 (.row 103 .whole [s40, (.int .i64 c43_1), s47, (.ptr b43 0)]), .vec 79 2 l40.length s40 (l40.flatMap enc79), .vec 46 10 l47.length s47 r47, tb0, tb1, tb2]), hd1 v1 v7 c43_1 l40 l47 = some r → Run Tryd.prog ⟨⟨7, [], none⟩, []⟩ 201 (law10_AlertChain_post r) [(1, sv1), (5, (.ptr b43 0)), (7, (.int .i64 v7))] [codeC Tryd.prog 7 [1, 1, 1, 0, 1, 0, 0], loopC Tryd.prog 7 [1, 1, 1, 0, 1, 0, 0], .inBlock 0, codeC Tryd.prog 7 [1, 1, 1, 1]] M) : ∀ (v1 : (List S_api_Notice)) (v7 : Int) (v8 : (List UInt8)) (v88 : Bool) (c43_1 : Int) (l40 : (List S_api_Key)) (l47 : (List S_api_Notice)) (l72 : (List S_api_Alert)) (sv1 : SV) (b43 : Pos) (s40 s47 : SV) (r47 : (List SV)) (s72 : SV) (r72 : (List SV)) (Fr : Rd) (M : Mem) (r : Bool) (hv1 : Slc Fr 10 (rep46 Fr) sv1 v1) (hr47 : Rows (rep46 Fr) 10 r47 l47) (hr72 : Rows (rep29 Fr) 9 r72 l72) (hH : Has Fr M [.obj b43 (.row 103 .whole [s40, (.int .i64 c43_1), s47, (.ptr b43 0)]), .vec 79 2 l40.length s40 (l40.flatMap enc79), .vec 46 10 l47.length s47 r47, .vec 29 9 l72.length s72 r72, tb0, tb1, tb2]), law10_AlertChain_4 F hd1 v1 v7 v8 v88 c43_1 l40 l47 l72 = some r → Run Tryd.prog ⟨⟨7, [], none⟩, []⟩ 201 (law10_AlertChain_post r) [(1, sv1), (5, (.ptr b43 0)), (7, (.int .i64 v7)), (8, (.str v8)), (11, s72), (88, (.bool v88))] [codeC Tryd.prog 7 [1, 1, 1, 0, 1, 0, 0, 1, 0, 0, 1, 1, 1, 1, 0, 1], codeC Tryd.prog 7 [1, 1, 1, 0, 1, 0, 0, 1, 0, 0, 1, 1, 1, 1, 1], .inBlock 1, codeC Tryd.prog 7 [1, 1, 1, 0, 1, 0, 0, 1, 1], loopC Tryd.prog 7 [1, 1, 1, 0, 1, 0, 0], .inBlock 0, codeC Tryd.prog 7 [1, 1, 1, 1]] M := by
  intro v1 v7 v8 v88 c43_1 l40 l47 l72 sv1 b43 s40 s47 r47 s72 r72 Fr M r hv1 hr47 hr72 hH h
  rw [law10_AlertChain_4] at h
  rcases btf (v88) with hc77 | hc77
  · have h := bif_t hc77 h
    refine Run.condT' rfl hc77 ?_
    refine Run.seq (Run.region ?_)
    refine Run.opG wantS_none (ex_assign rfl) rfl ?_
    refine Run.opsEnd ?_
    cases h
    exact Run.ret Tryd.func7 rfl (res_tmp rfl res_nil) rfl
  · have h := bif_f hc77 h
    refine Run.condF' rfl hc77 ?_
    refine Run.skip (Run.seq (Run.seq (Run.region ?_)))
    refine Run.opG wantS_none (ex_assign rfl) rfl ?_
    refine Run.opsEnd (Run.block (Run.loop ?_))
    exact Run.pick [1, 5, 7, 8, 11, 12] (law10_AlertChain_5_ok F hd1 hhd1 F v1 v7 v8 (0 : Int) c43_1 l40 l47 l72 sv1 b43 s40 s47 r47 s72 r72 _ _ _ hv1 hr47 hr72 hH h)

def law10_AlertChain_3 (F : Nat) (hd1 : (List S_api_Notice) → Int → Int → (List S_api_Key) → (List S_api_Notice) → Option (Bool)) (v1 : (List S_api_Notice)) (v7 : Int) (v8 : (List UInt8)) (v79 : Bool) (c43_1 : Int) (l40 : (List S_api_Key)) (l47 : (List S_api_Notice)) (l59 l72 : (List S_api_Alert)) : Option (Bool) :=
  bif v79 then
    law10_AlertChain_4 F hd1 v1 v7 v8 true c43_1 l40 l47 l72
  else
    bnd (sub l72 0 (l59.length : Int)) fun l118 =>
    bnd (law10_sameAlerts F l59 l118) fun r120 =>
    law10_AlertChain_4 F hd1 v1 v7 v8 (!r120) c43_1 l40 l47 l72

theorem law10_AlertChain_3_ok (F : Nat) (hd1 : (List S_api_Notice) → Int → Int → (List S_api_Key) → (List S_api_Notice) → Option (Bool)) (hhd1 : ∀ (v1 : (List S_api_Notice)) (v7 c43_1 : Int) (l40 : (List S_api_Key)) (l47 : (List S_api_Notice)) (sv1 : SV) (b43 : Pos) (s40 s47 : SV) (r47 : (List SV)) (Fr : Rd) (M : Mem) (r : Bool) (hv1 : Slc Fr 10 (rep46 Fr) sv1 v1) (hr47 : Rows (rep46 Fr) 10 r47 l47) (hH : Has Fr M [.obj b43 (.row 103 .whole [s40, (.int .i64 c43_1), s47, (.ptr b43 0)]), .vec 79 2 l40.length s40 (l40.flatMap enc79), .vec 46 10 l47.length s47 r47, tb0, tb1, tb2]), hd1 v1 v7 c43_1 l40 l47 = some r → Run Tryd.prog ⟨⟨7, [], none⟩, []⟩ 201 (law10_AlertChain_post r) [(1, sv1), (5, (.ptr b43 0)), (7, (.int .i64 v7))] [codeC Tryd.prog 7 [1, 1, 1, 0, 1, 0, 0], loopC Tryd.prog 7 [1, 1, 1, 0, 1, 0, 0], .inBlock 0, codeC Tryd.prog 7 [1, 1, 1, 1]] M) : ∀ (v1 : (List S_api_Notice)) (v7 : Int) (v8 : (List UInt8)) (v79 : Bool) (c43_1 : Int) (l40 : (List S_api_Key)) (l47 : (List S_api_Notice)) (l59 l72 : (List S_api_Alert)) (sv1 : SV) (b43 : Pos) (s40 s47 : SV) (r47 : (List SV)) (s59 : SV) (r59 : (List SV)) (s72 : SV) (r72 : (List SV)) (Fr : Rd) (M : Mem) (r : Bool) (hv1 : Slc Fr 10 (rep46 Fr) sv1 v1) (hr47 : Rows (rep46 Fr) 10 r47 l47) (hr59 : Rows (rep29 Fr) 9 r59 l59) (hr72 : Rows (rep29 Fr) 9 r72 l72) (hH : Has Fr M [.obj b43 (.row 103 .whole [s40, (.int .i64 c43_1), s47, (.ptr b43 0)]), .vec 79 2 l40.length s40 (l40.flatMap enc79), .vec 46 10 l47.length s47 r47, .vec 29 9 l59.length s59 r59, .vec 29 9 l72.length s72 r72, tb0, tb1, tb2]), law10_AlertChain_3 F hd1 v1 v7 v8 v79 c43_1 l40 l47 l59 l72 = some r → Run Tryd.prog ⟨⟨7, [], none⟩, []⟩ 201 (law10_AlertChain_post r) [(1, sv1), (5, (.ptr b43 0)), (7, (.int .i64 v7)), (8, (.str v8)), (9, s59), (11, s72), (79, (.bool v79))] [itemC Tryd.prog 7 [1, 1, 1, 0, 1, 0, 0, 1, 0, 0, 1, 1, 1, 1, 0, 0] 26, codeC Tryd.prog 7 [1, 1, 1, 0, 1, 0, 0, 1, 0, 0, 1, 1, 1, 1, 0, 1], codeC Tryd.prog 7 [1, 1, 1, 0, 1, 0, 0, 1, 0, 0, 1, 1, 1, 1, 1], .inBlock 1, codeC Tryd.prog 7 [1, 1, 1, 0, 1, 0, 0, 1, 1], loopC Tryd.prog 7 [1, 1, 1, 0, 1, 0, 0], .inBlock 0, codeC Tryd.prog 7 [1, 1, 1, 1]] M := by
  intro v1 v7 v8 v79 c43_1 l40 l47 l59 l72 sv1 b43 s40 s47 r47 s59 r59 s72 r72 Fr M r hv1 hr47 hr59 hr72 hH h
  rw [law10_AlertChain_3] at h
  refine Run.opG wantS_none (ex_move rfl) rfl ?_
  rcases btf (v79) with hc76 | hc76
  · have h := bif_t hc76 h
    refine Run.no (wantS_not' rfl rfl hc76) rfl ?_
    refine Run.no (wantS_not' rfl rfl hc76) rfl ?_
    refine Run.no (wantS_not' rfl rfl hc76) rfl ?_
    refine Run.no (wantS_not' rfl rfl hc76) rfl ?_
    refine Run.no (wantS_not' rfl rfl hc76) rfl ?_
    refine Run.no (wantS_not' rfl rfl hc76) rfl ?_
    refine Run.no (wantS_not' rfl rfl hc76) rfl ?_
    refine Run.opG wantS_none (ex_pickT' rfl hc76 rfl rfl) rfl ?_
    refine Run.opsEnd ?_
    exact Run.pick [1, 5, 7, 8, 11, 88] (law10_AlertChain_4_ok F hd1 hhd1 v1 v7 v8 true c43_1 l40 l47 l72 sv1 b43 s40 s47 r47 s72 r72 _ _ _ hv1 hr47 hr72 (hH.pick [0, 1, 2, 4, 5, 6, 7] rfl rfl) h)
  · have h := bif_f hc76 h
    refine Run.opG (wantS_yes' rfl rfl hc76) (ex_move rfl) rfl ?_
    refine Run.opG (wantS_yes' rfl rfl hc76) (ex_move rfl) rfl ?_
    refine Run.opG (wantS_yes' rfl rfl hc76) (ex_move rfl) rfl ?_
    refine Run.opG (wantS_yes' rfl rfl hc76) (ex_len' rfl (hH.slcR (i := 3) rfl hr59) lenk70) rfl ?_
    obtain ⟨l118, hl118, h⟩ := bnd_some h
    obtain ⟨s118, hx118, hs118⟩ := sl_subH (P := Tryd.prog) (t := 70) (k0 := .i64) (hH.slcR (i := 4) rfl hr72) hl118 slk70
    refine Run.opG (wantS_yes' rfl rfl hc76) (ex_slX rfl (argO_none) (argO_some rfl) hx118) rfl ?_
    obtain ⟨r120, hr120, h⟩ := bnd_some h
    refine Run.callP (wantS_yes' rfl rfl hc76) (ex_call rfl mkk32 cal32) rfl (law10_sameAlerts_ok F l59 l118 s59 s118 _ _ (((hH.slcR (i := 3) rfl hr59)).mono (fun _ _ h => h) (fun _ _ => rep29_mo hH.le)) ((hs118).mono (fun _ _ h => h) (fun _ _ => rep29_mo hH.le)) hr120) ?_
    refine Run.opG (wantS_yes' rfl rfl hc76) (ex_not rfl) rfl ?_
    refine Run.opG wantS_none (ex_pickF' rfl hc76 rfl rfl) rfl ?_
    refine Run.opsEnd ?_
    exact Run.pick [1, 5, 7, 8, 11, 88] (law10_AlertChain_4_ok F hd1 hhd1 v1 v7 v8 (!r120) c43_1 l40 l47 l72 sv1 b43 s40 s47 r47 s72 r72 _ _ _ hv1 hr47 hr72 (hH.pick [0, 1, 2, 4, 5, 6, 7] rfl rfl) h)

def law10_AlertChain_2 (F : Nat) (hd1 : (List S_api_Notice) → Int → Int → (List S_api_Key) → (List S_api_Notice) → Option (Bool)) (v1 : (List S_api_Notice)) (v7 : Int) (v8 : (List UInt8)) (v72 : Bool) (c43_1 : Int) (l40 : (List S_api_Key)) (l47 : (List S_api_Notice)) (l59 l72 : (List S_api_Alert)) : Option (Bool) :=
  bif v72 then
    law10_AlertChain_3 F hd1 v1 v7 v8 true c43_1 l40 l47 l59 l72
  else
    law10_AlertChain_3 F hd1 v1 v7 v8 (decide ((l72.length : Int) < (l59.length : Int))) c43_1 l40 l47 l59 l72

theorem law10_AlertChain_2_ok (F : Nat) (hd1 : (List S_api_Notice) → Int → Int → (List S_api_Key) → (List S_api_Notice) → Option (Bool)) (hhd1 : ∀ (v1 : (List S_api_Notice)) (v7 c43_1 : Int) (l40 : (List S_api_Key)) (l47 : (List S_api_Notice)) (sv1 : SV) (b43 : Pos) (s40 s47 : SV) (r47 : (List SV)) (Fr : Rd) (M : Mem) (r : Bool) (hv1 : Slc Fr 10 (rep46 Fr) sv1 v1) (hr47 : Rows (rep46 Fr) 10 r47 l47) (hH : Has Fr M [.obj b43 (.row 103 .whole [s40, (.int .i64 c43_1), s47, (.ptr b43 0)]), .vec 79 2 l40.length s40 (l40.flatMap enc79), .vec 46 10 l47.length s47 r47, tb0, tb1, tb2]), hd1 v1 v7 c43_1 l40 l47 = some r → Run Tryd.prog ⟨⟨7, [], none⟩, []⟩ 201 (law10_AlertChain_post r) [(1, sv1), (5, (.ptr b43 0)), (7, (.int .i64 v7))] [codeC Tryd.prog 7 [1, 1, 1, 0, 1, 0, 0], loopC Tryd.prog 7 [1, 1, 1, 0, 1, 0, 0], .inBlock 0, codeC Tryd.prog 7 [1, 1, 1, 1]] M) : ∀ (v1 : (List S_api_Notice)) (v7 : Int) (v8 : (List UInt8)) (v72 : Bool) (c43_1 : Int) (l40 : (List S_api_Key)) (l47 : (List S_api_Notice)) (l59 l72 : (List S_api_Alert)) (sv1 : SV) (b43 : Pos) (s40 s47 : SV) (r47 : (List SV)) (s59 : SV) (r59 : (List SV)) (s72 : SV) (r72 : (List SV)) (Fr : Rd) (M : Mem) (r : Bool) (hv1 : Slc Fr 10 (rep46 Fr) sv1 v1) (hr47 : Rows (rep46 Fr) 10 r47 l47) (hr59 : Rows (rep29 Fr) 9 r59 l59) (hr72 : Rows (rep29 Fr) 9 r72 l72) (hH : Has Fr M [.obj b43 (.row 103 .whole [s40, (.int .i64 c43_1), s47, (.ptr b43 0)]), .vec 79 2 l40.length s40 (l40.flatMap enc79), .vec 46 10 l47.length s47 r47, .vec 29 9 l59.length s59 r59, .vec 29 9 l72.length s72 r72, tb0, tb1, tb2]), law10_AlertChain_2 F hd1 v1 v7 v8 v72 c43_1 l40 l47 l59 l72 = some r → Run Tryd.prog ⟨⟨7, [], none⟩, []⟩ 201 (law10_AlertChain_post r) [(1, sv1), (5, (.ptr b43 0)), (7, (.int .i64 v7)), (8, (.str v8)), (9, s59), (11, s72), (72, (.bool v72))] [itemC Tryd.prog 7 [1, 1, 1, 0, 1, 0, 0, 1, 0, 0, 1, 1, 1, 1, 0, 0] 19, codeC Tryd.prog 7 [1, 1, 1, 0, 1, 0, 0, 1, 0, 0, 1, 1, 1, 1, 0, 1], codeC Tryd.prog 7 [1, 1, 1, 0, 1, 0, 0, 1, 0, 0, 1, 1, 1, 1, 1], .inBlock 1, codeC Tryd.prog 7 [1, 1, 1, 0, 1, 0, 0, 1, 1], loopC Tryd.prog 7 [1, 1, 1, 0, 1, 0, 0], .inBlock 0, codeC Tryd.prog 7 [1, 1, 1, 1]] M := by
  intro v1 v7 v8 v72 c43_1 l40 l47 l59 l72 sv1 b43 s40 s47 r47 s59 r59 s72 r72 Fr M r hv1 hr47 hr59 hr72 hH h
  rw [law10_AlertChain_2] at h
  refine Run.opG wantS_none (ex_move rfl) rfl ?_
  rcases btf (v72) with hc75 | hc75
  · have h := bif_t hc75 h
    refine Run.no (wantS_not' rfl rfl hc75) rfl ?_
    refine Run.no (wantS_not' rfl rfl hc75) rfl ?_
    refine Run.no (wantS_not' rfl rfl hc75) rfl ?_
    refine Run.no (wantS_not' rfl rfl hc75) rfl ?_
    refine Run.no (wantS_not' rfl rfl hc75) rfl ?_
    refine Run.opG wantS_none (ex_pickT' rfl hc75 rfl rfl) rfl ?_
    exact Run.pick [1, 5, 7, 8, 9, 11, 79] (law10_AlertChain_3_ok F hd1 hhd1 v1 v7 v8 true c43_1 l40 l47 l59 l72 sv1 b43 s40 s47 r47 s59 r59 s72 r72 _ _ _ hv1 hr47 hr59 hr72 hH h)
  · have h := bif_f hc75 h
    refine Run.opG (wantS_yes' rfl rfl hc75) (ex_move rfl) rfl ?_
    refine Run.opG (wantS_yes' rfl rfl hc75) (ex_len' rfl (hH.slcR (i := 4) rfl hr72) lenk70) rfl ?_
    refine Run.opG (wantS_yes' rfl rfl hc75) (ex_move rfl) rfl ?_
    refine Run.opG (wantS_yes' rfl rfl hc75) (ex_len' rfl (hH.slcR (i := 3) rfl hr59) lenk70) rfl ?_
    refine Run.opG (wantS_yes' rfl rfl hc75) (ex_lss rfl rfl) rfl ?_
    refine Run.opG wantS_none (ex_pickF' rfl hc75 rfl rfl) rfl ?_
    exact Run.pick [1, 5, 7, 8, 9, 11, 79] (law10_AlertChain_3_ok F hd1 hhd1 v1 v7 v8 (decide ((l72.length : Int) < (l59.length : Int))) c43_1 l40 l47 l59 l72 sv1 b43 s40 s47 r47 s59 r59 s72 r72 _ _ _ hv1 hr47 hr59 hr72 hH h)

def law10_AlertChain_11 (F : Nat) (hd1 : (List S_api_Notice) → Int → Int → (List S_api_Key) → (List S_api_Notice) → Option (Bool)) (v1 : (List S_api_Notice)) (v7 : Int) (v8 : (List UInt8)) (v63 v71 : Bool) (c43_1 : Int) (l40 : (List S_api_Key)) (l47 : (List S_api_Notice)) (l59 l144 : (List S_api_Alert)) : Option (Bool) :=
  law10_AlertChain_2 F hd1 v1 v7 v8 (bif v63 then true else v71) c43_1 l40 l47 l59 l144

theorem law10_AlertChain_11_ok (F : Nat) (hd1 : (List S_api_Notice) → Int → Int → (List S_api_Key) → (List S_api_Notice) → Option (Bool)) (hhd1 : ∀ (v1 : (List S_api_Notice)) (v7 c43_1 : Int) (l40 : (List S_api_Key)) (l47 : (List S_api_Notice)) (sv1 : SV) (b43 : Pos) (s40 s47 : SV) (r47 : (List SV)) (Fr : Rd) (M : Mem) (r : Bool) (hv1 : Slc Fr 10 (rep46 Fr) sv1 v1) (hr47 : Rows (rep46 Fr) 10 r47 l47) (hH : Has Fr M [.obj b43 (.row 103 .whole [s40, (.int .i64 c43_1), s47, (.ptr b43 0)]), .vec 79 2 l40.length s40 (l40.flatMap enc79), .vec 46 10 l47.length s47 r47, tb0, tb1, tb2]), hd1 v1 v7 c43_1 l40 l47 = some r → Run Tryd.prog ⟨⟨7, [], none⟩, []⟩ 201 (law10_AlertChain_post r) [(1, sv1), (5, (.ptr b43 0)), (7, (.int .i64 v7))] [codeC Tryd.prog 7 [1, 1, 1, 0, 1, 0, 0], loopC Tryd.prog 7 [1, 1, 1, 0, 1, 0, 0], .inBlock 0, codeC Tryd.prog 7 [1, 1, 1, 1]] M) : ∀ (v1 : (List S_api_Notice)) (v7 : Int) (v8 : (List UInt8)) (v63 v71 : Bool) (c43_1 : Int) (l40 : (List S_api_Key)) (l47 : (List S_api_Notice)) (l59 l144 : (List S_api_Alert)) (sv1 : SV) (b43 : Pos) (s40 s47 : SV) (r47 : (List SV)) (s59 : SV) (r59 : (List SV)) (s144 : SV) (r144 : (List SV)) (Fr : Rd) (M : Mem) (r : Bool) (hv1 : Slc Fr 10 (rep46 Fr) sv1 v1) (hr47 : Rows (rep46 Fr) 10 r47 l47) (hr59 : Rows (rep29 Fr) 9 r59 l59) (hr144 : Rows (rep29 Fr) 9 r144 l144) (hH : Has Fr M [.obj b43 (.row 103 .whole [s40, (.int .i64 c43_1), s47, (.ptr b43 0)]), .vec 79 2 l40.length s40 (l40.flatMap enc79), .vec 46 10 l47.length s47 r47, .vec 29 9 l59.length s59 r59, .vec 29 9 l144.length s144 r144, tb0, tb1, tb2]), law10_AlertChain_11 F hd1 v1 v7 v8 v63 v71 c43_1 l40 l47 l59 l144 = some r → Run Tryd.prog ⟨⟨7, [], none⟩, []⟩ 201 (law10_AlertChain_post r) [(1, sv1), (5, (.ptr b43 0)), (7, (.int .i64 v7)), (8, (.str v8)), (9, s59), (11, s144), (63, (.bool v63)), (71, (.bool v71))] [itemC Tryd.prog 7 [1, 1, 1, 0, 1, 0, 0, 1, 0, 0, 1, 1, 1, 1, 0, 0] 18, codeC Tryd.prog 7 [1, 1, 1, 0, 1, 0, 0, 1, 0, 0, 1, 1, 1, 1, 0, 1], codeC Tryd.prog 7 [1, 1, 1, 0, 1, 0, 0, 1, 0, 0, 1, 1, 1, 1, 1], .inBlock 1, codeC Tryd.prog 7 [1, 1, 1, 0, 1, 0, 0, 1, 1], loopC Tryd.prog 7 [1, 1, 1, 0, 1, 0, 0], .inBlock 0, codeC Tryd.prog 7 [1, 1, 1, 1]] M := by
  intro v1 v7 v8 v63 v71 c43_1 l40 l47 l59 l144 sv1 b43 s40 s47 r47 s59 r59 s144 r144 Fr M r hv1 hr47 hr59 hr144 hH h
  rw [law10_AlertChain_11] at h
  refine Run.opG wantS_none (ex_pickB rfl rfl rfl) rfl ?_
  exact Run.pick [1, 5, 7, 8, 9, 11, 72] (law10_AlertChain_2_ok F hd1 hhd1 v1 v7 v8 (bif v63 then true else v71) c43_1 l40 l47 l59 l144 sv1 b43 s40 s47 r47 s59 r59 s144 r144 _ _ _ hv1 hr47 hr59 hr144 hH h)

def law10_AlertChain_12 (F : Nat) (hd1 : (List S_api_Notice) → Int → Int → (List S_api_Key) → (List S_api_Notice) → Option (Bool)) (v1 : (List S_api_Notice)) (v7 : Int) (v8 : (List UInt8)) (v63 : Bool) (c43_1 : Int) (l40 : (List S_api_Key)) (l156 : (List S_api_Notice)) (l59 l162 : (List S_api_Alert)) : Option (Bool) :=
  bif v63 then
    law10_AlertChain_2 F hd1 v1 v7 v8 true c43_1 l40 l156 l59 l162
  else
    none

theorem law10_AlertChain_12_ok (F : Nat) (hd1 : (List S_api_Notice) → Int → Int → (List S_api_Key) → (List S_api_Notice) → Option (Bool)) (hhd1 : ∀ (v1 : (List S_api_Notice)) (v7 c43_1 : Int) (l40 : (List S_api_Key)) (l47 : (List S_api_Notice)) (sv1 : SV) (b43 : Pos) (s40 s47 : SV) (r47 : (List SV)) (Fr : Rd) (M : Mem) (r : Bool) (hv1 : Slc Fr 10 (rep46 Fr) sv1 v1) (hr47 : Rows (rep46 Fr) 10 r47 l47) (hH : Has Fr M [.obj b43 (.row 103 .whole [s40, (.int .i64 c43_1), s47, (.ptr b43 0)]), .vec 79 2 l40.length s40 (l40.flatMap enc79), .vec 46 10 l47.length s47 r47, tb0, tb1, tb2]), hd1 v1 v7 c43_1 l40 l47 = some r → Run Tryd.prog ⟨⟨7, [], none⟩, []⟩ 201 (law10_AlertChain_post r) [(1, sv1), (5, (.ptr b43 0)), (7, (.int .i64 v7))] [codeC Tryd.prog 7 [1, 1, 1, 0, 1, 0, 0], loopC Tryd.prog 7 [1, 1, 1, 0, 1, 0, 0], .inBlock 0, codeC Tryd.prog 7 [1, 1, 1, 1]] M) : ∀ (v1 : (List S_api_Notice)) (v7 : Int) (v8 : (List UInt8)) (v63 : Bool) (c43_1 : Int) (l40 : (List S_api_Key)) (l156 : (List S_api_Notice)) (l59 l162 : (List S_api_Alert)) (sv1 : SV) (b43 : Pos) (s40 s156 : SV) (r156 : (List SV)) (s59 : SV) (r59 : (List SV)) (s162 : SV) (r162 : (List SV)) (Fr : Rd) (M : Mem) (r : Bool) (hv1 : Slc Fr 10 (rep46 Fr) sv1 v1) (hr156 : Rows (rep46 Fr) 10 r156 l156) (hr59 : Rows (rep29 Fr) 9 r59 l59) (hr162 : Rows (rep29 Fr) 9 r162 l162) (hH : Has Fr M [.obj b43 (.row 103 .whole [s40, (.int .i64 c43_1), s156, (.ptr b43 0)]), .vec 79 2 l40.length s40 (l40.flatMap enc79), .vec 46 10 l156.length s156 r156, .vec 29 9 l59.length s59 r59, .vec 29 9 l162.length s162 r162, tb0, tb1, tb2]), law10_AlertChain_12 F hd1 v1 v7 v8 v63 c43_1 l40 l156 l59 l162 = some r → Run Tryd.prog ⟨⟨7, [], none⟩, []⟩ 201 (law10_AlertChain_post r) [(1, sv1), (5, (.ptr b43 0)), (7, (.int .i64 v7)), (8, (.str v8)), (9, s59), (11, s162), (63, (.bool v63)), (71, (.tuple []))] [itemC Tryd.prog 7 [1, 1, 1, 0, 1, 0, 0, 1, 0, 0, 1, 1, 1, 1, 0, 0] 18, codeC Tryd.prog 7 [1, 1, 1, 0, 1, 0, 0, 1, 0, 0, 1, 1, 1, 1, 0, 1], codeC Tryd.prog 7 [1, 1, 1, 0, 1, 0, 0, 1, 0, 0, 1, 1, 1, 1, 1], .inBlock 1, codeC Tryd.prog 7 [1, 1, 1, 0, 1, 0, 0, 1, 1], loopC Tryd.prog 7 [1, 1, 1, 0, 1, 0, 0], .inBlock 0, codeC Tryd.prog 7 [1, 1, 1, 1]] M := by
  intro v1 v7 v8 v63 c43_1 l40 l156 l59 l162 sv1 b43 s40 s156 r156 s59 r59 s162 r162 Fr M r hv1 hr156 hr59 hr162 hH h
  rw [law10_AlertChain_12] at h
  rcases btf (v63) with hc165 | hc165
  · have h := bif_t hc165 h
    refine Run.opG wantS_none (ex_pickT' rfl hc165 rfl rfl) rfl ?_
    exact Run.pick [1, 5, 7, 8, 9, 11, 72] (law10_AlertChain_2_ok F hd1 hhd1 v1 v7 v8 true c43_1 l40 l156 l59 l162 sv1 b43 s40 s156 r156 s59 r59 s162 r162 _ _ _ hv1 hr156 hr59 hr162 hH h)
  · have h := bif_f hc165 h
    cases h

def law10_AlertChain_1 (F : Nat) : Nat → (List S_api_Notice) → Int → Int → (List S_api_Key) → (List S_api_Notice) → Option (Bool)
  | 0, _, _, _, _, _ => none
  | N + 1, v1, v7, c43_1, l40, l47 =>
    bif (decide (v7 < (v1.length : Int))) then
      bnd (idx v1 v7) fun x51 =>
      bnd (alert_Board_alertsOf_h2 F x51.Alert.Event c43_1 l40 l47) fun r58 =>
      bnd (idx v1 v7) fun x62 =>
      bnd (alert_roll_check F (S_alert_roll.mk l40 c43_1) (S_api_Notice.mk x62.Alert x62.Signatures)) fun r66 =>
      bif (!(r66 == (0 : Int))) then
        bnd (alert_Board_alertsOf_h2 F x51.Alert.Event c43_1 l40 l47) fun r71 =>
        bif (!((r66 == (0 : Int)) == ((r71.length : Int) == (w64 ((r58.length : Int) + (1 : Int)))))) then
          law10_AlertChain_2 F (law10_AlertChain_1 F N) v1 v7 x51.Alert.Event true c43_1 l40 l47 r58 r71
        else
          bnd (law10_sameAlerts F r58 r71) fun r123 =>
          law10_AlertChain_2 F (law10_AlertChain_1 F N) v1 v7 x51.Alert.Event (!r123) c43_1 l40 l47 r58 r71
      else
        bnd (alert_Board_alertsOf_h2 F x62.Alert.Event c43_1 l40 l47) fun r125 =>
        bnd (alert_checkNext F r125 x62.Alert) fun r128 =>
        bif (!(r128 == (0 : Int))) then
          bnd (alert_Board_alertsOf_h2 F x51.Alert.Event c43_1 l40 l47) fun r133 =>
          bif (!((r128 == (0 : Int)) == ((r133.length : Int) == (w64 ((r58.length : Int) + (1 : Int)))))) then
            law10_AlertChain_2 F (law10_AlertChain_1 F N) v1 v7 x51.Alert.Event true c43_1 l40 l47 r58 r133
          else
            bnd (law10_sameAlerts F r58 r133) fun r138 =>
            law10_AlertChain_2 F (law10_AlertChain_1 F N) v1 v7 x51.Alert.Event (!r138) c43_1 l40 l47 r58 r133
        else
          bif (decide ((256 : Int) ≤ (l47.length : Int))) then
            bnd (alert_Board_alertsOf_h2 F x51.Alert.Event c43_1 l40 l47) fun r143 =>
            bif (!(((7 : Int) == (0 : Int)) == ((r143.length : Int) == (w64 ((r58.length : Int) + (1 : Int)))))) then
              law10_AlertChain_2 F (law10_AlertChain_1 F N) v1 v7 x51.Alert.Event true c43_1 l40 l47 r58 r143
            else
              bif (!((7 : Int) == (0 : Int))) then
                bnd (law10_sameAlerts F r58 r143) fun r149 =>
                law10_AlertChain_11 F (law10_AlertChain_1 F N) v1 v7 x51.Alert.Event (!(((7 : Int) == (0 : Int)) == ((r143.length : Int) == (w64 ((r58.length : Int) + (1 : Int)))))) (!r149) c43_1 l40 l47 r58 r143
              else
                law10_AlertChain_11 F (law10_AlertChain_1 F N) v1 v7 x51.Alert.Event (!(((7 : Int) == (0 : Int)) == ((r143.length : Int) == (w64 ((r58.length : Int) + (1 : Int)))))) false c43_1 l40 l47 r58 r143
          else
            bnd (alert_copyOfNotice_h2 F x62.Alert.Event x62.Alert.Version x62.Alert.Time x62.Alert.Chance.N x62.Alert.Chance.Of x62.Alert.Grid x62.Alert.Cells x62.Alert.Withdrawn x62.Alert.Before x62.Signatures) fun r151 =>
            bnd (apd 120 l47 ([(S_api_Notice.mk (S_api_Alert.mk r151.1 r151.2.1 r151.2.2.1 (S_api_Chance.mk r151.2.2.2.1 r151.2.2.2.2.1) r151.2.2.2.2.2.1 r151.2.2.2.2.2.2.1 r151.2.2.2.2.2.2.2.1 r151.2.2.2.2.2.2.2.2.1) r151.2.2.2.2.2.2.2.2.2)] : List S_api_Notice)) fun l155 =>
            bnd (alert_Board_alertsOf_h2 F x51.Alert.Event c43_1 l40 l155) fun r161 =>
            bif (!(((0 : Int) == (0 : Int)) == ((r161.length : Int) == (w64 ((r58.length : Int) + (1 : Int)))))) then
              law10_AlertChain_12 F (law10_AlertChain_1 F N) v1 v7 x51.Alert.Event (!(((0 : Int) == (0 : Int)) == ((r161.length : Int) == (w64 ((r58.length : Int) + (1 : Int)))))) c43_1 l40 l155 r58 r161
            else
              bif (!((0 : Int) == (0 : Int))) then
                bnd (law10_sameAlerts F r58 r161) fun r168 =>
                law10_AlertChain_11 F (law10_AlertChain_1 F N) v1 v7 x51.Alert.Event (!(((0 : Int) == (0 : Int)) == ((r161.length : Int) == (w64 ((r58.length : Int) + (1 : Int)))))) (!r168) c43_1 l40 l155 r58 r161
              else
                law10_AlertChain_11 F (law10_AlertChain_1 F N) v1 v7 x51.Alert.Event (!(((0 : Int) == (0 : Int)) == ((r161.length : Int) == (w64 ((r58.length : Int) + (1 : Int)))))) false c43_1 l40 l155 r58 r161
    else
      bnd (works F) fun r171 =>
      some r171

theorem law10_AlertChain_1_ok (F : Nat) : ∀ (N : Nat), ∀ (v1 : (List S_api_Notice)) (v7 c43_1 : Int) (l40 : (List S_api_Key)) (l47 : (List S_api_Notice)) (sv1 : SV) (b43 : Pos) (s40 s47 : SV) (r47 : (List SV)) (Fr : Rd) (M : Mem) (r : Bool) (hv1 : Slc Fr 10 (rep46 Fr) sv1 v1) (hr47 : Rows (rep46 Fr) 10 r47 l47) (hH : Has Fr M [.obj b43 (.row 103 .whole [s40, (.int .i64 c43_1), s47, (.ptr b43 0)]), .vec 79 2 l40.length s40 (l40.flatMap enc79), .vec 46 10 l47.length s47 r47, tb0, tb1, tb2]), law10_AlertChain_1 F N v1 v7 c43_1 l40 l47 = some r → Run Tryd.prog ⟨⟨7, [], none⟩, []⟩ 201 (law10_AlertChain_post r) [(1, sv1), (5, (.ptr b43 0)), (7, (.int .i64 v7))] [codeC Tryd.prog 7 [1, 1, 1, 0, 1, 0, 0], loopC Tryd.prog 7 [1, 1, 1, 0, 1, 0, 0], .inBlock 0, codeC Tryd.prog 7 [1, 1, 1, 1]] M := by
  intro N
  induction N with
  | zero =>
    intro v1 v7 c43_1 l40 l47 sv1 b43 s40 s47 r47 Fr M r hv1 hr47 hH h
    simp [law10_AlertChain_1] at h
  | succ N ih =>
    intro v1 v7 c43_1 l40 l47 sv1 b43 s40 s47 r47 Fr M r hv1 hr47 hH h
    rw [law10_AlertChain_1] at h
    refine Run.seq (Run.seq (Run.region ?_))
    refine Run.opG wantS_none (ex_move rfl) rfl ?_
    refine Run.opG wantS_none (ex_move rfl) rfl ?_
    refine Run.opG wantS_none (ex_len' rfl hv1 lenk66) rfl ?_
    refine Run.opG wantS_none (ex_lss rfl rfl) rfl ?_
    refine Run.opsEnd ?_
    rcases btf ((decide (v7 < (v1.length : Int)))) with hc49 | hc49
    · have h := bif_t hc49 h
      refine Run.condT' rfl hc49 ?_
      refine Run.skip (Run.seq (Run.block (Run.seq (Run.region ?_))))
      refine Run.opG wantS_none (ex_move rfl) rfl ?_
      refine Run.opG wantS_none (ex_move rfl) rfl ?_
      obtain ⟨x51, hx51, h⟩ := bnd_some h
      obtain ⟨p51, o51, _, hx51, hp51, ⟨q51_0, q51_1, rfl, hq51_0, hq51_1⟩⟩ := sl_elem (P := Tryd.prog) (t := 66) (kk := .i64) hv1 hx51 els66
      refine Run.opG wantS_none (ex_elX rfl rfl hx51) rfl ?_
      have hp53 := (hp51.fld (o := 0) rfl)
      refine Run.opG wantS_none (ex_fieldAddr rfl off46_0) rfl ?_
      have hp55 := (hp53.fld (o := 0) rfl)
      refine Run.opG wantS_none (ex_fieldAddr rfl off29_0) rfl ?_
      refine Run.opG wantS_none (ex_load1 rfl (hH.ptrF hp55) rdLe_rfl agg9) rfl ?_
      refine Run.opG wantS_none (ex_assign rfl) rfl ?_
      refine Run.opsEnd (Run.seq (Run.region ?_))
      refine Run.opG wantS_none (ex_move rfl) rfl ?_
      refine Run.opG wantS_none (ex_move rfl) rfl ?_
      refine Run.enter wantS_none (ex_call rfl mkk30 cal30) Tryd.func30 rfl rfl ?_
      refine Run.seq (Run.region ?_)
      refine Run.opG wantS_none (ex_assign rfl) rfl ?_
      refine Run.opsEnd (Run.seq (Run.seq (Run.region ?_)))
      refine Run.opG wantS_none (ex_move rfl) rfl ?_
      refine Run.enter wantS_none (ex_call rfl mkk65 cal65) Tryd.func65 rfl rfl ?_
      refine Run.seq (Run.region ?_)
      refine Run.opG wantS_none (ex_assign rfl) rfl ?_
      refine Run.opsEnd (Run.seq (Run.region ?_))
      refine Run.opG wantS_none (ex_move rfl) rfl ?_
      refine Run.opG wantS_none (ex_ptrPNn rfl rfl eqk67) rfl ?_
      refine Run.opG wantS_none (ex_move rfl) rfl ?_
      refine Run.opG (wantS_yes' rfl rfl rfl) (ex_move rfl) rfl ?_
      refine Run.opG (wantS_yes' rfl rfl rfl) (ex_nilP rfl) rfl ?_
      refine Run.opG (wantS_yes' rfl rfl rfl) (ex_fieldAddr rfl off103_2) rfl ?_
      refine Run.opG (wantS_yes' rfl rfl rfl) (ex_load1 rfl (hH.cells (i := 0) rfl 3 rfl) rdLe_rfl agg67) rfl ?_
      refine Run.opG (wantS_yes' rfl rfl rfl) (ex_move rfl) rfl ?_
      refine Run.opG (wantS_yes' rfl rfl rfl) (ex_ptrSame rfl rfl pte67 inf103) rfl ?_
      refine Run.opG wantS_none (ex_pickT' rfl rfl rfl rfl) rfl ?_
      refine Run.opG wantS_none (ex_assign rfl) rfl ?_
      refine Run.opsEnd ?_
      refine Run.retTo Tryd.func65 rfl (res_tmp rfl res_nil) rfl ?_
      refine Run.opG wantS_none (ex_not rfl) rfl ?_
      refine Run.opsEnd ?_
      refine Run.condF' rfl (bnot_f rfl) ?_
      refine Run.skip (Run.seq (Run.region ?_))
      refine Run.opG wantS_none (ex_move rfl) rfl ?_
      refine Run.opG wantS_none (ex_move rfl) rfl ?_
      obtain ⟨r58, hr58, h⟩ := bnd_some h
      refine Run.callX wantS_none (ex_call rfl mkk66 cal66) rfl (alert_Board_alertsOf_h2_ok F x51.Alert.Event c43_1 l40 l47 b43 s40 s47 r47 Fr [] _ _ hr47 hH hr58) ?_
      rintro s58_0 M60 ⟨_, rfl, F58, hle58, c58_0, hc58_0, (hH60 : Has F58 M60 [.vec 29 9 r58.length s58_0 c58_0, .obj b43 (.row 103 .whole [s40, (.int .i64 c43_1), s47, (.ptr b43 0)]), .vec 79 2 l40.length s40 (l40.flatMap enc79), .vec 46 10 l47.length s47 r47, tb0, tb1, tb2])⟩
      replace hv1 := hv1.mono hle58 (fun _ _ => rep46_mo hle58)
      replace hr47 := hr47.mono fun _ _ => rep46_mo hle58
      refine Run.opG wantS_none (ex_assign rfl) rfl ?_
      refine Run.opsEnd ?_
      refine Run.retTo Tryd.func30 rfl (res_tmp rfl res_nil) rfl ?_
      refine Run.opG wantS_none (ex_assign rfl) rfl ?_
      refine Run.opsEnd (Run.seq (Run.region ?_))
      refine Run.opG wantS_none (ex_move rfl) rfl ?_
      refine Run.opG wantS_none (ex_move rfl) rfl ?_
      refine Run.opG wantS_none (ex_move rfl) rfl ?_
      obtain ⟨x62, hx62, h⟩ := bnd_some h
      obtain ⟨p62, o62, _, hx62, hp62, ⟨q62_0, q62_1, rfl, hq62_0, hq62_1⟩⟩ := sl_elem (P := Tryd.prog) (t := 66) (kk := .i64) hv1 hx62 els66
      refine Run.opG wantS_none (ex_elX rfl rfl hx62) rfl ?_
      refine Run.opG wantS_none (ex_loadA rfl (hH60.ptrF hp62) rdLe_rfl agg46 rfl rfl rfl) rfl ?_
      refine Run.enter wantS_none (ex_call rfl mkk31 cal31) Tryd.func31 rfl rfl ?_
      refine Run.seq (Run.region ?_)
      refine Run.opX wantS_none rfl (ExG.box rfl rfl hH60) ?_
      rintro _ M65 ⟨b64, rfl, hH65⟩
      refine Run.opG wantS_none (ex_assign rfl) rfl ?_
      refine Run.opsEnd (Run.seq (Run.seq (Run.region ?_)))
      refine Run.opG wantS_none (ex_move rfl) rfl ?_
      refine Run.enter wantS_none (ex_call rfl mkk65 cal65) Tryd.func65 rfl rfl ?_
      refine Run.seq (Run.region ?_)
      refine Run.opG wantS_none (ex_assign rfl) rfl ?_
      refine Run.opsEnd (Run.seq (Run.region ?_))
      refine Run.opG wantS_none (ex_move rfl) rfl ?_
      refine Run.opG wantS_none (ex_ptrPNn rfl rfl eqk67) rfl ?_
      refine Run.opG wantS_none (ex_move rfl) rfl ?_
      refine Run.opG (wantS_yes' rfl rfl rfl) (ex_move rfl) rfl ?_
      refine Run.opG (wantS_yes' rfl rfl rfl) (ex_nilP rfl) rfl ?_
      refine Run.opG (wantS_yes' rfl rfl rfl) (ex_fieldAddr rfl off103_2) rfl ?_
      refine Run.opG (wantS_yes' rfl rfl rfl) (ex_load1 rfl (hH65.cells (i := 2) rfl 3 rfl) rdLe_rfl agg67) rfl ?_
      refine Run.opG (wantS_yes' rfl rfl rfl) (ex_move rfl) rfl ?_
      refine Run.opG (wantS_yes' rfl rfl rfl) (ex_ptrSame rfl rfl pte67 inf103) rfl ?_
      refine Run.opG wantS_none (ex_pickT' rfl rfl rfl rfl) rfl ?_
      refine Run.opG wantS_none (ex_assign rfl) rfl ?_
      refine Run.opsEnd ?_
      refine Run.retTo Tryd.func65 rfl (res_tmp rfl res_nil) rfl ?_
      refine Run.opG wantS_none (ex_not rfl) rfl ?_
      refine Run.opsEnd ?_
      refine Run.condF' rfl (bnot_f rfl) ?_
      refine Run.skip (Run.seq (Run.seq ?_))
      refine Run.drawG plan31_1_1_0_0 ?_
      refine DrawG.fl rfl (ev_ex wantS_none (ex_move rfl)) rfl ?_
      refine DrawG.fl rfl (ev_ex wantS_none (ex_nilP rfl)) rfl ?_
      refine DrawG.fl rfl (ev_ex wantS_none (ex_fieldAddr rfl off103_0)) rfl ?_
      refine DrawG.fl rfl (ev_ex wantS_none (ex_loadA rfl (hH65.cells (i := 2) rfl 0 rfl) rdLe_rfl agg97 rfl rfl rfl)) rfl ?_
      refine DrawG.fl rfl (ev_ex wantS_none (ex_loadA rfl (hH65.cells (i := 0) rfl 0 rfl) rdLe_rfl agg46 rfl rfl rfl)) rfl ?_
      obtain ⟨r66, hr66, h⟩ := bnd_some h
      refine DrawG.callP rfl wantS_none (ex_call rfl mkk58 cal58) rfl (alert_roll_check_ok F (S_alert_roll.mk l40 c43_1) (S_api_Notice.mk x62.Alert x62.Signatures) s40 q62_0 q62_1 _ _ (hH65.slc (i := 3) rfl enc79_len) (hH65.slcF hq62_0) (hH65.slcF hq62_1) (fixH hH65 (List.mem_of_getElem? (i := 5) rfl) (List.mem_of_getElem? (i := 6) rfl) (List.mem_of_getElem? (i := 7) rfl)) hr66) st_nil ?_
      refine DrawG.fl rfl (ev_ex wantS_none (ex_assign rfl)) rfl ?_
      refine DrawG.sync ?_
      refine DrawG.nil ?_
      refine Run.seq (Run.region ?_)
      refine Run.opG wantS_none (ex_move rfl) rfl ?_
      refine Run.opG wantS_none (ex_neq rfl rfl) rfl ?_
      refine Run.opsEnd ?_
      rcases btf ((!(r66 == (0 : Int)))) with hc68 | hc68
      · have h := bif_t hc68 h
        refine Run.condT' rfl hc68 ?_
        refine Run.seq (Run.region ?_)
        refine Run.opG wantS_none (ex_move rfl) rfl ?_
        refine Run.opG wantS_none (ex_assign rfl) rfl ?_
        refine Run.opsEnd ?_
        refine Run.retTo Tryd.func31 rfl (res_tmp rfl res_nil) rfl ?_
        refine Run.opG wantS_none (ex_assign rfl) rfl ?_
        refine Run.opsEnd (Run.seq (Run.region ?_))
        refine Run.opG wantS_none (ex_move rfl) rfl ?_
        refine Run.opG wantS_none (ex_move rfl) rfl ?_
        refine Run.enter wantS_none (ex_call rfl mkk30 cal30) Tryd.func30 rfl rfl ?_
        refine Run.seq (Run.region ?_)
        refine Run.opG wantS_none (ex_assign rfl) rfl ?_
        refine Run.opsEnd (Run.seq (Run.seq (Run.region ?_)))
        refine Run.opG wantS_none (ex_move rfl) rfl ?_
        refine Run.enter wantS_none (ex_call rfl mkk65 cal65) Tryd.func65 rfl rfl ?_
        refine Run.seq (Run.region ?_)
        refine Run.opG wantS_none (ex_assign rfl) rfl ?_
        refine Run.opsEnd (Run.seq (Run.region ?_))
        refine Run.opG wantS_none (ex_move rfl) rfl ?_
        refine Run.opG wantS_none (ex_ptrPNn rfl rfl eqk67) rfl ?_
        refine Run.opG wantS_none (ex_move rfl) rfl ?_
        refine Run.opG (wantS_yes' rfl rfl rfl) (ex_move rfl) rfl ?_
        refine Run.opG (wantS_yes' rfl rfl rfl) (ex_nilP rfl) rfl ?_
        refine Run.opG (wantS_yes' rfl rfl rfl) (ex_fieldAddr rfl off103_2) rfl ?_
        refine Run.opG (wantS_yes' rfl rfl rfl) (ex_load1 rfl (hH65.cells (i := 2) rfl 3 rfl) rdLe_rfl agg67) rfl ?_
        refine Run.opG (wantS_yes' rfl rfl rfl) (ex_move rfl) rfl ?_
        refine Run.opG (wantS_yes' rfl rfl rfl) (ex_ptrSame rfl rfl pte67 inf103) rfl ?_
        refine Run.opG wantS_none (ex_pickT' rfl rfl rfl rfl) rfl ?_
        refine Run.opG wantS_none (ex_assign rfl) rfl ?_
        refine Run.opsEnd ?_
        refine Run.retTo Tryd.func65 rfl (res_tmp rfl res_nil) rfl ?_
        refine Run.opG wantS_none (ex_not rfl) rfl ?_
        refine Run.opsEnd ?_
        refine Run.condF' rfl (bnot_f rfl) ?_
        refine Run.skip (Run.seq (Run.region ?_))
        refine Run.opG wantS_none (ex_move rfl) rfl ?_
        refine Run.opG wantS_none (ex_move rfl) rfl ?_
        obtain ⟨r71, hr71, h⟩ := bnd_some h
        refine Run.callX wantS_none (ex_call rfl mkk66 cal66) rfl (alert_Board_alertsOf_h2_ok F x51.Alert.Event c43_1 l40 l47 b43 s40 s47 r47 F58 [.obj b64 (.row 46 .whole [(.str x62.Alert.Event), (.int .i64 x62.Alert.Version), (.int .i64 x62.Alert.Time), (.int .i64 x62.Alert.Chance.N), (.int .i64 x62.Alert.Chance.Of), (.int .i64 x62.Alert.Grid), q62_0, (.bool x62.Alert.Withdrawn), (.int .i64 x62.Alert.Before), q62_1]), .vec 29 9 r58.length s58_0 c58_0] _ _ hr47 (hH65.pick [2, 3, 4, 5, 6, 7, 0, 1] rfl rfl) hr71) ?_
        rintro s71_0 M73 ⟨_, rfl, F71, hle71, c71_0, hc71_0, (hH73 : Has F71 M73 [.vec 29 9 r71.length s71_0 c71_0, .obj b43 (.row 103 .whole [s40, (.int .i64 c43_1), s47, (.ptr b43 0)]), .vec 79 2 l40.length s40 (l40.flatMap enc79), .vec 46 10 l47.length s47 r47, tb0, tb1, tb2, .obj b64 (.row 46 .whole [(.str x62.Alert.Event), (.int .i64 x62.Alert.Version), (.int .i64 x62.Alert.Time), (.int .i64 x62.Alert.Chance.N), (.int .i64 x62.Alert.Chance.Of), (.int .i64 x62.Alert.Grid), q62_0, (.bool x62.Alert.Withdrawn), (.int .i64 x62.Alert.Before), q62_1]), .vec 29 9 r58.length s58_0 c58_0])⟩
        replace hq62_0 := hq62_0.mono hle71 (fun _ _ h => h)
        replace hq62_1 := hq62_1.mono hle71 (fun _ _ h => h)
        replace hv1 := hv1.mono hle71 (fun _ _ => rep46_mo hle71)
        replace hc58_0 := hc58_0.mono fun _ _ => rep29_mo hle71
        replace hr47 := hr47.mono fun _ _ => rep46_mo hle71
        refine Run.opG wantS_none (ex_assign rfl) rfl ?_
        refine Run.opsEnd ?_
        refine Run.retTo Tryd.func30 rfl (res_tmp rfl res_nil) rfl ?_
        refine Run.opG wantS_none (ex_assign rfl) rfl ?_
        refine Run.opsEnd (Run.seq (Run.seq (Run.region ?_)))
        refine Run.opG wantS_none (ex_move rfl) rfl ?_
        refine Run.opG wantS_none (ex_eql rfl rfl) rfl ?_
        refine Run.opG wantS_none (ex_move rfl) rfl ?_
        refine Run.opG wantS_none (ex_len' rfl (hH73.slcR (i := 0) rfl hc71_0) lenk70) rfl ?_
        refine Run.opG wantS_none (ex_move rfl) rfl ?_
        refine Run.opG wantS_none (ex_len' rfl (hH73.slcR (i := 8) rfl hc58_0) lenk70) rfl ?_
        refine Run.opG wantS_none (ex_add rfl rfl) rfl ?_
        refine Run.opG wantS_none (ex_eql rfl rfl) rfl ?_
        refine Run.opG wantS_none (ex_neqB rfl rfl eqk4) rfl ?_
        refine Run.opG wantS_none (ex_move rfl) rfl ?_
        rcases btf ((!((r66 == (0 : Int)) == ((r71.length : Int) == (w64 ((r58.length : Int) + (1 : Int))))))) with hc74 | hc74
        · have h := bif_t hc74 h
          refine Run.no (wantS_not' rfl rfl hc74) rfl ?_
          refine Run.no (wantS_not' rfl rfl hc74) rfl ?_
          refine Run.no (wantS_not' rfl rfl hc74) rfl ?_
          refine Run.no (wantS_skip rfl rfl) rfl ?_
          refine Run.no (wantS_skip rfl rfl) rfl ?_
          refine Run.no (wantS_skip rfl rfl) rfl ?_
          refine Run.no (wantS_skip rfl rfl) rfl ?_
          refine Run.no (wantS_not' rfl rfl hc74) rfl ?_
          refine Run.opG wantS_none (ex_pickT' rfl hc74 rfl rfl) rfl ?_
          exact Run.pick [1, 5, 7, 8, 9, 11, 72] (law10_AlertChain_2_ok F (law10_AlertChain_1 F N) ih v1 v7 x51.Alert.Event true c43_1 l40 l47 r58 r71 sv1 b43 s40 s47 r47 s58_0 c58_0 s71_0 c71_0 _ _ _ hv1 hr47 hc58_0 hc71_0 (hH73.pick [1, 2, 3, 8, 0, 4, 5, 6] rfl rfl) h)
        · have h := bif_f hc74 h
          refine Run.opG (wantS_yes' rfl rfl hc74) (ex_move rfl) rfl ?_
          refine Run.opG (wantS_yes' rfl rfl hc74) (ex_neq rfl rfl) rfl ?_
          refine Run.opG (wantS_yes' rfl rfl hc74) (ex_move rfl) rfl ?_
          refine Run.opG (wantS_yes' rfl rfl hc68) (ex_move rfl) rfl ?_
          refine Run.opG (wantS_yes' rfl rfl hc68) (ex_move rfl) rfl ?_
          obtain ⟨r123, hr123, h⟩ := bnd_some h
          refine Run.callP (wantS_yes' rfl rfl hc68) (ex_call rfl mkk32 cal32) rfl (law10_sameAlerts_ok F r58 r71 s58_0 s71_0 _ _ (((hH73.slcR (i := 8) rfl hc58_0)).mono (fun _ _ h => h) (fun _ _ => rep29_mo hH73.le)) (((hH73.slcR (i := 0) rfl hc71_0)).mono (fun _ _ h => h) (fun _ _ => rep29_mo hH73.le)) hr123) ?_
          refine Run.opG (wantS_yes' rfl rfl hc68) (ex_not rfl) rfl ?_
          refine Run.opG (wantS_yes' rfl rfl hc74) (ex_pickT' rfl hc68 rfl rfl) rfl ?_
          refine Run.opG wantS_none (ex_pickF' rfl hc74 rfl rfl) rfl ?_
          exact Run.pick [1, 5, 7, 8, 9, 11, 72] (law10_AlertChain_2_ok F (law10_AlertChain_1 F N) ih v1 v7 x51.Alert.Event (!r123) c43_1 l40 l47 r58 r71 sv1 b43 s40 s47 r47 s58_0 c58_0 s71_0 c71_0 _ _ _ hv1 hr47 hc58_0 hc71_0 (hH73.pick [1, 2, 3, 8, 0, 4, 5, 6] rfl rfl) h)
      · have h := bif_f hc68 h
        refine Run.condF' rfl hc68 ?_
        refine Run.skip (Run.seq (Run.seq ?_))
        refine Run.drawG plan31_1_1_1_0_0 ?_
        refine DrawG.fl rfl (ev_ex wantS_none (ex_move rfl)) rfl ?_
        refine DrawG.fl rfl (ev_ex wantS_none (ex_fieldAddr rfl off46_0)) rfl ?_
        refine DrawG.fl rfl (ev_ex wantS_none (ex_fieldAddr rfl off29_0)) rfl ?_
        refine DrawG.fl rfl (ev_ex wantS_none (ex_load1 rfl (hH65.cells (i := 0) rfl 0 rfl) rdLe_rfl agg9)) rfl ?_
        refine DrawG.fl rfl (ev_ex wantS_none (ex_fieldAddr rfl off46_0)) rfl ?_
        refine DrawG.fl rfl (ev_ex wantS_none (ex_loadA rfl (hH65.cells (i := 0) rfl 0 rfl) rdLe_rfl agg29 rfl rfl rfl)) rfl ?_
        obtain ⟨r125, hr125, h⟩ := bnd_some h
        refine DrawG.call rfl wantS_none (ex_call rfl mkk66 cal66) rfl (alert_Board_alertsOf_h2_ok F x62.Alert.Event c43_1 l40 l47 b43 s40 s47 r47 F58 [.obj b64 (.row 46 .whole [(.str x62.Alert.Event), (.int .i64 x62.Alert.Version), (.int .i64 x62.Alert.Time), (.int .i64 x62.Alert.Chance.N), (.int .i64 x62.Alert.Chance.Of), (.int .i64 x62.Alert.Grid), q62_0, (.bool x62.Alert.Withdrawn), (.int .i64 x62.Alert.Before), q62_1]), .vec 29 9 r58.length s58_0 c58_0] _ _ hr47 (hH65.pick [2, 3, 4, 5, 6, 7, 0, 1] rfl rfl) hr125) ?_
        rintro s125_0 M127 ⟨_, rfl, F125, hle125, c125_0, hc125_0, (hH127 : Has F125 M127 [.vec 29 9 r125.length s125_0 c125_0, .obj b43 (.row 103 .whole [s40, (.int .i64 c43_1), s47, (.ptr b43 0)]), .vec 79 2 l40.length s40 (l40.flatMap enc79), .vec 46 10 l47.length s47 r47, tb0, tb1, tb2, .obj b64 (.row 46 .whole [(.str x62.Alert.Event), (.int .i64 x62.Alert.Version), (.int .i64 x62.Alert.Time), (.int .i64 x62.Alert.Chance.N), (.int .i64 x62.Alert.Chance.Of), (.int .i64 x62.Alert.Grid), q62_0, (.bool x62.Alert.Withdrawn), (.int .i64 x62.Alert.Before), q62_1]), .vec 29 9 r58.length s58_0 c58_0])⟩
        replace hq62_0 := hq62_0.mono hle125 (fun _ _ h => h)
        replace hq62_1 := hq62_1.mono hle125 (fun _ _ h => h)
        replace hv1 := hv1.mono hle125 (fun _ _ => rep46_mo hle125)
        replace hc58_0 := hc58_0.mono fun _ _ => rep29_mo hle125
        replace hr47 := hr47.mono fun _ _ => rep46_mo hle125
        refine ⟨(st_cons rfl (ev_ex wantS_none (ex_loadA rfl (hH127.cells (i := 7) rfl 0 rfl) rdLe_rfl agg29 rfl rfl rfl)) rfl rfl (self_agg (self_cons rfl (self_cons rfl (self_cons rfl (self_cons rfl (self_cons rfl (self_cons rfl (self_cons (slc_self hq62_0) (self_cons rfl (self_cons rfl self_nil)))))))))) (st_cons rfl (ev_ex wantS_none (ex_fieldAddr rfl off46_0)) rfl rfl rfl st_nil)), ?_⟩
        obtain ⟨r128, hr128, h⟩ := bnd_some h
        refine DrawG.callP rfl wantS_none (ex_call rfl mkk67 cal67) rfl (alert_checkNext_ok F r125 x62.Alert s125_0 q62_0 _ _ (((hH127.slcR (i := 0) rfl hc125_0)).mono (fun _ _ h => h) (fun _ _ => rep29_mo hH127.le)) (hH127.slcF hq62_0) (fixH hH127 (List.mem_of_getElem? (i := 4) rfl) (List.mem_of_getElem? (i := 5) rfl) (List.mem_of_getElem? (i := 6) rfl)) hr128) st_nil ?_
        refine DrawG.fl rfl (ev_ex wantS_none (ex_assign rfl)) rfl ?_
        refine DrawG.sync ?_
        refine DrawG.nil ?_
        refine Run.seq (Run.region ?_)
        refine Run.opG wantS_none (ex_move rfl) rfl ?_
        refine Run.opG wantS_none (ex_neq rfl rfl) rfl ?_
        refine Run.opsEnd ?_
        rcases btf ((!(r128 == (0 : Int)))) with hc130 | hc130
        · have h := bif_t hc130 h
          refine Run.condT' rfl hc130 ?_
          refine Run.seq (Run.region ?_)
          refine Run.opG wantS_none (ex_move rfl) rfl ?_
          refine Run.opG wantS_none (ex_assign rfl) rfl ?_
          refine Run.opsEnd ?_
          refine Run.retTo Tryd.func31 rfl (res_tmp rfl res_nil) rfl ?_
          refine Run.opG wantS_none (ex_assign rfl) rfl ?_
          refine Run.opsEnd (Run.seq (Run.region ?_))
          refine Run.opG wantS_none (ex_move rfl) rfl ?_
          refine Run.opG wantS_none (ex_move rfl) rfl ?_
          refine Run.enter wantS_none (ex_call rfl mkk30 cal30) Tryd.func30 rfl rfl ?_
          refine Run.seq (Run.region ?_)
          refine Run.opG wantS_none (ex_assign rfl) rfl ?_
          refine Run.opsEnd (Run.seq (Run.seq (Run.region ?_)))
          refine Run.opG wantS_none (ex_move rfl) rfl ?_
          refine Run.enter wantS_none (ex_call rfl mkk65 cal65) Tryd.func65 rfl rfl ?_
          refine Run.seq (Run.region ?_)
          refine Run.opG wantS_none (ex_assign rfl) rfl ?_
          refine Run.opsEnd (Run.seq (Run.region ?_))
          refine Run.opG wantS_none (ex_move rfl) rfl ?_
          refine Run.opG wantS_none (ex_ptrPNn rfl rfl eqk67) rfl ?_
          refine Run.opG wantS_none (ex_move rfl) rfl ?_
          refine Run.opG (wantS_yes' rfl rfl rfl) (ex_move rfl) rfl ?_
          refine Run.opG (wantS_yes' rfl rfl rfl) (ex_nilP rfl) rfl ?_
          refine Run.opG (wantS_yes' rfl rfl rfl) (ex_fieldAddr rfl off103_2) rfl ?_
          refine Run.opG (wantS_yes' rfl rfl rfl) (ex_load1 rfl (hH127.cells (i := 1) rfl 3 rfl) rdLe_rfl agg67) rfl ?_
          refine Run.opG (wantS_yes' rfl rfl rfl) (ex_move rfl) rfl ?_
          refine Run.opG (wantS_yes' rfl rfl rfl) (ex_ptrSame rfl rfl pte67 inf103) rfl ?_
          refine Run.opG wantS_none (ex_pickT' rfl rfl rfl rfl) rfl ?_
          refine Run.opG wantS_none (ex_assign rfl) rfl ?_
          refine Run.opsEnd ?_
          refine Run.retTo Tryd.func65 rfl (res_tmp rfl res_nil) rfl ?_
          refine Run.opG wantS_none (ex_not rfl) rfl ?_
          refine Run.opsEnd ?_
          refine Run.condF' rfl (bnot_f rfl) ?_
          refine Run.skip (Run.seq (Run.region ?_))
          refine Run.opG wantS_none (ex_move rfl) rfl ?_
          refine Run.opG wantS_none (ex_move rfl) rfl ?_
          obtain ⟨r133, hr133, h⟩ := bnd_some h
          refine Run.callX wantS_none (ex_call rfl mkk66 cal66) rfl (alert_Board_alertsOf_h2_ok F x51.Alert.Event c43_1 l40 l47 b43 s40 s47 r47 F125 [.vec 29 9 r125.length s125_0 c125_0, .obj b64 (.row 46 .whole [(.str x62.Alert.Event), (.int .i64 x62.Alert.Version), (.int .i64 x62.Alert.Time), (.int .i64 x62.Alert.Chance.N), (.int .i64 x62.Alert.Chance.Of), (.int .i64 x62.Alert.Grid), q62_0, (.bool x62.Alert.Withdrawn), (.int .i64 x62.Alert.Before), q62_1]), .vec 29 9 r58.length s58_0 c58_0] _ _ hr47 (hH127.pick [1, 2, 3, 4, 5, 6, 0, 7, 8] rfl rfl) hr133) ?_
          rintro s133_0 M135 ⟨_, rfl, F133, hle133, c133_0, hc133_0, (hH135 : Has F133 M135 [.vec 29 9 r133.length s133_0 c133_0, .obj b43 (.row 103 .whole [s40, (.int .i64 c43_1), s47, (.ptr b43 0)]), .vec 79 2 l40.length s40 (l40.flatMap enc79), .vec 46 10 l47.length s47 r47, tb0, tb1, tb2, .vec 29 9 r125.length s125_0 c125_0, .obj b64 (.row 46 .whole [(.str x62.Alert.Event), (.int .i64 x62.Alert.Version), (.int .i64 x62.Alert.Time), (.int .i64 x62.Alert.Chance.N), (.int .i64 x62.Alert.Chance.Of), (.int .i64 x62.Alert.Grid), q62_0, (.bool x62.Alert.Withdrawn), (.int .i64 x62.Alert.Before), q62_1]), .vec 29 9 r58.length s58_0 c58_0])⟩
          replace hq62_0 := hq62_0.mono hle133 (fun _ _ h => h)
          replace hq62_1 := hq62_1.mono hle133 (fun _ _ h => h)
          replace hv1 := hv1.mono hle133 (fun _ _ => rep46_mo hle133)
          replace hc125_0 := hc125_0.mono fun _ _ => rep29_mo hle133
          replace hc58_0 := hc58_0.mono fun _ _ => rep29_mo hle133
          replace hr47 := hr47.mono fun _ _ => rep46_mo hle133
          refine Run.opG wantS_none (ex_assign rfl) rfl ?_
          refine Run.opsEnd ?_
          refine Run.retTo Tryd.func30 rfl (res_tmp rfl res_nil) rfl ?_
          refine Run.opG wantS_none (ex_assign rfl) rfl ?_
          refine Run.opsEnd (Run.seq (Run.seq (Run.region ?_)))
          refine Run.opG wantS_none (ex_move rfl) rfl ?_
          refine Run.opG wantS_none (ex_eql rfl rfl) rfl ?_
          refine Run.opG wantS_none (ex_move rfl) rfl ?_
          refine Run.opG wantS_none (ex_len' rfl (hH135.slcR (i := 0) rfl hc133_0) lenk70) rfl ?_
          refine Run.opG wantS_none (ex_move rfl) rfl ?_
          refine Run.opG wantS_none (ex_len' rfl (hH135.slcR (i := 9) rfl hc58_0) lenk70) rfl ?_
          refine Run.opG wantS_none (ex_add rfl rfl) rfl ?_
          refine Run.opG wantS_none (ex_eql rfl rfl) rfl ?_
          refine Run.opG wantS_none (ex_neqB rfl rfl eqk4) rfl ?_
          refine Run.opG wantS_none (ex_move rfl) rfl ?_
          rcases btf ((!((r128 == (0 : Int)) == ((r133.length : Int) == (w64 ((r58.length : Int) + (1 : Int))))))) with hc136 | hc136
          · have h := bif_t hc136 h
            refine Run.no (wantS_not' rfl rfl hc136) rfl ?_
            refine Run.no (wantS_not' rfl rfl hc136) rfl ?_
            refine Run.no (wantS_not' rfl rfl hc136) rfl ?_
            refine Run.no (wantS_skip rfl rfl) rfl ?_
            refine Run.no (wantS_skip rfl rfl) rfl ?_
            refine Run.no (wantS_skip rfl rfl) rfl ?_
            refine Run.no (wantS_skip rfl rfl) rfl ?_
            refine Run.no (wantS_not' rfl rfl hc136) rfl ?_
            refine Run.opG wantS_none (ex_pickT' rfl hc136 rfl rfl) rfl ?_
            exact Run.pick [1, 5, 7, 8, 9, 11, 72] (law10_AlertChain_2_ok F (law10_AlertChain_1 F N) ih v1 v7 x51.Alert.Event true c43_1 l40 l47 r58 r133 sv1 b43 s40 s47 r47 s58_0 c58_0 s133_0 c133_0 _ _ _ hv1 hr47 hc58_0 hc133_0 (hH135.pick [1, 2, 3, 9, 0, 4, 5, 6] rfl rfl) h)
          · have h := bif_f hc136 h
            refine Run.opG (wantS_yes' rfl rfl hc136) (ex_move rfl) rfl ?_
            refine Run.opG (wantS_yes' rfl rfl hc136) (ex_neq rfl rfl) rfl ?_
            refine Run.opG (wantS_yes' rfl rfl hc136) (ex_move rfl) rfl ?_
            refine Run.opG (wantS_yes' rfl rfl hc130) (ex_move rfl) rfl ?_
            refine Run.opG (wantS_yes' rfl rfl hc130) (ex_move rfl) rfl ?_
            obtain ⟨r138, hr138, h⟩ := bnd_some h
            refine Run.callP (wantS_yes' rfl rfl hc130) (ex_call rfl mkk32 cal32) rfl (law10_sameAlerts_ok F r58 r133 s58_0 s133_0 _ _ (((hH135.slcR (i := 9) rfl hc58_0)).mono (fun _ _ h => h) (fun _ _ => rep29_mo hH135.le)) (((hH135.slcR (i := 0) rfl hc133_0)).mono (fun _ _ h => h) (fun _ _ => rep29_mo hH135.le)) hr138) ?_
            refine Run.opG (wantS_yes' rfl rfl hc130) (ex_not rfl) rfl ?_
            refine Run.opG (wantS_yes' rfl rfl hc136) (ex_pickT' rfl hc130 rfl rfl) rfl ?_
            refine Run.opG wantS_none (ex_pickF' rfl hc136 rfl rfl) rfl ?_
            exact Run.pick [1, 5, 7, 8, 9, 11, 72] (law10_AlertChain_2_ok F (law10_AlertChain_1 F N) ih v1 v7 x51.Alert.Event (!r138) c43_1 l40 l47 r58 r133 sv1 b43 s40 s47 r47 s58_0 c58_0 s133_0 c133_0 _ _ _ hv1 hr47 hc58_0 hc133_0 (hH135.pick [1, 2, 3, 9, 0, 4, 5, 6] rfl rfl) h)
        · have h := bif_f hc130 h
          refine Run.condF' rfl hc130 ?_
          refine Run.skip (Run.seq (Run.seq (Run.region ?_)))
          refine Run.opG wantS_none (ex_move rfl) rfl ?_
          refine Run.opG wantS_none (ex_nilP rfl) rfl ?_
          refine Run.opG wantS_none (ex_fieldAddr rfl off103_1) rfl ?_
          refine Run.opG wantS_none (ex_load1 rfl (hH127.cells (i := 1) rfl 2 rfl) rdLe_rfl agg66) rfl ?_
          refine Run.opG wantS_none (ex_len' rfl (hH127.slcR (i := 3) rfl hr47) lenk66) rfl ?_
          refine Run.opG wantS_none (ex_geq rfl rfl) rfl ?_
          refine Run.opsEnd ?_
          rcases btf ((decide ((256 : Int) ≤ (l47.length : Int)))) with hc140 | hc140
          · have h := bif_t hc140 h
            refine Run.condT' rfl hc140 ?_
            refine Run.seq (Run.region ?_)
            refine Run.opG wantS_none (ex_assign rfl) rfl ?_
            refine Run.opsEnd ?_
            refine Run.retTo Tryd.func31 rfl (res_tmp rfl res_nil) rfl ?_
            refine Run.opG wantS_none (ex_assign rfl) rfl ?_
            refine Run.opsEnd (Run.seq (Run.region ?_))
            refine Run.opG wantS_none (ex_move rfl) rfl ?_
            refine Run.opG wantS_none (ex_move rfl) rfl ?_
            refine Run.enter wantS_none (ex_call rfl mkk30 cal30) Tryd.func30 rfl rfl ?_
            refine Run.seq (Run.region ?_)
            refine Run.opG wantS_none (ex_assign rfl) rfl ?_
            refine Run.opsEnd (Run.seq (Run.seq (Run.region ?_)))
            refine Run.opG wantS_none (ex_move rfl) rfl ?_
            refine Run.enter wantS_none (ex_call rfl mkk65 cal65) Tryd.func65 rfl rfl ?_
            refine Run.seq (Run.region ?_)
            refine Run.opG wantS_none (ex_assign rfl) rfl ?_
            refine Run.opsEnd (Run.seq (Run.region ?_))
            refine Run.opG wantS_none (ex_move rfl) rfl ?_
            refine Run.opG wantS_none (ex_ptrPNn rfl rfl eqk67) rfl ?_
            refine Run.opG wantS_none (ex_move rfl) rfl ?_
            refine Run.opG (wantS_yes' rfl rfl rfl) (ex_move rfl) rfl ?_
            refine Run.opG (wantS_yes' rfl rfl rfl) (ex_nilP rfl) rfl ?_
            refine Run.opG (wantS_yes' rfl rfl rfl) (ex_fieldAddr rfl off103_2) rfl ?_
            refine Run.opG (wantS_yes' rfl rfl rfl) (ex_load1 rfl (hH127.cells (i := 1) rfl 3 rfl) rdLe_rfl agg67) rfl ?_
            refine Run.opG (wantS_yes' rfl rfl rfl) (ex_move rfl) rfl ?_
            refine Run.opG (wantS_yes' rfl rfl rfl) (ex_ptrSame rfl rfl pte67 inf103) rfl ?_
            refine Run.opG wantS_none (ex_pickT' rfl rfl rfl rfl) rfl ?_
            refine Run.opG wantS_none (ex_assign rfl) rfl ?_
            refine Run.opsEnd ?_
            refine Run.retTo Tryd.func65 rfl (res_tmp rfl res_nil) rfl ?_
            refine Run.opG wantS_none (ex_not rfl) rfl ?_
            refine Run.opsEnd ?_
            refine Run.condF' rfl (bnot_f rfl) ?_
            refine Run.skip (Run.seq (Run.region ?_))
            refine Run.opG wantS_none (ex_move rfl) rfl ?_
            refine Run.opG wantS_none (ex_move rfl) rfl ?_
            obtain ⟨r143, hr143, h⟩ := bnd_some h
            refine Run.callX wantS_none (ex_call rfl mkk66 cal66) rfl (alert_Board_alertsOf_h2_ok F x51.Alert.Event c43_1 l40 l47 b43 s40 s47 r47 F125 [.vec 29 9 r125.length s125_0 c125_0, .obj b64 (.row 46 .whole [(.str x62.Alert.Event), (.int .i64 x62.Alert.Version), (.int .i64 x62.Alert.Time), (.int .i64 x62.Alert.Chance.N), (.int .i64 x62.Alert.Chance.Of), (.int .i64 x62.Alert.Grid), q62_0, (.bool x62.Alert.Withdrawn), (.int .i64 x62.Alert.Before), q62_1]), .vec 29 9 r58.length s58_0 c58_0] _ _ hr47 (hH127.pick [1, 2, 3, 4, 5, 6, 0, 7, 8] rfl rfl) hr143) ?_
            rintro s143_0 M145 ⟨_, rfl, F143, hle143, c143_0, hc143_0, (hH145 : Has F143 M145 [.vec 29 9 r143.length s143_0 c143_0, .obj b43 (.row 103 .whole [s40, (.int .i64 c43_1), s47, (.ptr b43 0)]), .vec 79 2 l40.length s40 (l40.flatMap enc79), .vec 46 10 l47.length s47 r47, tb0, tb1, tb2, .vec 29 9 r125.length s125_0 c125_0, .obj b64 (.row 46 .whole [(.str x62.Alert.Event), (.int .i64 x62.Alert.Version), (.int .i64 x62.Alert.Time), (.int .i64 x62.Alert.Chance.N), (.int .i64 x62.Alert.Chance.Of), (.int .i64 x62.Alert.Grid), q62_0, (.bool x62.Alert.Withdrawn), (.int .i64 x62.Alert.Before), q62_1]), .vec 29 9 r58.length s58_0 c58_0])⟩
            replace hq62_0 := hq62_0.mono hle143 (fun _ _ h => h)
            replace hq62_1 := hq62_1.mono hle143 (fun _ _ h => h)
            replace hv1 := hv1.mono hle143 (fun _ _ => rep46_mo hle143)
            replace hc125_0 := hc125_0.mono fun _ _ => rep29_mo hle143
            replace hc58_0 := hc58_0.mono fun _ _ => rep29_mo hle143
            replace hr47 := hr47.mono fun _ _ => rep46_mo hle143
            refine Run.opG wantS_none (ex_assign rfl) rfl ?_
            refine Run.opsEnd ?_
            refine Run.retTo Tryd.func30 rfl (res_tmp rfl res_nil) rfl ?_
            refine Run.opG wantS_none (ex_assign rfl) rfl ?_
            refine Run.opsEnd (Run.seq (Run.seq (Run.region ?_)))
            refine Run.opG wantS_none (ex_move rfl) rfl ?_
            refine Run.opG wantS_none (ex_eql rfl rfl) rfl ?_
            refine Run.opG wantS_none (ex_move rfl) rfl ?_
            refine Run.opG wantS_none (ex_len' rfl (hH145.slcR (i := 0) rfl hc143_0) lenk70) rfl ?_
            refine Run.opG wantS_none (ex_move rfl) rfl ?_
            refine Run.opG wantS_none (ex_len' rfl (hH145.slcR (i := 9) rfl hc58_0) lenk70) rfl ?_
            refine Run.opG wantS_none (ex_add rfl rfl) rfl ?_
            refine Run.opG wantS_none (ex_eql rfl rfl) rfl ?_
            refine Run.opG wantS_none (ex_neqB rfl rfl eqk4) rfl ?_
            refine Run.opG wantS_none (ex_move rfl) rfl ?_
            rcases btf ((!(((7 : Int) == (0 : Int)) == ((r143.length : Int) == (w64 ((r58.length : Int) + (1 : Int))))))) with hc146 | hc146
            · have h := bif_t hc146 h
              refine Run.no (wantS_not' rfl rfl hc146) rfl ?_
              refine Run.no (wantS_not' rfl rfl hc146) rfl ?_
              refine Run.no (wantS_not' rfl rfl hc146) rfl ?_
              refine Run.no (wantS_skip rfl rfl) rfl ?_
              refine Run.no (wantS_skip rfl rfl) rfl ?_
              refine Run.no (wantS_skip rfl rfl) rfl ?_
              refine Run.no (wantS_skip rfl rfl) rfl ?_
              refine Run.no (wantS_not' rfl rfl hc146) rfl ?_
              refine Run.opG wantS_none (ex_pickT' rfl hc146 rfl rfl) rfl ?_
              exact Run.pick [1, 5, 7, 8, 9, 11, 72] (law10_AlertChain_2_ok F (law10_AlertChain_1 F N) ih v1 v7 x51.Alert.Event true c43_1 l40 l47 r58 r143 sv1 b43 s40 s47 r47 s58_0 c58_0 s143_0 c143_0 _ _ _ hv1 hr47 hc58_0 hc143_0 (hH145.pick [1, 2, 3, 9, 0, 4, 5, 6] rfl rfl) h)
            · have h := bif_f hc146 h
              refine Run.opG (wantS_yes' rfl rfl hc146) (ex_move rfl) rfl ?_
              refine Run.opG (wantS_yes' rfl rfl hc146) (ex_neq rfl rfl) rfl ?_
              refine Run.opG (wantS_yes' rfl rfl hc146) (ex_move rfl) rfl ?_
              rcases btf ((!((7 : Int) == (0 : Int)))) with hc147 | hc147
              · have h := bif_t hc147 h
                refine Run.opG (wantS_yes' rfl rfl hc147) (ex_move rfl) rfl ?_
                refine Run.opG (wantS_yes' rfl rfl hc147) (ex_move rfl) rfl ?_
                obtain ⟨r149, hr149, h⟩ := bnd_some h
                refine Run.callP (wantS_yes' rfl rfl hc147) (ex_call rfl mkk32 cal32) rfl (law10_sameAlerts_ok F r58 r143 s58_0 s143_0 _ _ (((hH145.slcR (i := 9) rfl hc58_0)).mono (fun _ _ h => h) (fun _ _ => rep29_mo hH145.le)) (((hH145.slcR (i := 0) rfl hc143_0)).mono (fun _ _ h => h) (fun _ _ => rep29_mo hH145.le)) hr149) ?_
                refine Run.opG (wantS_yes' rfl rfl hc147) (ex_not rfl) rfl ?_
                refine Run.opG (wantS_yes' rfl rfl hc146) (ex_pickT' rfl hc147 rfl rfl) rfl ?_
                exact Run.pick [1, 5, 7, 8, 9, 11, 63, 71] (law10_AlertChain_11_ok F (law10_AlertChain_1 F N) ih v1 v7 x51.Alert.Event (!(((7 : Int) == (0 : Int)) == ((r143.length : Int) == (w64 ((r58.length : Int) + (1 : Int)))))) (!r149) c43_1 l40 l47 r58 r143 sv1 b43 s40 s47 r47 s58_0 c58_0 s143_0 c143_0 _ _ _ hv1 hr47 hc58_0 hc143_0 (hH145.pick [1, 2, 3, 9, 0, 4, 5, 6] rfl rfl) h)
              · have h := bif_f hc147 h
                refine Run.no (wantS_not' rfl rfl hc147) rfl ?_
                refine Run.no (wantS_not' rfl rfl hc147) rfl ?_
                refine Run.no (wantS_not' rfl rfl hc147) rfl ?_
                refine Run.no (wantS_not' rfl rfl hc147) rfl ?_
                refine Run.opG (wantS_yes' rfl rfl hc146) (ex_pickF' rfl hc147 rfl rfl) rfl ?_
                exact Run.pick [1, 5, 7, 8, 9, 11, 63, 71] (law10_AlertChain_11_ok F (law10_AlertChain_1 F N) ih v1 v7 x51.Alert.Event (!(((7 : Int) == (0 : Int)) == ((r143.length : Int) == (w64 ((r58.length : Int) + (1 : Int)))))) false c43_1 l40 l47 r58 r143 sv1 b43 s40 s47 r47 s58_0 c58_0 s143_0 c143_0 _ _ _ hv1 hr47 hc58_0 hc143_0 (hH145.pick [1, 2, 3, 9, 0, 4, 5, 6] rfl rfl) h)
          · have h := bif_f hc140 h
            refine Run.condF' rfl hc140 ?_
            refine Run.skip (Run.seq ?_)
            refine Run.drawG plan31_1_1_1_1_1_0 ?_
            refine DrawG.fl rfl (ev_ex wantS_none (ex_move rfl)) rfl ?_
            refine DrawG.fl rfl (ev_ex wantS_none (ex_move rfl)) rfl ?_
            refine DrawG.fl rfl (ev_ex wantS_none (ex_nilP rfl)) rfl ?_
            refine DrawG.fl rfl (ev_ex wantS_none (ex_fieldAddr rfl off103_1)) rfl ?_
            refine DrawG.fl rfl (ev_ex wantS_none (ex_load1 rfl (hH127.cells (i := 1) rfl 2 rfl) rdLe_rfl agg66)) rfl ?_
            refine DrawG.fl rfl (ev_ex wantS_none (ex_loadA rfl (hH127.cells (i := 7) rfl 0 rfl) rdLe_rfl agg46 rfl rfl rfl)) rfl ?_
            obtain ⟨r151, hr151, h⟩ := bnd_some h
            refine DrawG.call rfl wantS_none (ex_call rfl mkk68 cal68) rfl (alert_copyOfNotice_h2_ok F x62.Alert.Event x62.Alert.Version x62.Alert.Time x62.Alert.Chance.N x62.Alert.Chance.Of x62.Alert.Grid x62.Alert.Cells x62.Alert.Withdrawn x62.Alert.Before x62.Signatures q62_0 q62_1 F125 [.vec 29 9 r125.length s125_0 c125_0, .obj b43 (.row 103 .whole [s40, (.int .i64 c43_1), s47, (.ptr b43 0)]), .vec 79 2 l40.length s40 (l40.flatMap enc79), .vec 46 10 l47.length s47 r47, .obj b64 (.row 46 .whole [(.str x62.Alert.Event), (.int .i64 x62.Alert.Version), (.int .i64 x62.Alert.Time), (.int .i64 x62.Alert.Chance.N), (.int .i64 x62.Alert.Chance.Of), (.int .i64 x62.Alert.Grid), q62_0, (.bool x62.Alert.Withdrawn), (.int .i64 x62.Alert.Before), q62_1]), .vec 29 9 r58.length s58_0 c58_0] _ _ hq62_0 hq62_1 (hH127.pick [4, 5, 6, 0, 1, 2, 3, 7, 8] rfl rfl) hr151) ?_
            rintro _ M152 ⟨s151_0, s151_1, rfl, F151, hle151, hq151_0, hq151_1, (hH152 : Has F151 M152 [tb0, tb1, tb2, .vec 29 9 r125.length s125_0 c125_0, .obj b43 (.row 103 .whole [s40, (.int .i64 c43_1), s47, (.ptr b43 0)]), .vec 79 2 l40.length s40 (l40.flatMap enc79), .vec 46 10 l47.length s47 r47, .obj b64 (.row 46 .whole [(.str x62.Alert.Event), (.int .i64 x62.Alert.Version), (.int .i64 x62.Alert.Time), (.int .i64 x62.Alert.Chance.N), (.int .i64 x62.Alert.Chance.Of), (.int .i64 x62.Alert.Grid), q62_0, (.bool x62.Alert.Withdrawn), (.int .i64 x62.Alert.Before), q62_1]), .vec 29 9 r58.length s58_0 c58_0])⟩
            replace hq62_0 := hq62_0.mono hle151 (fun _ _ h => h)
            replace hq62_1 := hq62_1.mono hle151 (fun _ _ h => h)
            replace hv1 := hv1.mono hle151 (fun _ _ => rep46_mo hle151)
            replace hc125_0 := hc125_0.mono fun _ _ => rep29_mo hle151
            replace hc58_0 := hc58_0.mono fun _ _ => rep29_mo hle151
            replace hr47 := hr47.mono fun _ _ => rep46_mo hle151
            refine ⟨(st_cons rfl (ev_ex wantS_none (ex_load1 rfl (hH152.cells (i := 4) rfl 2 rfl) rdLe_rfl agg66)) rfl rfl (blk_self hH152 (i := 6) rfl) (st_cons rfl (ev_ex wantS_none (ex_fieldAddr rfl off103_1)) rfl rfl rfl (st_cons rfl (ev_ex wantS_none (ex_nilP rfl)) rfl rfl rfl (st_cons rfl (ev_ex wantS_none (ex_move rfl)) rfl rfl rfl (st_cons rfl (ev_ex wantS_none (ex_move rfl)) rfl rfl rfl st_nil))))), ?_⟩
            have hr153 : Rows (rep46 F151) 10 [(.str r151.1), (.int .i64 r151.2.1), (.int .i64 r151.2.2.1), (.int .i64 r151.2.2.2.1), (.int .i64 r151.2.2.2.2.1), (.int .i64 r151.2.2.2.2.2.1), s151_0, (.bool r151.2.2.2.2.2.2.2.1), (.int .i64 r151.2.2.2.2.2.2.2.2.1), s151_1] ([(S_api_Notice.mk (S_api_Alert.mk r151.1 r151.2.1 r151.2.2.1 (S_api_Chance.mk r151.2.2.2.1 r151.2.2.2.2.1) r151.2.2.2.2.2.1 r151.2.2.2.2.2.2.1 r151.2.2.2.2.2.2.2.1 r151.2.2.2.2.2.2.2.2.1) r151.2.2.2.2.2.2.2.2.2)] : List S_api_Notice) := (Rows.cons (cs := [(.str r151.1), (.int .i64 r151.2.1), (.int .i64 r151.2.2.1), (.int .i64 r151.2.2.2.1), (.int .i64 r151.2.2.2.2.1), (.int .i64 r151.2.2.2.2.2.1), s151_0, (.bool r151.2.2.2.2.2.2.2.1), (.int .i64 r151.2.2.2.2.2.2.2.2.1), s151_1]) rfl ⟨s151_0, s151_1, rfl, hq151_0, hq151_1⟩ Rows.nil)
            refine DrawG.opX rfl wantS_none rfl (ExG.builtR (z := 10) (c := [(.str r151.1), (.int .i64 r151.2.1), (.int .i64 r151.2.2.1), (.int .i64 r151.2.2.2.1), (.int .i64 r151.2.2.2.2.1), (.int .i64 r151.2.2.2.2.2.1), s151_0, (.bool r151.2.2.2.2.2.2.2.1), (.int .i64 r151.2.2.2.2.2.2.2.2.1), s151_1]) rfl elt66 rfl rfl rfl hH152) ?_
            rintro s153 M154 (hH154 : Has F151 M154 [.vec 46 10 ([(S_api_Notice.mk (S_api_Alert.mk r151.1 r151.2.1 r151.2.2.1 (S_api_Chance.mk r151.2.2.2.1 r151.2.2.2.2.1) r151.2.2.2.2.2.1 r151.2.2.2.2.2.2.1 r151.2.2.2.2.2.2.2.1 r151.2.2.2.2.2.2.2.2.1) r151.2.2.2.2.2.2.2.2.2)] : List S_api_Notice).length s153 [(.str r151.1), (.int .i64 r151.2.1), (.int .i64 r151.2.2.1), (.int .i64 r151.2.2.2.1), (.int .i64 r151.2.2.2.2.1), (.int .i64 r151.2.2.2.2.2.1), s151_0, (.bool r151.2.2.2.2.2.2.2.1), (.int .i64 r151.2.2.2.2.2.2.2.2.1), s151_1], tb0, tb1, tb2, .vec 29 9 r125.length s125_0 c125_0, .obj b43 (.row 103 .whole [s40, (.int .i64 c43_1), s47, (.ptr b43 0)]), .vec 79 2 l40.length s40 (l40.flatMap enc79), .vec 46 10 l47.length s47 r47, .obj b64 (.row 46 .whole [(.str x62.Alert.Event), (.int .i64 x62.Alert.Version), (.int .i64 x62.Alert.Time), (.int .i64 x62.Alert.Chance.N), (.int .i64 x62.Alert.Chance.Of), (.int .i64 x62.Alert.Grid), q62_0, (.bool x62.Alert.Withdrawn), (.int .i64 x62.Alert.Before), q62_1]), .vec 29 9 r58.length s58_0 c58_0])
            refine ⟨(st_cons rfl (ev_ex wantS_none (ex_load1 rfl (hH154.cells (i := 5) rfl 2 rfl) rdLe_rfl agg66)) rfl rfl (blk_self hH154 (i := 7) rfl) (st_cons rfl (ev_ex wantS_none (ex_fieldAddr rfl off103_1)) rfl rfl rfl (st_cons rfl (ev_ex wantS_none (ex_nilP rfl)) rfl rfl rfl (st_cons rfl (ev_ex wantS_none (ex_move rfl)) rfl rfl rfl (st_cons rfl (ev_ex wantS_none (ex_move rfl)) rfl rfl rfl st_nil))))), ?_⟩
            obtain ⟨l155, hl155, h⟩ := bnd_some h
            refine DrawG.opX rfl wantS_none rfl (ExG.appendQ (R := (rep46 F151)) rfl rfl hH154 (i := 7) rfl hr47 (fun _ _ => rep46_ones) rfl appt66_66 rfl (hH154.slcR (i := 0) rfl hr153) (rdLe_rdRow _) hl155) ?_
            rintro s155 M157 ⟨r155, hr155, (hH157 : Has F151 M157 [.vec 46 10 ([(S_api_Notice.mk (S_api_Alert.mk r151.1 r151.2.1 r151.2.2.1 (S_api_Chance.mk r151.2.2.2.1 r151.2.2.2.2.1) r151.2.2.2.2.2.1 r151.2.2.2.2.2.2.1 r151.2.2.2.2.2.2.2.1 r151.2.2.2.2.2.2.2.2.1) r151.2.2.2.2.2.2.2.2.2)] : List S_api_Notice).length s153 [(.str r151.1), (.int .i64 r151.2.1), (.int .i64 r151.2.2.1), (.int .i64 r151.2.2.2.1), (.int .i64 r151.2.2.2.2.1), (.int .i64 r151.2.2.2.2.2.1), s151_0, (.bool r151.2.2.2.2.2.2.2.1), (.int .i64 r151.2.2.2.2.2.2.2.2.1), s151_1], tb0, tb1, tb2, .vec 29 9 r125.length s125_0 c125_0, .obj b43 (.row 103 .whole [s40, (.int .i64 c43_1), s47, (.ptr b43 0)]), .vec 79 2 l40.length s40 (l40.flatMap enc79), .vec 46 10 l155.length s155 r155, .obj b64 (.row 46 .whole [(.str x62.Alert.Event), (.int .i64 x62.Alert.Version), (.int .i64 x62.Alert.Time), (.int .i64 x62.Alert.Chance.N), (.int .i64 x62.Alert.Chance.Of), (.int .i64 x62.Alert.Grid), q62_0, (.bool x62.Alert.Withdrawn), (.int .i64 x62.Alert.Before), q62_1]), .vec 29 9 r58.length s58_0 c58_0])⟩
            refine ⟨(st_cons rfl (ev_ex wantS_none (ex_move rfl)) rfl rfl rfl st_nil), ?_⟩
            refine DrawG.fl rfl (ev_ex wantS_none (ex_nilP rfl)) rfl ?_
            refine DrawG.fl rfl (ev_ex wantS_none (ex_fieldAddr rfl off103_1)) rfl ?_
            refine DrawG.opX rfl wantS_none rfl (ExG.storeC (c' := [s40, (.int .i64 c43_1), s155, (.ptr b43 0)]) rfl rfl (cells_one (vec_one hH157 (i := 7) rfl)) hH157 (i := 5) rfl sz66 rfl rfl rfl (ones_cons (vec_one hH157 (i := 7) rfl) ones_nil) rfl) ?_
            rintro _ M158 ⟨rfl, (hH158 : Has F151 M158 [.vec 46 10 ([(S_api_Notice.mk (S_api_Alert.mk r151.1 r151.2.1 r151.2.2.1 (S_api_Chance.mk r151.2.2.2.1 r151.2.2.2.2.1) r151.2.2.2.2.2.1 r151.2.2.2.2.2.2.1 r151.2.2.2.2.2.2.2.1 r151.2.2.2.2.2.2.2.2.1) r151.2.2.2.2.2.2.2.2.2)] : List S_api_Notice).length s153 [(.str r151.1), (.int .i64 r151.2.1), (.int .i64 r151.2.2.1), (.int .i64 r151.2.2.2.1), (.int .i64 r151.2.2.2.2.1), (.int .i64 r151.2.2.2.2.2.1), s151_0, (.bool r151.2.2.2.2.2.2.2.1), (.int .i64 r151.2.2.2.2.2.2.2.2.1), s151_1], tb0, tb1, tb2, .vec 29 9 r125.length s125_0 c125_0, .obj b43 (.row 103 .whole [s40, (.int .i64 c43_1), s155, (.ptr b43 0)]), .vec 79 2 l40.length s40 (l40.flatMap enc79), .vec 46 10 l155.length s155 r155, .obj b64 (.row 46 .whole [(.str x62.Alert.Event), (.int .i64 x62.Alert.Version), (.int .i64 x62.Alert.Time), (.int .i64 x62.Alert.Chance.N), (.int .i64 x62.Alert.Chance.Of), (.int .i64 x62.Alert.Grid), q62_0, (.bool x62.Alert.Withdrawn), (.int .i64 x62.Alert.Before), q62_1]), .vec 29 9 r58.length s58_0 c58_0])⟩
            refine ⟨st_nil, ?_⟩
            refine DrawG.sync ?_
            refine DrawG.nil ?_
            refine Run.seq (Run.region ?_)
            refine Run.opG wantS_none (ex_assign rfl) rfl ?_
            refine Run.opsEnd ?_
            refine Run.retTo Tryd.func31 rfl (res_tmp rfl res_nil) rfl ?_
            refine Run.opG wantS_none (ex_assign rfl) rfl ?_
            refine Run.opsEnd (Run.seq (Run.region ?_))
            refine Run.opG wantS_none (ex_move rfl) rfl ?_
            refine Run.opG wantS_none (ex_move rfl) rfl ?_
            refine Run.enter wantS_none (ex_call rfl mkk30 cal30) Tryd.func30 rfl rfl ?_
            refine Run.seq (Run.region ?_)
            refine Run.opG wantS_none (ex_assign rfl) rfl ?_
            refine Run.opsEnd (Run.seq (Run.seq (Run.region ?_)))
            refine Run.opG wantS_none (ex_move rfl) rfl ?_
            refine Run.enter wantS_none (ex_call rfl mkk65 cal65) Tryd.func65 rfl rfl ?_
            refine Run.seq (Run.region ?_)
            refine Run.opG wantS_none (ex_assign rfl) rfl ?_
            refine Run.opsEnd (Run.seq (Run.region ?_))
            refine Run.opG wantS_none (ex_move rfl) rfl ?_
            refine Run.opG wantS_none (ex_ptrPNn rfl rfl eqk67) rfl ?_
            refine Run.opG wantS_none (ex_move rfl) rfl ?_
            refine Run.opG (wantS_yes' rfl rfl rfl) (ex_move rfl) rfl ?_
            refine Run.opG (wantS_yes' rfl rfl rfl) (ex_nilP rfl) rfl ?_
            refine Run.opG (wantS_yes' rfl rfl rfl) (ex_fieldAddr rfl off103_2) rfl ?_
            refine Run.opG (wantS_yes' rfl rfl rfl) (ex_load1 rfl (hH158.cells (i := 5) rfl 3 rfl) rdLe_rfl agg67) rfl ?_
            refine Run.opG (wantS_yes' rfl rfl rfl) (ex_move rfl) rfl ?_
            refine Run.opG (wantS_yes' rfl rfl rfl) (ex_ptrSame rfl rfl pte67 inf103) rfl ?_
            refine Run.opG wantS_none (ex_pickT' rfl rfl rfl rfl) rfl ?_
            refine Run.opG wantS_none (ex_assign rfl) rfl ?_
            refine Run.opsEnd ?_
            refine Run.retTo Tryd.func65 rfl (res_tmp rfl res_nil) rfl ?_
            refine Run.opG wantS_none (ex_not rfl) rfl ?_
            refine Run.opsEnd ?_
            refine Run.condF' rfl (bnot_f rfl) ?_
            refine Run.skip (Run.seq (Run.region ?_))
            refine Run.opG wantS_none (ex_move rfl) rfl ?_
            refine Run.opG wantS_none (ex_move rfl) rfl ?_
            obtain ⟨r161, hr161, h⟩ := bnd_some h
            refine Run.callX wantS_none (ex_call rfl mkk66 cal66) rfl (alert_Board_alertsOf_h2_ok F x51.Alert.Event c43_1 l40 l155 b43 s40 s155 r155 F151 [.vec 46 10 ([(S_api_Notice.mk (S_api_Alert.mk r151.1 r151.2.1 r151.2.2.1 (S_api_Chance.mk r151.2.2.2.1 r151.2.2.2.2.1) r151.2.2.2.2.2.1 r151.2.2.2.2.2.2.1 r151.2.2.2.2.2.2.2.1 r151.2.2.2.2.2.2.2.2.1) r151.2.2.2.2.2.2.2.2.2)] : List S_api_Notice).length s153 [(.str r151.1), (.int .i64 r151.2.1), (.int .i64 r151.2.2.1), (.int .i64 r151.2.2.2.1), (.int .i64 r151.2.2.2.2.1), (.int .i64 r151.2.2.2.2.2.1), s151_0, (.bool r151.2.2.2.2.2.2.2.1), (.int .i64 r151.2.2.2.2.2.2.2.2.1), s151_1], .vec 29 9 r125.length s125_0 c125_0, .obj b64 (.row 46 .whole [(.str x62.Alert.Event), (.int .i64 x62.Alert.Version), (.int .i64 x62.Alert.Time), (.int .i64 x62.Alert.Chance.N), (.int .i64 x62.Alert.Chance.Of), (.int .i64 x62.Alert.Grid), q62_0, (.bool x62.Alert.Withdrawn), (.int .i64 x62.Alert.Before), q62_1]), .vec 29 9 r58.length s58_0 c58_0] _ _ hr155 (hH158.pick [5, 6, 7, 1, 2, 3, 0, 4, 8, 9] rfl rfl) hr161) ?_
            rintro s161_0 M163 ⟨_, rfl, F161, hle161, c161_0, hc161_0, (hH163 : Has F161 M163 [.vec 29 9 r161.length s161_0 c161_0, .obj b43 (.row 103 .whole [s40, (.int .i64 c43_1), s155, (.ptr b43 0)]), .vec 79 2 l40.length s40 (l40.flatMap enc79), .vec 46 10 l155.length s155 r155, tb0, tb1, tb2, .vec 46 10 ([(S_api_Notice.mk (S_api_Alert.mk r151.1 r151.2.1 r151.2.2.1 (S_api_Chance.mk r151.2.2.2.1 r151.2.2.2.2.1) r151.2.2.2.2.2.1 r151.2.2.2.2.2.2.1 r151.2.2.2.2.2.2.2.1 r151.2.2.2.2.2.2.2.2.1) r151.2.2.2.2.2.2.2.2.2)] : List S_api_Notice).length s153 [(.str r151.1), (.int .i64 r151.2.1), (.int .i64 r151.2.2.1), (.int .i64 r151.2.2.2.1), (.int .i64 r151.2.2.2.2.1), (.int .i64 r151.2.2.2.2.2.1), s151_0, (.bool r151.2.2.2.2.2.2.2.1), (.int .i64 r151.2.2.2.2.2.2.2.2.1), s151_1], .vec 29 9 r125.length s125_0 c125_0, .obj b64 (.row 46 .whole [(.str x62.Alert.Event), (.int .i64 x62.Alert.Version), (.int .i64 x62.Alert.Time), (.int .i64 x62.Alert.Chance.N), (.int .i64 x62.Alert.Chance.Of), (.int .i64 x62.Alert.Grid), q62_0, (.bool x62.Alert.Withdrawn), (.int .i64 x62.Alert.Before), q62_1]), .vec 29 9 r58.length s58_0 c58_0])⟩
            replace hq62_0 := hq62_0.mono hle161 (fun _ _ h => h)
            replace hq62_1 := hq62_1.mono hle161 (fun _ _ h => h)
            replace hv1 := hv1.mono hle161 (fun _ _ => rep46_mo hle161)
            replace hc125_0 := hc125_0.mono fun _ _ => rep29_mo hle161
            replace hc58_0 := hc58_0.mono fun _ _ => rep29_mo hle161
            replace hr153 := hr153.mono fun _ _ => rep46_mo hle161
            replace hr155 := hr155.mono fun _ _ => rep46_mo hle161
            refine Run.opG wantS_none (ex_assign rfl) rfl ?_
            refine Run.opsEnd ?_
            refine Run.retTo Tryd.func30 rfl (res_tmp rfl res_nil) rfl ?_
            refine Run.opG wantS_none (ex_assign rfl) rfl ?_
            refine Run.opsEnd (Run.seq (Run.seq (Run.region ?_)))
            refine Run.opG wantS_none (ex_move rfl) rfl ?_
            refine Run.opG wantS_none (ex_eql rfl rfl) rfl ?_
            refine Run.opG wantS_none (ex_move rfl) rfl ?_
            refine Run.opG wantS_none (ex_len' rfl (hH163.slcR (i := 0) rfl hc161_0) lenk70) rfl ?_
            refine Run.opG wantS_none (ex_move rfl) rfl ?_
            refine Run.opG wantS_none (ex_len' rfl (hH163.slcR (i := 10) rfl hc58_0) lenk70) rfl ?_
            refine Run.opG wantS_none (ex_add rfl rfl) rfl ?_
            refine Run.opG wantS_none (ex_eql rfl rfl) rfl ?_
            refine Run.opG wantS_none (ex_neqB rfl rfl eqk4) rfl ?_
            refine Run.opG wantS_none (ex_move rfl) rfl ?_
            rcases btf ((!(((0 : Int) == (0 : Int)) == ((r161.length : Int) == (w64 ((r58.length : Int) + (1 : Int))))))) with hc164 | hc164
            · have h := bif_t hc164 h
              refine Run.no (wantS_not' rfl rfl hc164) rfl ?_
              refine Run.no (wantS_not' rfl rfl hc164) rfl ?_
              refine Run.no (wantS_not' rfl rfl hc164) rfl ?_
              refine Run.no (wantS_skip rfl rfl) rfl ?_
              refine Run.no (wantS_skip rfl rfl) rfl ?_
              refine Run.no (wantS_skip rfl rfl) rfl ?_
              refine Run.no (wantS_skip rfl rfl) rfl ?_
              refine Run.no (wantS_not' rfl rfl hc164) rfl ?_
              exact Run.pick [1, 5, 7, 8, 9, 11, 63, 71] (law10_AlertChain_12_ok F (law10_AlertChain_1 F N) ih v1 v7 x51.Alert.Event (!(((0 : Int) == (0 : Int)) == ((r161.length : Int) == (w64 ((r58.length : Int) + (1 : Int)))))) c43_1 l40 l155 r58 r161 sv1 b43 s40 s155 r155 s58_0 c58_0 s161_0 c161_0 _ _ _ hv1 hr155 hc58_0 hc161_0 (hH163.pick [1, 2, 3, 10, 0, 4, 5, 6] rfl rfl) h)
            · have h := bif_f hc164 h
              refine Run.opG (wantS_yes' rfl rfl hc164) (ex_move rfl) rfl ?_
              refine Run.opG (wantS_yes' rfl rfl hc164) (ex_neq rfl rfl) rfl ?_
              refine Run.opG (wantS_yes' rfl rfl hc164) (ex_move rfl) rfl ?_
              rcases btf ((!((0 : Int) == (0 : Int)))) with hc166 | hc166
              · have h := bif_t hc166 h
                refine Run.opG (wantS_yes' rfl rfl hc166) (ex_move rfl) rfl ?_
                refine Run.opG (wantS_yes' rfl rfl hc166) (ex_move rfl) rfl ?_
                obtain ⟨r168, hr168, h⟩ := bnd_some h
                refine Run.callP (wantS_yes' rfl rfl hc166) (ex_call rfl mkk32 cal32) rfl (law10_sameAlerts_ok F r58 r161 s58_0 s161_0 _ _ (((hH163.slcR (i := 10) rfl hc58_0)).mono (fun _ _ h => h) (fun _ _ => rep29_mo hH163.le)) (((hH163.slcR (i := 0) rfl hc161_0)).mono (fun _ _ h => h) (fun _ _ => rep29_mo hH163.le)) hr168) ?_
                refine Run.opG (wantS_yes' rfl rfl hc166) (ex_not rfl) rfl ?_
                refine Run.opG (wantS_yes' rfl rfl hc164) (ex_pickT' rfl hc166 rfl rfl) rfl ?_
                exact Run.pick [1, 5, 7, 8, 9, 11, 63, 71] (law10_AlertChain_11_ok F (law10_AlertChain_1 F N) ih v1 v7 x51.Alert.Event (!(((0 : Int) == (0 : Int)) == ((r161.length : Int) == (w64 ((r58.length : Int) + (1 : Int)))))) (!r168) c43_1 l40 l155 r58 r161 sv1 b43 s40 s155 r155 s58_0 c58_0 s161_0 c161_0 _ _ _ hv1 hr155 hc58_0 hc161_0 (hH163.pick [1, 2, 3, 10, 0, 4, 5, 6] rfl rfl) h)
              · have h := bif_f hc166 h
                refine Run.no (wantS_not' rfl rfl hc166) rfl ?_
                refine Run.no (wantS_not' rfl rfl hc166) rfl ?_
                refine Run.no (wantS_not' rfl rfl hc166) rfl ?_
                refine Run.no (wantS_not' rfl rfl hc166) rfl ?_
                refine Run.opG (wantS_yes' rfl rfl hc164) (ex_pickF' rfl hc166 rfl rfl) rfl ?_
                exact Run.pick [1, 5, 7, 8, 9, 11, 63, 71] (law10_AlertChain_11_ok F (law10_AlertChain_1 F N) ih v1 v7 x51.Alert.Event (!(((0 : Int) == (0 : Int)) == ((r161.length : Int) == (w64 ((r58.length : Int) + (1 : Int)))))) false c43_1 l40 l155 r58 r161 sv1 b43 s40 s155 r155 s58_0 c58_0 s161_0 c161_0 _ _ _ hv1 hr155 hc58_0 hc161_0 (hH163.pick [1, 2, 3, 10, 0, 4, 5, 6] rfl rfl) h)
    · have h := bif_f hc49 h
      refine Run.condF' rfl hc49 ?_
      refine Run.exit rfl (Run.seq (Run.region ?_))
      obtain ⟨r171, hr171, h⟩ := bnd_some h
      refine Run.callP wantS_none (ex_call rfl mkk14 cal14) rfl (works_ok F r171 _ hH (List.mem_of_getElem? (i := 3) rfl) (List.mem_of_getElem? (i := 4) rfl) (List.mem_of_getElem? (i := 5) rfl) hr171) ?_
      refine Run.opG wantS_none (ex_assign rfl) rfl ?_
      refine Run.opsEnd ?_
      cases h
      exact Run.ret Tryd.func7 rfl (res_tmp rfl res_nil) rfl

def law10_AlertChain (F : Nat) (a0 : S_api_Roll) (a1 : (List S_api_Notice)) : Option (Bool) :=
  bnd (alert_CheckRoll F a0) fun r31 =>
  bif (!(r31 == (0 : Int))) then
    bnd (works F) fun r35 =>
    some r35
  else
    bnd (alert_rollOf F a0) fun r39 =>
    bif (!((0 : Int) == (0 : Int))) then
      some false
    else
      law10_AlertChain_1 F F a1 (0 : Int) r39.quorum r39.keys ([] : List S_api_Notice)

theorem law10_AlertChain_run (F : Nat) (a0 : S_api_Roll) (a1 : (List S_api_Notice)) (s0 s1 : SV) (r : Bool) (M : Mem) (hs0 : Slc (rd M) 2 (FlatR enc24) s0 a0.Keys) (hs1 : Slc (rd M) 10 (rep46 (rd M)) s1 a1) (hfx : FixIn M fixes) (h : law10_AlertChain F a0 a1 = some r) : Run Tryd.prog (fx0 7) 201 (law10_AlertChain_post r) [(0, (.agg [s0, (.int .i64 a0.Quorum)])), (1, s1)] [codeC Tryd.prog 7 []] (frozen M) := by
  rw [law10_AlertChain] at h
  replace hs0 := hs0.mono (rdLe_frozen M) (fun _ _ h => h)
  replace hs1 := hs1.mono (rdLe_frozen M) (fun _ _ => rep46_mo (rdLe_frozen M))
  have hH : Has (ro (frozen M)) (frozen M) [tb0, tb1, tb2] := Has.ofFix hfx.frozen
  refine Run.seq (Run.region ?_)
  refine Run.opX wantS_none rfl (ExG.box rfl rfl hH) ?_
  rintro _ M26 ⟨b25, rfl, hH26⟩
  refine Run.opG wantS_none (ex_assign rfl) rfl ?_
  refine Run.opsEnd (Run.seq (Run.region ?_))
  refine Run.opG wantS_none (ex_loadA rfl (hH26.cells (i := 0) rfl 0 rfl) rdLe_rfl agg43 rfl rfl rfl) rfl ?_
  refine Run.enter wantS_none (ex_call rfl mkk29 cal29) Tryd.func29 rfl rfl ?_
  refine Run.seq (Run.region ?_)
  refine Run.opX wantS_none rfl (ExG.box rfl rfl hH26) ?_
  rintro _ M29 ⟨b28, rfl, hH29⟩
  refine Run.opG wantS_none (ex_assign rfl) rfl ?_
  refine Run.opG wantS_none (ex_assign rfl) rfl ?_
  refine Run.opsEnd (Run.seq (Run.seq (Run.region ?_)))
  refine Run.opG wantS_none (ex_loadA rfl (hH29.cells (i := 0) rfl 0 rfl) rdLe_rfl agg43 rfl rfl rfl) rfl ?_
  obtain ⟨r31, hr31, h⟩ := bnd_some h
  refine Run.callP wantS_none (ex_call rfl mkk15 cal15) rfl (alert_CheckRoll_ok F a0 s0 _ _ (hH29.slcF hs0) hr31) ?_
  refine Run.opG wantS_none (ex_assign rfl) rfl ?_
  refine Run.opsEnd (Run.seq (Run.region ?_))
  refine Run.opG wantS_none (ex_move rfl) rfl ?_
  refine Run.opG wantS_none (ex_neq rfl rfl) rfl ?_
  refine Run.opsEnd ?_
  rcases btf ((!(r31 == (0 : Int)))) with hc33 | hc33
  · have h := bif_t hc33 h
    refine Run.condT' rfl hc33 ?_
    refine Run.seq (Run.region ?_)
    refine Run.opG wantS_none (ex_move rfl) rfl ?_
    refine Run.opG wantS_none (ex_assign rfl) rfl ?_
    refine Run.opG wantS_none (ex_assign rfl) rfl ?_
    refine Run.opsEnd ?_
    refine Run.retTo Tryd.func29 rfl (res_tmp rfl (res_tmp rfl res_nil)) rfl ?_
    refine Run.opG wantS_none (ex_move rfl) rfl ?_
    refine Run.opG wantS_none (ex_extract rfl rfl) rfl ?_
    refine Run.opG wantS_none (ex_extract rfl rfl) rfl ?_
    refine Run.opG wantS_none (ex_assign rfl) rfl ?_
    refine Run.opG wantS_none (ex_assign rfl) rfl ?_
    refine Run.opsEnd (Run.seq (Run.seq (Run.region ?_)))
    refine Run.opG wantS_none (ex_move rfl) rfl ?_
    refine Run.opG wantS_none (ex_neq rfl rfl) rfl ?_
    refine Run.opsEnd ?_
    refine Run.condT' rfl hc33 ?_
    refine Run.seq (Run.region ?_)
    refine Run.opG wantS_none (ex_move rfl) rfl ?_
    refine Run.opG wantS_none (ex_ptrNN rfl rfl eqk67) rfl ?_
    refine Run.opG wantS_none (ex_move rfl) rfl ?_
    obtain ⟨r35, hr35, h⟩ := bnd_some h
    refine Run.callP (wantS_yes' rfl rfl rfl) (ex_call rfl mkk14 cal14) rfl (works_ok F r35 _ hH29 (List.mem_of_getElem? (i := 2) rfl) (List.mem_of_getElem? (i := 3) rfl) (List.mem_of_getElem? (i := 4) rfl) hr35) ?_
    refine Run.opG wantS_none (ex_pickT' rfl rfl rfl rfl) rfl ?_
    refine Run.opG wantS_none (ex_assign rfl) rfl ?_
    refine Run.opsEnd ?_
    cases h
    exact Run.ret Tryd.func7 rfl (res_tmp rfl res_nil) rfl
  · have h := bif_f hc33 h
    refine Run.condF' rfl hc33 ?_
    refine Run.skip (Run.seq (Run.region ?_))
    refine Run.opG wantS_none (ex_loadA rfl (hH29.cells (i := 0) rfl 0 rfl) rdLe_rfl agg43 rfl rfl rfl) rfl ?_
    obtain ⟨r39, hr39, h⟩ := bnd_some h
    refine Run.callX wantS_none (ex_call rfl mkk57 cal57) rfl (alert_rollOf_ok F a0 s0 _ _ (hH29.slcF hs0) hr39) ?_
    rintro _ M41 ⟨s39_0, rfl, hN39⟩
    have hH41 : Has (ro (frozen M)) M41 [.vec 79 2 r39.keys.length s39_0 (r39.keys.flatMap enc79), .obj b28 (.row 43 .whole [s0, (.int .i64 a0.Quorum)]), .obj b25 (.row 43 .whole [s0, (.int .i64 a0.Quorum)]), tb0, tb1, tb2] := hN39.1 _ _ hH29
    refine Run.opG wantS_none (ex_build (r := [s39_0, (.int .i64 r39.quorum), .nils, .nilp]) rfl zer103 pls103 rfl) rfl ?_
    refine Run.opX wantS_none rfl (ExG.box rfl rfl hH41) ?_
    rintro _ M44 ⟨b43, rfl, hH44⟩
    refine Run.opG wantS_none (ex_assign rfl) rfl ?_
    refine Run.opsEnd (Run.seq (Run.region ?_))
    refine Run.opG wantS_none (ex_move rfl) rfl ?_
    refine Run.opG wantS_none (ex_move rfl) rfl ?_
    refine Run.opG wantS_none (ex_nilP rfl) rfl ?_
    refine Run.opG wantS_none (ex_fieldAddr rfl off103_2) rfl ?_
    refine Run.opX wantS_none rfl (ExG.storeC (c' := [s39_0, (.int .i64 r39.quorum), .nils, (.ptr b43 0)]) rfl rfl rfl hH44 (i := 0) rfl sz67 rfl rfl rfl rfl rfl) ?_
    rintro _ M45 ⟨rfl, (hH45 : Has (ro (frozen M)) M45 [.obj b43 (.row 103 .whole [s39_0, (.int .i64 r39.quorum), .nils, (.ptr b43 0)]), .vec 79 2 r39.keys.length s39_0 (r39.keys.flatMap enc79), .obj b28 (.row 43 .whole [s0, (.int .i64 a0.Quorum)]), .obj b25 (.row 43 .whole [s0, (.int .i64 a0.Quorum)]), tb0, tb1, tb2])⟩
    refine Run.opsEnd (Run.seq (Run.region ?_))
    refine Run.opG wantS_none (ex_move rfl) rfl ?_
    refine Run.opG wantS_none (ex_assign rfl) rfl ?_
    refine Run.opG wantS_none (ex_assign rfl) rfl ?_
    refine Run.opsEnd ?_
    refine Run.retTo Tryd.func29 rfl (res_tmp rfl (res_tmp rfl res_nil)) rfl ?_
    refine Run.opG wantS_none (ex_move rfl) rfl ?_
    refine Run.opG wantS_none (ex_extract rfl rfl) rfl ?_
    refine Run.opG wantS_none (ex_extract rfl rfl) rfl ?_
    refine Run.opG wantS_none (ex_assign rfl) rfl ?_
    refine Run.opG wantS_none (ex_assign rfl) rfl ?_
    refine Run.opsEnd (Run.seq (Run.seq (Run.region ?_)))
    refine Run.opG wantS_none (ex_move rfl) rfl ?_
    refine Run.opG wantS_none (ex_neq rfl rfl) rfl ?_
    refine Run.opsEnd ?_
    rcases btf ((!((0 : Int) == (0 : Int)))) with hc46 | hc46
    · have h := bif_t hc46 h
      refine Run.condT' rfl hc46 ?_
      refine Run.seq (Run.region ?_)
      refine Run.opG wantS_none (ex_move rfl) rfl ?_
      refine Run.opG wantS_none (ex_ptrPN rfl rfl eqk67) rfl ?_
      refine Run.opG wantS_none (ex_move rfl) rfl ?_
      refine Run.no (wantS_not' rfl rfl rfl) rfl ?_
      refine Run.opG wantS_none (ex_pickF' rfl rfl rfl rfl) rfl ?_
      refine Run.opG wantS_none (ex_assign rfl) rfl ?_
      refine Run.opsEnd ?_
      cases h
      exact Run.ret Tryd.func7 rfl (res_tmp rfl res_nil) rfl
    · have h := bif_f hc46 h
      refine Run.condF' rfl hc46 ?_
      refine Run.skip (Run.seq (Run.seq (Run.region ?_)))
      refine Run.opG wantS_none (ex_assign rfl) rfl ?_
      refine Run.opsEnd (Run.block (Run.loop ?_))
      have hH48 : Has (ro (frozen M)) M45 [.vec 46 10 ([] : List S_api_Notice).length .nils [], .obj b43 (.row 103 .whole [s39_0, (.int .i64 r39.quorum), .nils, (.ptr b43 0)]), .vec 79 2 r39.keys.length s39_0 (r39.keys.flatMap enc79), .obj b28 (.row 43 .whole [s0, (.int .i64 a0.Quorum)]), .obj b25 (.row 43 .whole [s0, (.int .i64 a0.Quorum)]), tb0, tb1, tb2] := hH45.nils 46 10
      exact Run.pick [1, 5, 7] (law10_AlertChain_1_ok F F a1 (0 : Int) r39.quorum r39.keys ([] : List S_api_Notice) s1 b43 s39_0 .nils [] _ _ _ hs1 Rows.nil (hH48.pick [1, 2, 0, 5, 6, 7] rfl rfl) h)

end Go.Ev.AlertChain
