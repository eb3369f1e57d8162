/- Plain functions that say what functions of the program come to, and proofs of it, written by a program of the verifier's own. -/
import Derived.Test.YtoobfmfgbcohcaaDoorShelf
import Derived.Test.YtoobfmfgbcohcaaDoorAlertNoticesPlain
namespace Go.Ev.AlertNotices
open Go Go.Ev Go.Proofs
set_option maxRecDepth 100000
set_option linter.unusedVariables false

abbrev alert_digestOf_post (r : Int) : SV → Mem → Prop := fun s _ => s = (.int .i64 r)

def alert_digestOf_1 (F : Nat) : Nat → Int → (List Int) → Int → Int → Option (Int)
  | 0, _, _, _, _ => none
  | N + 1, v3, v8, v9, v10 =>
    bif (decide (v10 < v9)) then
      bnd (idx v8 v10) fun x37 =>
      (alert_digestOf_1 F N) (Int.tmod (w64 ((w64 ((w64 (v3 * (31 : Int))) + (w64 x37))) + (1 : Int))) (2147483647 : Int)) v8 v9 (w64 (v10 + (1 : Int)))
    else
      some v3

theorem alert_digestOf_1_ok (F : Nat) : ∀ (N : Nat), ∀ (v3 : Int) (v8 : (List Int)) (v9 v10 : Int) (sv8 : SV) (Fr : Rd) (M : Mem) (r : Int) (hv8 : Slc Fr 1 (FlatR enc5) sv8 v8) (hH : Has Fr M [tb0, tb1, tb2]), alert_digestOf_1 F N v3 v8 v9 v10 = some r → Run Tryd.prog ⟨⟨45, [], none⟩, []⟩ 23 (alert_digestOf_post r) [(3, (.int .i64 v3)), (8, sv8), (9, (.int .i64 v9)), (10, (.int .i64 v10))] [codeC Tryd.prog 45 [1, 1, 0, 1, 0, 0], loopC Tryd.prog 45 [1, 1, 0, 1, 0, 0], .inBlock 0, codeC Tryd.prog 45 [1, 1, 1]] M := by
  intro N
  induction N with
  | zero =>
    intro v3 v8 v9 v10 sv8 Fr M r hv8 hH h
    simp [alert_digestOf_1] at h
  | succ N ih =>
    intro v3 v8 v9 v10 sv8 Fr M r hv8 hH h
    rw [alert_digestOf_1] at h
    refine Run.seq (Run.region ?_)
    refine Run.opG wantS_none (ex_lss rfl rfl) rfl ?_
    refine Run.opsEnd (Run.seq ?_)
    rcases btf ((decide (v10 < v9))) with hc35 | hc35
    · have h := bif_t hc35 h
      refine Run.condT' rfl hc35 ?_
      refine Run.skip (Run.seq (Run.block (Run.seq (Run.region ?_))))
      obtain ⟨x37, hx37, h⟩ := bnd_some h
      obtain ⟨p37, o37, _, hx37, hp37, rfl⟩ := sl_elem (P := Tryd.prog) (t := 108) (kk := .i64) hv8 hx37 els108
      refine Run.opG wantS_none (ex_elX rfl rfl hx37) rfl ?_
      refine Run.opG wantS_none (ex_load1 rfl (hH.ptrF hp37) rdLe_rfl agg5) rfl ?_
      refine Run.opG wantS_none (ex_assign rfl) rfl ?_
      refine Run.opsEnd (Run.region ?_)
      refine Run.opG wantS_none (ex_move rfl) rfl ?_
      refine Run.opG wantS_none (ex_mul rfl rfl) rfl ?_
      refine Run.opG wantS_none (ex_move rfl) rfl ?_
      refine Run.opG wantS_none (ex_conv rfl uvk5_3 cvk5_3) rfl ?_
      refine Run.opG wantS_none (ex_add rfl rfl) rfl ?_
      refine Run.opG wantS_none (ex_add rfl rfl) rfl ?_
      refine Run.opG wantS_none (ex_rem rfl rfl (by decide)) rfl ?_
      refine Run.opG wantS_none (ex_assign rfl) rfl ?_
      refine Run.opsEnd (Run.inBlock (Run.region ?_))
      refine Run.opG wantS_none (ex_add rfl rfl) rfl ?_
      refine Run.opG wantS_none (ex_move rfl) rfl ?_
      refine Run.opsEnd (Run.inLoop ?_)
      exact Run.pick [3, 8, 9, 10] (ih (Int.tmod (w64 ((w64 ((w64 (v3 * (31 : Int))) + (w64 x37))) + (1 : Int))) (2147483647 : Int)) v8 v9 (w64 (v10 + (1 : Int))) sv8 _ _ _ hv8 hH h)
    · have h := bif_f hc35 h
      refine Run.condF' rfl hc35 ?_
      refine Run.exit rfl (Run.seq (Run.region ?_))
      refine Run.opG wantS_none (ex_move rfl) rfl ?_
      refine Run.opG wantS_none (ex_assign rfl) rfl ?_
      refine Run.opsEnd ?_
      cases h
      exact Run.ret Tryd.func45 rfl (res_tmp rfl res_nil) rfl

def alert_digestOf (F : Nat) (a0 : S_api_Alert) : Option (Int) :=
  bnd (alert_textOf F a0) fun r28 =>
  bnd (byt r28) fun l31 =>
  alert_digestOf_1 F F (7 : Int) l31 (l31.length : Int) (0 : Int)

theorem alert_digestOf_ok (F : Nat) (a0 : S_api_Alert) (s0 : SV) (r : Int) (M : Mem) (hs0 : Slc (rd M) 1 (FlatR enc3) s0 a0.Cells) (hfx : FixIn M fixes) (h : alert_digestOf F a0 = some r) : CallsM Tryd.prog 45 [(.agg [(.str a0.Event), (.int .i64 a0.Version), (.int .i64 a0.Time), (.int .i64 a0.Chance.N), (.int .i64 a0.Chance.Of), (.int .i64 a0.Grid), s0, (.bool a0.Withdrawn), (.int .i64 a0.Before)])] M (fun s M' => s = (.int .i64 r) ∧ M' = M) := by
  refine CallsM.plain Tryd.func45 rfl rfl rfl (show Run _ _ _ (alert_digestOf_post r) _ _ _ from ?_)
  rw [alert_digestOf] at h
  replace hs0 := hs0.mono (rdLe_frozen M) (fun _ _ h => h)
  have hH : Has (ro (frozen M)) (frozen M) [tb0, tb1, tb2] := Has.ofFix hfx.frozen
  refine Run.seq (Run.region ?_)
  refine Run.opX wantS_none rfl (ExG.box rfl rfl hH) ?_
  rintro _ M26 ⟨b25, rfl, hH26⟩
  refine Run.opG wantS_none (ex_assign rfl) rfl ?_
  refine Run.opsEnd (Run.seq (Run.region ?_))
  refine Run.opG wantS_none (ex_assign rfl) rfl ?_
  refine Run.opsEnd (Run.seq (Run.seq (Run.region ?_)))
  refine Run.opG wantS_none (ex_loadA rfl (hH26.cells (i := 0) rfl 0 rfl) rdLe_rfl agg29 rfl rfl rfl) rfl ?_
  obtain ⟨r28, hr28, h⟩ := bnd_some h
  refine Run.callP wantS_none (ex_call rfl mkk75 cal75) rfl (alert_textOf_ok F a0 s0 _ _ (hH26.slcF hs0) (fixH hH26 (List.mem_of_getElem? (i := 1) rfl) (List.mem_of_getElem? (i := 2) rfl) (List.mem_of_getElem? (i := 3) rfl)) hr28) ?_
  obtain ⟨l31, hl31, h⟩ := bnd_some h
  refine Run.opX wantS_none rfl (ExG.bytes rfl uvk9_108 cvk9_108 hl31 hH26) ?_
  rintro _ M32 ⟨b32, rfl, hH32⟩
  refine Run.freezeB (t := 8) (i := 0) (enc := enc5) (fun _ => rfl) hl31 rfl hH32 rfl ?_
  intro F33 M33 hle33 (hH33 : Has F33 M33 [.vec 0 0 0 .nils [], .obj b25 (.row 29 .whole [(.str a0.Event), (.int .i64 a0.Version), (.int .i64 a0.Time), (.int .i64 a0.Chance.N), (.int .i64 a0.Chance.Of), (.int .i64 a0.Grid), s0, (.bool a0.Withdrawn), (.int .i64 a0.Before)]), tb0, tb1, tb2]) hf33
  replace hs0 := hs0.mono hle33 (fun _ _ h => h)
  refine Run.opG wantS_none (ex_len' rfl hf33 lenk108) rfl ?_
  refine Run.opG wantS_none (ex_move rfl) rfl ?_
  refine Run.opsEnd (Run.block (Run.loop ?_))
  exact Run.pick [3, 8, 9, 10] (alert_digestOf_1_ok F F (7 : Int) l31 (l31.length : Int) (0 : Int) (.ope b32 0 l31.length 1) _ _ _ hf33 (hH33.pick [2, 3, 4] rfl rfl) h)

theorem mkk45 : makeK Tryd.prog 45 = none := by kernel_rfl
theorem cal45 : callable Tryd.prog 45 = true := by kernel_rfl
theorem off46_1 : fieldOff Tryd.prog 46 1 = some 9 := by kernel_rfl
theorem agg44 : aggSize Tryd.prog 44 = some none := by kernel_rfl
theorem lenk44 : lenK Tryd.prog 44 = some .sl := by kernel_rfl
theorem els44 : elems Tryd.prog 44 = some (.sl 2) := by kernel_rfl
theorem agg111 : aggSize Tryd.prog 111 = some (some 2) := by kernel_rfl
theorem zer111 : zerosOf Tryd.prog 111 = some [(.int .i64 0), (.int .i64 0)] := by kernel_rfl
theorem sz111 : szOf Tryd.prog 111 = some 2 := by kernel_rfl
theorem off111_0 : fieldOff Tryd.prog 111 0 = some 0 := by kernel_rfl
theorem off97_0 : fieldOff Tryd.prog 97 0 = some 0 := by kernel_rfl
theorem agg95 : aggSize Tryd.prog 95 = some none := by kernel_rfl
theorem lenk95 : lenK Tryd.prog 95 = some .sl := by kernel_rfl
theorem els95 : elems Tryd.prog 95 = some (.sl 2) := by kernel_rfl
theorem agg79 : aggSize Tryd.prog 79 = some (some 2) := by kernel_rfl
theorem off111_1 : fieldOff Tryd.prog 111 1 = some 1 := by kernel_rfl
theorem mkk74 : makeK Tryd.prog 74 = none := by kernel_rfl
theorem cal74 : callable Tryd.prog 74 = true := by kernel_rfl
abbrev alert_key_power_post (r : Int) : SV → Mem → Prop := fun s _ => s = (.int .i64 r)

def alert_key_power_2 (F : Nat) (hd1 : Int → Int → Int → S_api_Key → Option (Int)) (v1 v2 v8 : Int) (c22 : S_api_Key) : Option (Int) :=
  bnd (nz c22.Modulus) fun z31 =>
  hd1 (Int.tmod (w64 (v1 * v1)) c22.Modulus) (w64 (Int.tdiv v2 (2 : Int))) v8 c22

theorem alert_key_power_2_ok (F : Nat) (hd1 : Int → Int → Int → S_api_Key → Option (Int)) (hhd1 : ∀ (v1 v2 v8 : Int) (c22 : S_api_Key) (b22 : Pos) (Fr : Rd) (M : Mem) (r : Int) (hH : Has Fr M [.obj b22 (.row 79 .whole [(.int .i64 c22.Modulus), (.int .i64 c22.Exponent)])]), hd1 v1 v2 v8 c22 = some r → Run Tryd.prog ⟨⟨44, [], none⟩, []⟩ 30 (alert_key_power_post r) [(1, (.int .i64 v1)), (2, (.int .i64 v2)), (7, (.fn (.func 74) [] [(.ptr b22 0)])), (8, (.int .i64 v8))] [codeC Tryd.prog 44 [1, 1, 1, 0, 1, 0, 0], loopC Tryd.prog 44 [1, 1, 1, 0, 1, 0, 0], .inBlock 0, codeC Tryd.prog 44 [1, 1, 1, 1]] M) : ∀ (v1 v2 v8 : Int) (c22 : S_api_Key) (b22 : Pos) (Fr : Rd) (M : Mem) (r : Int) (hH : Has Fr M [.obj b22 (.row 79 .whole [(.int .i64 c22.Modulus), (.int .i64 c22.Exponent)])]), alert_key_power_2 F hd1 v1 v2 v8 c22 = some r → Run Tryd.prog ⟨⟨44, [], none⟩, []⟩ 30 (alert_key_power_post r) [(1, (.int .i64 v1)), (2, (.int .i64 v2)), (7, (.fn (.func 74) [] [(.ptr b22 0)])), (8, (.int .i64 v8))] [itemC Tryd.prog 44 [1, 1, 1, 0, 1, 0, 0, 1, 0, 0, 1] 0, .inBlock 1, codeC Tryd.prog 44 [1, 1, 1, 0, 1, 0, 0, 1, 1], loopC Tryd.prog 44 [1, 1, 1, 0, 1, 0, 0], .inBlock 0, codeC Tryd.prog 44 [1, 1, 1, 1]] M := by
  intro v1 v2 v8 c22 b22 Fr M r hH h
  rw [alert_key_power_2] at h
  refine Run.opG wantS_none (ex_move rfl) rfl ?_
  refine Run.opG wantS_none (ex_move rfl) rfl ?_
  refine Run.opG wantS_none (ex_move rfl) rfl ?_
  refine Run.enter wantS_none (ex_closure rfl rfl mkk74 cal74) Tryd.func74 rfl rfl ?_
  refine Run.seq (Run.region ?_)
  refine Run.opG wantS_none (ex_assign rfl) rfl ?_
  refine Run.opsEnd (Run.seq (Run.region ?_))
  refine Run.opG wantS_none (ex_move rfl) rfl ?_
  refine Run.opG wantS_none (ex_move rfl) rfl ?_
  refine Run.opG wantS_none (ex_mul rfl rfl) rfl ?_
  refine Run.opG wantS_none (ex_fieldAddr rfl off79_0) rfl ?_
  refine Run.opG wantS_none (ex_load1 rfl (hH.cells (i := 0) rfl 0 rfl) rdLe_rfl agg3) rfl ?_
  obtain ⟨z31, hz31, h⟩ := bnd_some h
  refine Run.opG wantS_none (ex_rem' rfl rfl hz31) rfl ?_
  refine Run.opG wantS_none (ex_assign rfl) rfl ?_
  refine Run.opsEnd ?_
  refine Run.retTo Tryd.func74 rfl (res_tmp rfl res_nil) rfl ?_
  refine Run.opG wantS_none (ex_assign rfl) rfl ?_
  refine Run.opsEnd (Run.inBlock (Run.region ?_))
  refine Run.opG wantS_none (ex_move rfl) rfl ?_
  refine Run.opG wantS_none (ex_quo rfl rfl (by decide)) rfl ?_
  refine Run.opG wantS_none (ex_assign rfl) rfl ?_
  refine Run.opsEnd (Run.inLoop ?_)
  exact Run.pick [1, 2, 7, 8] (hhd1 (Int.tmod (w64 (v1 * v1)) c22.Modulus) (w64 (Int.tdiv v2 (2 : Int))) v8 c22 b22 _ _ _ hH h)

def alert_key_power_1 (F : Nat) : Nat → Int → Int → Int → S_api_Key → Option (Int)
  | 0, _, _, _, _ => none
  | N + 1, v1, v2, v8, c22 =>
    bif (decide ((0 : Int) < v2)) then
      bif ((Int.tmod v2 (2 : Int)) == (1 : Int)) then
        bnd (nz c22.Modulus) fun z29 =>
        alert_key_power_2 F (alert_key_power_1 F N) v1 v2 (Int.tmod (w64 (v8 * v1)) c22.Modulus) c22
      else
        alert_key_power_2 F (alert_key_power_1 F N) v1 v2 v8 c22
    else
      some v8

theorem alert_key_power_1_ok (F : Nat) : ∀ (N : Nat), ∀ (v1 v2 v8 : Int) (c22 : S_api_Key) (b22 : Pos) (Fr : Rd) (M : Mem) (r : Int) (hH : Has Fr M [.obj b22 (.row 79 .whole [(.int .i64 c22.Modulus), (.int .i64 c22.Exponent)])]), alert_key_power_1 F N v1 v2 v8 c22 = some r → Run Tryd.prog ⟨⟨44, [], none⟩, []⟩ 30 (alert_key_power_post r) [(1, (.int .i64 v1)), (2, (.int .i64 v2)), (7, (.fn (.func 74) [] [(.ptr b22 0)])), (8, (.int .i64 v8))] [codeC Tryd.prog 44 [1, 1, 1, 0, 1, 0, 0], loopC Tryd.prog 44 [1, 1, 1, 0, 1, 0, 0], .inBlock 0, codeC Tryd.prog 44 [1, 1, 1, 1]] M := by
  intro N
  induction N with
  | zero =>
    intro v1 v2 v8 c22 b22 Fr M r hH h
    simp [alert_key_power_1] at h
  | succ N ih =>
    intro v1 v2 v8 c22 b22 Fr M r hH h
    rw [alert_key_power_1] at h
    refine Run.seq (Run.seq (Run.region ?_))
    refine Run.opG wantS_none (ex_move rfl) rfl ?_
    refine Run.opG wantS_none (ex_gtr rfl rfl) rfl ?_
    refine Run.opsEnd ?_
    rcases btf ((decide ((0 : Int) < v2))) with hc26 | hc26
    · have h := bif_t hc26 h
      refine Run.condT' rfl hc26 ?_
      refine Run.skip (Run.seq (Run.block (Run.seq (Run.seq (Run.region ?_)))))
      refine Run.opG wantS_none (ex_move rfl) rfl ?_
      refine Run.opG wantS_none (ex_rem rfl rfl (by decide)) rfl ?_
      refine Run.opG wantS_none (ex_eql rfl rfl) rfl ?_
      refine Run.opsEnd ?_
      rcases btf (((Int.tmod v2 (2 : Int)) == (1 : Int))) with hc27 | hc27
      · have h := bif_t hc27 h
        refine Run.condT' rfl hc27 ?_
        refine Run.region ?_
        refine Run.opG wantS_none (ex_move rfl) rfl ?_
        refine Run.opG wantS_none (ex_move rfl) rfl ?_
        refine Run.opG wantS_none (ex_move rfl) rfl ?_
        refine Run.enter wantS_none (ex_closure rfl rfl mkk74 cal74) Tryd.func74 rfl rfl ?_
        refine Run.seq (Run.region ?_)
        refine Run.opG wantS_none (ex_assign rfl) rfl ?_
        refine Run.opsEnd (Run.seq (Run.region ?_))
        refine Run.opG wantS_none (ex_move rfl) rfl ?_
        refine Run.opG wantS_none (ex_move rfl) rfl ?_
        refine Run.opG wantS_none (ex_mul rfl rfl) rfl ?_
        refine Run.opG wantS_none (ex_fieldAddr rfl off79_0) rfl ?_
        refine Run.opG wantS_none (ex_load1 rfl (hH.cells (i := 0) rfl 0 rfl) rdLe_rfl agg3) rfl ?_
        obtain ⟨z29, hz29, h⟩ := bnd_some h
        refine Run.opG wantS_none (ex_rem' rfl rfl hz29) rfl ?_
        refine Run.opG wantS_none (ex_assign rfl) rfl ?_
        refine Run.opsEnd ?_
        refine Run.retTo Tryd.func74 rfl (res_tmp rfl res_nil) rfl ?_
        refine Run.opG wantS_none (ex_assign rfl) rfl ?_
        refine Run.opsEnd (Run.region ?_)
        exact Run.pick [1, 2, 7, 8] (alert_key_power_2_ok F (alert_key_power_1 F N) ih v1 v2 (Int.tmod (w64 (v8 * v1)) c22.Modulus) c22 b22 _ _ _ hH h)
      · have h := bif_f hc27 h
        refine Run.condF' rfl hc27 ?_
        refine Run.skip (Run.region ?_)
        exact Run.pick [1, 2, 7, 8] (alert_key_power_2_ok F (alert_key_power_1 F N) ih v1 v2 v8 c22 b22 _ _ _ hH h)
    · have h := bif_f hc26 h
      refine Run.condF' rfl hc26 ?_
      refine Run.exit rfl (Run.seq (Run.region ?_))
      refine Run.opG wantS_none (ex_move rfl) rfl ?_
      refine Run.opG wantS_none (ex_assign rfl) rfl ?_
      refine Run.opsEnd ?_
      cases h
      exact Run.ret Tryd.func44 rfl (res_tmp rfl res_nil) rfl

def alert_key_power (F : Nat) (a0 : S_api_Key) (a1 a2 : Int) : Option (Int) :=
  bnd (nz a0.Modulus) fun z25 =>
  alert_key_power_1 F F (Int.tmod a1 a0.Modulus) a2 (1 : Int) a0

theorem alert_key_power_ok (F : Nat) (a0 : S_api_Key) (a1 a2 r : Int) (M : Mem) (h : alert_key_power F a0 a1 a2 = some r) : CallsM Tryd.prog 44 [(.agg [(.int .i64 a0.Modulus), (.int .i64 a0.Exponent)]), (.int .i64 a1), (.int .i64 a2)] M (fun s M' => s = (.int .i64 r) ∧ M' = M) := by
  refine CallsM.plain Tryd.func44 rfl rfl rfl (show Run _ _ _ (alert_key_power_post r) _ _ _ from ?_)
  rw [alert_key_power] at h
  have hH := Has.nil (frozen M)
  refine Run.seq (Run.region ?_)
  refine Run.opX wantS_none rfl (ExG.box rfl rfl hH) ?_
  rintro _ M23 ⟨b22, rfl, hH23⟩
  refine Run.opG wantS_none (ex_assign rfl) rfl ?_
  refine Run.opsEnd (Run.seq (Run.region ?_))
  refine Run.opG wantS_none (ex_makeFunc rfl rfl) rfl ?_
  refine Run.opG wantS_none (ex_assign rfl) rfl ?_
  refine Run.opsEnd (Run.seq (Run.region ?_))
  refine Run.opG wantS_none (ex_assign rfl) rfl ?_
  refine Run.opsEnd (Run.seq (Run.seq (Run.region ?_)))
  refine Run.opG wantS_none (ex_move rfl) rfl ?_
  refine Run.opG wantS_none (ex_fieldAddr rfl off79_0) rfl ?_
  refine Run.opG wantS_none (ex_load1 rfl (hH23.cells (i := 0) rfl 0 rfl) rdLe_rfl agg3) rfl ?_
  obtain ⟨z25, hz25, h⟩ := bnd_some h
  refine Run.opG wantS_none (ex_rem' rfl rfl hz25) rfl ?_
  refine Run.opG wantS_none (ex_assign rfl) rfl ?_
  refine Run.opsEnd (Run.block (Run.loop ?_))
  exact Run.pick [1, 2, 7, 8] (alert_key_power_1_ok F F (Int.tmod a1 a0.Modulus) a2 (1 : Int) a0 b22 _ _ _ hH23 h)

theorem mkk44 : makeK Tryd.prog 44 = none := by kernel_rfl
theorem cal44 : callable Tryd.prog 44 = true := by kernel_rfl
theorem plan50_1_0 : planOf Tryd.prog (opsC (atC Tryd.prog 50 [1, 0])) = some [.fl 0, .fl 1, .fl 2, .fl 3, .an 4 [], .fl 5, .fl 6, .fl 7, .fl 8, .fl 9, .fl 11, .fl 12, .fl 13, .fl 14, .an 10 [14, 13, 12, 11], .fl 15, .fl 16, .fl 17, .sync] := by kernel_rfl
abbrev alert_key_isSigned_post (r : Bool) : SV → Mem → Prop := fun s _ => s = (.bool r)

def alert_key_isSigned_1 (F : Nat) (v6 : Bool) : Option (Bool) :=
  some v6

theorem alert_key_isSigned_1_ok (F : Nat) : ∀ (v6 : Bool) (Fr : Rd) (M : Mem) (r : Bool) (hH : Has Fr M []), alert_key_isSigned_1 F v6 = some r → Run Tryd.prog ⟨⟨50, [], none⟩, []⟩ 24 (alert_key_isSigned_post r) [(6, (.bool v6))] [codeC Tryd.prog 50 [1, 1]] M := by
  intro v6 Fr M r hH h
  rw [alert_key_isSigned_1] at h
  cases h
  exact Run.ret Tryd.func50 rfl (res_tmp rfl res_nil) rfl

def alert_key_isSigned (F : Nat) (a0 : S_api_Key) (a1 a2 : Int) : Option (Bool) :=
  bnd (alert_isFrom F (0 : Int) a2 (w64 (a0.Modulus - (1 : Int)))) fun r24 =>
  bif r24 then
    bnd (nz a0.Modulus) fun z27 =>
    bnd (alert_key_power F a0 a2 a0.Exponent) fun r28 =>
    alert_key_isSigned_1 F (r28 == (Int.tmod a1 a0.Modulus))
  else
    alert_key_isSigned_1 F false

theorem alert_key_isSigned_ok (F : Nat) (a0 : S_api_Key) (a1 a2 : Int) (r : Bool) (M : Mem) (h : alert_key_isSigned F a0 a1 a2 = some r) : CallsM Tryd.prog 50 [(.agg [(.int .i64 a0.Modulus), (.int .i64 a0.Exponent)]), (.int .i64 a1), (.int .i64 a2)] M (fun s M' => s = (.bool r) ∧ M' = M) := by
  refine CallsM.plain Tryd.func50 rfl rfl rfl (show Run _ _ _ (alert_key_isSigned_post r) _ _ _ from ?_)
  rw [alert_key_isSigned] at h
  have hH := Has.nil (frozen M)
  refine Run.seq (Run.region ?_)
  refine Run.opX wantS_none rfl (ExG.box rfl rfl hH) ?_
  rintro _ M23 ⟨b22, rfl, hH23⟩
  refine Run.opG wantS_none (ex_assign rfl) rfl ?_
  refine Run.opsEnd (Run.seq ?_)
  refine Run.drawG plan50_1_0 ?_
  refine DrawG.fl rfl (ev_ex wantS_none (ex_move rfl)) rfl ?_
  refine DrawG.fl rfl (ev_ex wantS_none (ex_fieldAddr rfl off79_0)) rfl ?_
  refine DrawG.fl rfl (ev_ex wantS_none (ex_load1 rfl (hH23.cells (i := 0) rfl 0 rfl) rdLe_rfl agg3)) rfl ?_
  refine DrawG.fl rfl (ev_ex wantS_none (ex_sub rfl rfl)) rfl ?_
  obtain ⟨r24, hr24, h⟩ := bnd_some h
  refine DrawG.callP rfl wantS_none (ex_call rfl mkk36 cal36) rfl (alert_isFrom_ok F (0 : Int) a2 (w64 (a0.Modulus - (1 : Int))) _ _ hr24) st_nil ?_
  refine DrawG.fl rfl (ev_ex wantS_none (ex_move rfl)) rfl ?_
  rcases btf (r24) with hc26 | hc26
  · have h := bif_t hc26 h
    refine DrawG.fl rfl (ev_ex (wantS_yes' rfl rfl hc26) (ex_loadA rfl (hH23.cells (i := 0) rfl 0 rfl) rdLe_rfl agg79 rfl rfl rfl)) rfl ?_
    refine DrawG.fl rfl (ev_ex (wantS_yes' rfl rfl hc26) (ex_move rfl)) rfl ?_
    refine DrawG.fl rfl (ev_ex (wantS_yes' rfl rfl hc26) (ex_fieldAddr rfl off79_1)) rfl ?_
    refine DrawG.fl rfl (ev_ex (wantS_yes' rfl rfl hc26) (ex_load1 rfl (hH23.cells (i := 0) rfl 1 rfl) rdLe_rfl agg3)) rfl ?_
    refine DrawG.fl rfl (ev_ex (wantS_yes' rfl rfl hc26) (ex_move rfl)) rfl ?_
    refine DrawG.fl rfl (ev_ex (wantS_yes' rfl rfl hc26) (ex_fieldAddr rfl off79_0)) rfl ?_
    refine DrawG.fl rfl (ev_ex (wantS_yes' rfl rfl hc26) (ex_load1 rfl (hH23.cells (i := 0) rfl 0 rfl) rdLe_rfl agg3)) rfl ?_
    obtain ⟨z27, hz27, h⟩ := bnd_some h
    refine DrawG.fl rfl (ev_ex (wantS_yes' rfl rfl hc26) (ex_rem' rfl rfl hz27)) rfl ?_
    obtain ⟨r28, hr28, h⟩ := bnd_some h
    refine DrawG.callP rfl (wantS_yes' rfl rfl hc26) (ex_call rfl mkk44 cal44) rfl (alert_key_power_ok F a0 a2 a0.Exponent _ _ hr28) (st_cons rfl (ev_ex (wantS_yes' rfl rfl hc26) (ex_rem' rfl rfl hz27)) rfl rfl rfl (st_cons rfl (ev_ex (wantS_yes' rfl rfl hc26) (ex_load1 rfl (hH23.cells (i := 0) rfl 0 rfl) rdLe_rfl agg3)) rfl rfl rfl (st_cons rfl (ev_ex (wantS_yes' rfl rfl hc26) (ex_fieldAddr rfl off79_0)) rfl rfl rfl (st_cons rfl (ev_ex (wantS_yes' rfl rfl hc26) (ex_move rfl)) rfl rfl rfl st_nil)))) ?_
    refine DrawG.fl rfl (ev_ex (wantS_yes' rfl rfl hc26) (ex_eql rfl rfl)) rfl ?_
    refine DrawG.fl rfl (ev_ex wantS_none (ex_pickT' rfl hc26 rfl rfl)) rfl ?_
    refine DrawG.fl rfl (ev_ex wantS_none (ex_assign rfl)) rfl ?_
    refine DrawG.sync ?_
    refine DrawG.nil ?_
    exact Run.pick [6] (alert_key_isSigned_1_ok F (r28 == (Int.tmod a1 a0.Modulus)) _ _ _ (hH23.pick [] rfl rfl) h)
  · have h := bif_f hc26 h
    refine DrawG.fl rfl (ev_no (wantS_not' rfl rfl hc26)) rfl ?_
    refine DrawG.fl rfl (ev_no (wantS_not' rfl rfl hc26)) rfl ?_
    refine DrawG.fl rfl (ev_no (wantS_not' rfl rfl hc26)) rfl ?_
    refine DrawG.fl rfl (ev_no (wantS_not' rfl rfl hc26)) rfl ?_
    refine DrawG.fl rfl (ev_no (wantS_not' rfl rfl hc26)) rfl ?_
    refine DrawG.fl rfl (ev_no (wantS_not' rfl rfl hc26)) rfl ?_
    refine DrawG.fl rfl (ev_no (wantS_not' rfl rfl hc26)) rfl ?_
    refine DrawG.fl rfl (ev_no (wantS_not' rfl rfl hc26)) rfl ?_
    refine DrawG.no rfl (wantS_not' rfl rfl hc26) rfl (st_cons rfl (ev_no (wantS_not' rfl rfl hc26)) rfl rfl rfl (st_cons rfl (ev_no (wantS_not' rfl rfl hc26)) rfl rfl rfl (st_cons rfl (ev_no (wantS_not' rfl rfl hc26)) rfl rfl rfl (st_cons rfl (ev_no (wantS_not' rfl rfl hc26)) rfl rfl rfl st_nil)))) ?_
    refine DrawG.fl rfl (ev_no (wantS_not' rfl rfl hc26)) rfl ?_
    refine DrawG.fl rfl (ev_ex wantS_none (ex_pickF' rfl hc26 rfl rfl)) rfl ?_
    refine DrawG.fl rfl (ev_ex wantS_none (ex_assign rfl)) rfl ?_
    refine DrawG.sync ?_
    refine DrawG.nil ?_
    exact Run.pick [6] (alert_key_isSigned_1_ok F false _ _ _ (hH23.pick [] rfl rfl) h)

theorem mkk50 : makeK Tryd.prog 50 = none := by kernel_rfl
theorem cal50 : callable Tryd.prog 50 = true := by kernel_rfl
theorem plan80_1_1_0_1_0_0_1_1_0_0_1_0_0 : planOf Tryd.prog (opsC (atC Tryd.prog 80 [1, 1, 0, 1, 0, 0, 1, 1, 0, 0, 1, 0, 0])) = some [.fl 0, .fl 1, .fl 2, .fl 3, .fl 4, .fl 5, .fl 6, .fl 7, .an 8 [], .fl 9, .fl 10, .fl 11, .fl 12, .fl 13, .fl 14, .fl 15, .fl 16, .fl 17, .fl 18, .fl 19, .an 20 [], .fl 21, .fl 22, .sync] := by kernel_rfl
abbrev alert_roll_isSigned_post (r : Bool) : SV → Mem → Prop := fun s _ => s = (.bool r)

def alert_roll_isSigned_2 (F : Nat) (hd1 : Int → Int → (List S_api_Signature) → Int → Int → (List S_api_Key) → Int → Option (Bool)) (v5 : Int) (v13 : (List S_api_Signature)) (v14 v15 : Int) (v41 : Bool) (c25_0 : (List S_api_Key)) (c25_1 : Int) (c37 : S_api_Signature) : Option (Bool) :=
  bif v41 then
    some false
  else
    hd1 v5 c37.Signer v13 v14 (w64 (v15 + (1 : Int))) c25_0 c25_1

theorem alert_roll_isSigned_2_ok (F : Nat) (hd1 : Int → Int → (List S_api_Signature) → Int → Int → (List S_api_Key) → Int → Option (Bool)) (hhd1 : ∀ (v5 v6 : Int) (v13 : (List S_api_Signature)) (v14 v15 : Int) (c25_0 : (List S_api_Key)) (c25_1 : Int) (sv13 sc25_0 : SV) (b25 : Pos) (Fr : Rd) (M : Mem) (r : Bool) (hv13 : Slc Fr 2 (FlatR enc111) sv13 v13) (hc25_0 : Slc Fr 2 (FlatR enc79) sc25_0 c25_0) (hH : Has Fr M [.obj b25 (.row 97 .whole [sc25_0, (.int .i64 c25_1)]), tb0, tb1, tb2]), hd1 v5 v6 v13 v14 v15 c25_0 c25_1 = some r → Run Tryd.prog ⟨⟨80, [], none⟩, []⟩ 45 (alert_roll_isSigned_post r) [(2, (.ptr b25 0)), (5, (.int .i64 v5)), (6, (.int .i64 v6)), (13, sv13), (14, (.int .i64 v14)), (15, (.int .i64 v15))] [codeC Tryd.prog 80 [1, 1, 0, 1, 0, 0], loopC Tryd.prog 80 [1, 1, 0, 1, 0, 0], .inBlock 0, codeC Tryd.prog 80 [1, 1, 1]] M) : ∀ (v5 : Int) (v13 : (List S_api_Signature)) (v14 v15 : Int) (v41 : Bool) (c25_0 : (List S_api_Key)) (c25_1 : Int) (c37 : S_api_Signature) (sv13 sc25_0 : SV) (b25 b37 : Pos) (Fr : Rd) (M : Mem) (r : Bool) (hv13 : Slc Fr 2 (FlatR enc111) sv13 v13) (hc25_0 : Slc Fr 2 (FlatR enc79) sc25_0 c25_0) (hH : Has Fr M [.obj b25 (.row 97 .whole [sc25_0, (.int .i64 c25_1)]), .obj b37 (.row 111 .whole [(.int .i64 c37.Signer), (.int .i64 c37.Number)]), tb0, tb1, tb2]), alert_roll_isSigned_2 F hd1 v5 v13 v14 v15 v41 c25_0 c25_1 c37 = some r → Run Tryd.prog ⟨⟨80, [], none⟩, []⟩ 45 (alert_roll_isSigned_post r) [(2, (.ptr b25 0)), (5, (.int .i64 v5)), (8, (.ptr b37 0)), (13, sv13), (14, (.int .i64 v14)), (15, (.int .i64 v15)), (41, (.bool v41))] [codeC Tryd.prog 80 [1, 1, 0, 1, 0, 0, 1, 1, 0, 0, 1, 0, 1], codeC Tryd.prog 80 [1, 1, 0, 1, 0, 0, 1, 1, 0, 0, 1, 1], .inBlock 1, codeC Tryd.prog 80 [1, 1, 0, 1, 0, 0, 1, 1, 1], loopC Tryd.prog 80 [1, 1, 0, 1, 0, 0], .inBlock 0, codeC Tryd.prog 80 [1, 1, 1]] M := by
  intro v5 v13 v14 v15 v41 c25_0 c25_1 c37 sv13 sc25_0 b25 b37 Fr M r hv13 hc25_0 hH h
  rw [alert_roll_isSigned_2] at h
  rcases btf (v41) with hc43 | hc43
  · have h := bif_t hc43 h
    refine Run.condT' rfl hc43 ?_
    refine Run.seq (Run.region ?_)
    refine Run.opG wantS_none (ex_assign rfl) rfl ?_
    refine Run.opsEnd ?_
    cases h
    exact Run.ret Tryd.func80 rfl (res_tmp rfl res_nil) rfl
  · have h := bif_f hc43 h
    refine Run.condF' rfl hc43 ?_
    refine Run.skip (Run.region ?_)
    refine Run.opG wantS_none (ex_fieldAddr rfl off111_0) rfl ?_
    refine Run.opG wantS_none (ex_load1 rfl (hH.cells (i := 1) rfl 0 rfl) rdLe_rfl agg3) rfl ?_
    refine Run.opG wantS_none (ex_assign rfl) rfl ?_
    refine Run.opsEnd (Run.inBlock (Run.region ?_))
    refine Run.opG wantS_none (ex_add rfl rfl) rfl ?_
    refine Run.opG wantS_none (ex_move rfl) rfl ?_
    refine Run.opsEnd (Run.inLoop ?_)
    exact Run.pick [2, 5, 6, 13, 14, 15] (hhd1 v5 c37.Signer v13 v14 (w64 (v15 + (1 : Int))) c25_0 c25_1 sv13 sc25_0 b25 _ _ _ hv13 hc25_0 (hH.pick [0, 2, 3, 4] rfl rfl) h)

def alert_roll_isSigned_1 (F : Nat) : Nat → Int → Int → (List S_api_Signature) → Int → Int → (List S_api_Key) → Int → Option (Bool)
  | 0, _, _, _, _, _, _, _ => none
  | N + 1, v5, v6, v13, v14, v15, c25_0, c25_1 =>
    bif (decide (v15 < v14)) then
      bnd (idx v13 v15) fun x35 =>
      bnd (alert_isFrom F (w64 (v6 + (1 : Int))) x35.Signer (w64 ((c25_0.length : Int) - (1 : Int)))) fun r40 =>
      bif (!r40) then
        alert_roll_isSigned_2 F (alert_roll_isSigned_1 F N) v5 v13 v14 v15 true c25_0 c25_1 x35
      else
        bnd (idx c25_0 x35.Signer) fun x44 =>
        bnd (alert_key_isSigned F x44 v5 x35.Number) fun r45 =>
        alert_roll_isSigned_2 F (alert_roll_isSigned_1 F N) v5 v13 v14 v15 (!r45) c25_0 c25_1 x35
    else
      some true

theorem alert_roll_isSigned_1_ok (F : Nat) : ∀ (N : Nat), ∀ (v5 v6 : Int) (v13 : (List S_api_Signature)) (v14 v15 : Int) (c25_0 : (List S_api_Key)) (c25_1 : Int) (sv13 sc25_0 : SV) (b25 : Pos) (Fr : Rd) (M : Mem) (r : Bool) (hv13 : Slc Fr 2 (FlatR enc111) sv13 v13) (hc25_0 : Slc Fr 2 (FlatR enc79) sc25_0 c25_0) (hH : Has Fr M [.obj b25 (.row 97 .whole [sc25_0, (.int .i64 c25_1)]), tb0, tb1, tb2]), alert_roll_isSigned_1 F N v5 v6 v13 v14 v15 c25_0 c25_1 = some r → Run Tryd.prog ⟨⟨80, [], none⟩, []⟩ 45 (alert_roll_isSigned_post r) [(2, (.ptr b25 0)), (5, (.int .i64 v5)), (6, (.int .i64 v6)), (13, sv13), (14, (.int .i64 v14)), (15, (.int .i64 v15))] [codeC Tryd.prog 80 [1, 1, 0, 1, 0, 0], loopC Tryd.prog 80 [1, 1, 0, 1, 0, 0], .inBlock 0, codeC Tryd.prog 80 [1, 1, 1]] M := by
  intro N
  induction N with
  | zero =>
    intro v5 v6 v13 v14 v15 c25_0 c25_1 sv13 sc25_0 b25 Fr M r hv13 hc25_0 hH h
    simp [alert_roll_isSigned_1] at h
  | succ N ih =>
    intro v5 v6 v13 v14 v15 c25_0 c25_1 sv13 sc25_0 b25 Fr M r hv13 hc25_0 hH h
    rw [alert_roll_isSigned_1] at h
    refine Run.seq (Run.region ?_)
    refine Run.opG wantS_none (ex_lss rfl rfl) rfl ?_
    refine Run.opsEnd (Run.seq ?_)
    rcases btf ((decide (v15 < v14))) with hc33 | hc33
    · have h := bif_t hc33 h
      refine Run.condT' rfl hc33 ?_
      refine Run.skip (Run.seq (Run.block (Run.seq (Run.region ?_))))
      obtain ⟨x35, hx35, h⟩ := bnd_some h
      obtain ⟨p35, o35, _, hx35, hp35, rfl⟩ := sl_elem (P := Tryd.prog) (t := 44) (kk := .i64) hv13 hx35 els44
      refine Run.opG wantS_none (ex_elX rfl rfl hx35) rfl ?_
      refine Run.opG wantS_none (ex_loadA rfl (hH.ptrF hp35) rdLe_rfl agg111 rfl rfl rfl) rfl ?_
      refine Run.opX wantS_none rfl (ExG.new (v := fun b => .ptr b 0) (ex_alloc zer111) hH) ?_
      rintro _ M38 ⟨b37, rfl, hH38⟩
      refine Run.opX wantS_none rfl (ExG.storeC (c' := [(.int .i64 x35.Signer), (.int .i64 x35.Number)]) rfl rfl rfl hH38 (i := 0) rfl sz111 rfl rfl rfl rfl rfl) ?_
      rintro _ M39 ⟨rfl, (hH39 : Has Fr M39 [.obj b37 (.row 111 .whole [(.int .i64 x35.Signer), (.int .i64 x35.Number)]), .obj b25 (.row 97 .whole [sc25_0, (.int .i64 c25_1)]), tb0, tb1, tb2])⟩
      refine Run.opsEnd (Run.seq (Run.seq ?_))
      refine Run.drawG plan80_1_1_0_1_0_0_1_1_0_0_1_0_0 ?_
      refine DrawG.fl rfl (ev_ex wantS_none (ex_move rfl)) rfl ?_
      refine DrawG.fl rfl (ev_ex wantS_none (ex_add rfl rfl)) rfl ?_
      refine DrawG.fl rfl (ev_ex wantS_none (ex_fieldAddr rfl off111_0)) rfl ?_
      refine DrawG.fl rfl (ev_ex wantS_none (ex_load1 rfl (hH39.cells (i := 0) rfl 0 rfl) rdLe_rfl agg3)) rfl ?_
      refine DrawG.fl rfl (ev_ex wantS_none (ex_fieldAddr rfl off97_0)) rfl ?_
      refine DrawG.fl rfl (ev_ex wantS_none (ex_load1 rfl (hH39.cells (i := 1) rfl 0 rfl) rdLe_rfl agg95)) rfl ?_
      refine DrawG.fl rfl (ev_ex wantS_none (ex_len' rfl hc25_0 lenk95)) rfl ?_
      refine DrawG.fl rfl (ev_ex wantS_none (ex_sub rfl rfl)) rfl ?_
      obtain ⟨r40, hr40, h⟩ := bnd_some h
      refine DrawG.callP rfl wantS_none (ex_call rfl mkk36 cal36) rfl (alert_isFrom_ok F (w64 (v6 + (1 : Int))) x35.Signer (w64 ((c25_0.length : Int) - (1 : Int))) _ _ hr40) st_nil ?_
      refine DrawG.fl rfl (ev_ex wantS_none (ex_not rfl)) rfl ?_
      refine DrawG.fl rfl (ev_ex wantS_none (ex_move rfl)) rfl ?_
      rcases btf ((!r40)) with hc42 | hc42
      · have h := bif_t hc42 h
        refine DrawG.fl rfl (ev_no (wantS_not' rfl rfl hc42)) rfl ?_
        refine DrawG.fl rfl (ev_no (wantS_not' rfl rfl hc42)) rfl ?_
        refine DrawG.fl rfl (ev_no (wantS_not' rfl rfl hc42)) rfl ?_
        refine DrawG.fl rfl (ev_no (wantS_not' rfl rfl hc42)) rfl ?_
        refine DrawG.fl rfl (ev_no (wantS_not' rfl rfl hc42)) rfl ?_
        refine DrawG.fl rfl (ev_no (wantS_not' rfl rfl hc42)) rfl ?_
        refine DrawG.fl rfl (ev_no (wantS_not' rfl rfl hc42)) rfl ?_
        refine DrawG.fl rfl (ev_no (wantS_not' rfl rfl hc42)) rfl ?_
        refine DrawG.fl rfl (ev_no (wantS_not' rfl rfl hc42)) rfl ?_
        refine DrawG.no rfl (wantS_not' rfl rfl hc42) rfl st_nil ?_
        refine DrawG.fl rfl (ev_no (wantS_not' rfl rfl hc42)) rfl ?_
        refine DrawG.fl rfl (ev_ex wantS_none (ex_pickT' rfl hc42 rfl rfl)) rfl ?_
        refine DrawG.sync ?_
        refine DrawG.nil ?_
        exact Run.pick [2, 5, 8, 13, 14, 15, 41] (alert_roll_isSigned_2_ok F (alert_roll_isSigned_1 F N) ih v5 v13 v14 v15 true c25_0 c25_1 x35 sv13 sc25_0 b25 b37 _ _ _ hv13 hc25_0 (hH39.pick [1, 0, 2, 3, 4] rfl rfl) h)
      · have h := bif_f hc42 h
        refine DrawG.fl rfl (ev_ex (wantS_yes' rfl rfl hc42) (ex_fieldAddr rfl off97_0)) rfl ?_
        refine DrawG.fl rfl (ev_ex (wantS_yes' rfl rfl hc42) (ex_load1 rfl (hH39.cells (i := 1) rfl 0 rfl) rdLe_rfl agg95)) rfl ?_
        refine DrawG.fl rfl (ev_ex (wantS_yes' rfl rfl hc42) (ex_fieldAddr rfl off111_0)) rfl ?_
        refine DrawG.fl rfl (ev_ex (wantS_yes' rfl rfl hc42) (ex_load1 rfl (hH39.cells (i := 0) rfl 0 rfl) rdLe_rfl agg3)) rfl ?_
        obtain ⟨x44, hx44, h⟩ := bnd_some h
        obtain ⟨p44, o44, _, hx44, hp44, rfl⟩ := sl_elem (P := Tryd.prog) (t := 95) (kk := .i64) hc25_0 hx44 els95
        refine DrawG.fl rfl (ev_ex (wantS_yes' rfl rfl hc42) (ex_elX rfl rfl hx44)) rfl ?_
        refine DrawG.fl rfl (ev_ex (wantS_yes' rfl rfl hc42) (ex_loadA rfl (hH39.ptrF hp44) rdLe_rfl agg79 rfl rfl rfl)) rfl ?_
        refine DrawG.fl rfl (ev_ex (wantS_yes' rfl rfl hc42) (ex_move rfl)) rfl ?_
        refine DrawG.fl rfl (ev_ex (wantS_yes' rfl rfl hc42) (ex_fieldAddr rfl off111_1)) rfl ?_
        refine DrawG.fl rfl (ev_ex (wantS_yes' rfl rfl hc42) (ex_load1 rfl (hH39.cells (i := 0) rfl 1 rfl) rdLe_rfl agg3)) rfl ?_
        obtain ⟨r45, hr45, h⟩ := bnd_some h
        refine DrawG.callP rfl (wantS_yes' rfl rfl hc42) (ex_call rfl mkk50 cal50) rfl (alert_key_isSigned_ok F x44 v5 x35.Number _ _ hr45) st_nil ?_
        refine DrawG.fl rfl (ev_ex (wantS_yes' rfl rfl hc42) (ex_not rfl)) rfl ?_
        refine DrawG.fl rfl (ev_ex wantS_none (ex_pickF' rfl hc42 rfl rfl)) rfl ?_
        refine DrawG.sync ?_
        refine DrawG.nil ?_
        exact Run.pick [2, 5, 8, 13, 14, 15, 41] (alert_roll_isSigned_2_ok F (alert_roll_isSigned_1 F N) ih v5 v13 v14 v15 (!r45) c25_0 c25_1 x35 sv13 sc25_0 b25 b37 _ _ _ hv13 hc25_0 (hH39.pick [1, 0, 2, 3, 4] rfl rfl) h)
    · have h := bif_f hc33 h
      refine Run.condF' rfl hc33 ?_
      refine Run.exit rfl (Run.seq (Run.region ?_))
      refine Run.opG wantS_none (ex_assign rfl) rfl ?_
      refine Run.opsEnd ?_
      cases h
      exact Run.ret Tryd.func80 rfl (res_tmp rfl res_nil) rfl

def alert_roll_isSigned (F : Nat) (a0 : S_alert_roll) (a1 : S_api_Notice) : Option (Bool) :=
  bnd (alert_digestOf F a1.Alert) fun r31 =>
  alert_roll_isSigned_1 F F r31 ((-1) : Int) a1.Signatures (a1.Signatures.length : Int) (0 : Int) a0.keys a0.quorum

theorem alert_roll_isSigned_ok (F : Nat) (a0 : S_alert_roll) (a1 : S_api_Notice) (s0 s1 s2 : SV) (r : Bool) (M : Mem) (hs0 : Slc (rd M) 2 (FlatR enc79) s0 a0.keys) (hs1 : Slc (rd M) 1 (FlatR enc3) s1 a1.Alert.Cells) (hs2 : Slc (rd M) 2 (FlatR enc111) s2 a1.Signatures) (hfx : FixIn M fixes) (h : alert_roll_isSigned F a0 a1 = some r) : CallsM Tryd.prog 80 [(.agg [s0, (.int .i64 a0.quorum)]), (.agg [(.str a1.Alert.Event), (.int .i64 a1.Alert.Version), (.int .i64 a1.Alert.Time), (.int .i64 a1.Alert.Chance.N), (.int .i64 a1.Alert.Chance.Of), (.int .i64 a1.Alert.Grid), s1, (.bool a1.Alert.Withdrawn), (.int .i64 a1.Alert.Before), s2])] M (fun s M' => s = (.bool r) ∧ M' = M) := by
  refine CallsM.plain Tryd.func80 rfl rfl rfl (show Run _ _ _ (alert_roll_isSigned_post r) _ _ _ from ?_)
  rw [alert_roll_isSigned] at h
  replace hs0 := hs0.mono (rdLe_frozen M) (fun _ _ h => h)
  replace hs1 := hs1.mono (rdLe_frozen M) (fun _ _ h => h)
  replace hs2 := hs2.mono (rdLe_frozen M) (fun _ _ h => h)
  have hH : Has (ro (frozen M)) (frozen M) [tb0, tb1, tb2] := Has.ofFix hfx.frozen
  refine Run.seq (Run.region ?_)
  refine Run.opX wantS_none rfl (ExG.box rfl rfl hH) ?_
  rintro _ M26 ⟨b25, rfl, hH26⟩
  refine Run.opX wantS_none rfl (ExG.box rfl rfl hH26) ?_
  rintro _ M29 ⟨b28, rfl, hH29⟩
  refine Run.opG wantS_none (ex_assign rfl) rfl ?_
  refine Run.opsEnd (Run.seq (Run.region ?_))
  refine Run.opG wantS_none (ex_fieldAddr rfl off46_0) rfl ?_
  refine Run.opG wantS_none (ex_loadA rfl (hH29.cells (i := 0) rfl 0 rfl) rdLe_rfl agg29 rfl rfl rfl) rfl ?_
  obtain ⟨r31, hr31, h⟩ := bnd_some h
  refine Run.callP wantS_none (ex_call rfl mkk45 cal45) rfl (alert_digestOf_ok F a1.Alert s1 _ _ (hH29.slcF hs1) (fixH hH29 (List.mem_of_getElem? (i := 2) rfl) (List.mem_of_getElem? (i := 3) rfl) (List.mem_of_getElem? (i := 4) rfl)) hr31) ?_
  refine Run.opG wantS_none (ex_assign rfl) rfl ?_
  refine Run.opG wantS_none (ex_assign rfl) rfl ?_
  refine Run.opsEnd (Run.seq (Run.seq (Run.region ?_)))
  refine Run.opG wantS_none (ex_fieldAddr rfl off46_1) rfl ?_
  refine Run.opG wantS_none (ex_load1 rfl (hH29.cells (i := 0) rfl 9 rfl) rdLe_rfl agg44) rfl ?_
  refine Run.opG wantS_none (ex_len' rfl hs2 lenk44) rfl ?_
  refine Run.opG wantS_none (ex_move rfl) rfl ?_
  refine Run.opsEnd (Run.block (Run.loop ?_))
  exact Run.pick [2, 5, 6, 13, 14, 15] (alert_roll_isSigned_1_ok F F r31 ((-1) : Int) a1.Signatures (a1.Signatures.length : Int) (0 : Int) a0.keys a0.quorum s2 s0 b25 _ _ _ hs2 hs0 (hH29.pick [1, 2, 3, 4] rfl rfl) h)

theorem mkk80 : makeK Tryd.prog 80 = none := by kernel_rfl
theorem cal80 : callable Tryd.prog 80 = true := by kernel_rfl
theorem off97_1 : fieldOff Tryd.prog 97 1 = some 1 := by kernel_rfl
abbrev alert_roll_check_post (r : Int) : SV → Mem → Prop := fun s _ => s = (.int .i64 r)

def alert_roll_check (F : Nat) (a0 : S_alert_roll) (a1 : S_api_Notice) : Option (Int) :=
  bnd (alert_isAlert F a1.Alert) fun r31 =>
  bif (!r31) then
    some (101 : Int)
  else
    bnd (alert_roll_isSigned F a0 (S_api_Notice.mk a1.Alert a1.Signatures)) fun r35 =>
    bif (!r35) then
      some (102 : Int)
    else
      bif (decide ((a1.Signatures.length : Int) < a0.quorum)) then
        some (103 : Int)
      else
        some (0 : Int)

theorem alert_roll_check_ok (F : Nat) (a0 : S_alert_roll) (a1 : S_api_Notice) (s0 s1 s2 : SV) (r : Int) (M : Mem) (hs0 : Slc (rd M) 2 (FlatR enc79) s0 a0.keys) (hs1 : Slc (rd M) 1 (FlatR enc3) s1 a1.Alert.Cells) (hs2 : Slc (rd M) 2 (FlatR enc111) s2 a1.Signatures) (hfx : FixIn M fixes) (h : alert_roll_check F a0 a1 = some r) : CallsM Tryd.prog 58 [(.agg [s0, (.int .i64 a0.quorum)]), (.agg [(.str a1.Alert.Event), (.int .i64 a1.Alert.Version), (.int .i64 a1.Alert.Time), (.int .i64 a1.Alert.Chance.N), (.int .i64 a1.Alert.Chance.Of), (.int .i64 a1.Alert.Grid), s1, (.bool a1.Alert.Withdrawn), (.int .i64 a1.Alert.Before), s2])] M (fun s M' => s = (.int .i64 r) ∧ M' = M) := by
  refine CallsM.plain Tryd.func58 rfl rfl rfl (show Run _ _ _ (alert_roll_check_post r) _ _ _ from ?_)
  rw [alert_roll_check] at h
  replace hs0 := hs0.mono (rdLe_frozen M) (fun _ _ h => h)
  replace hs1 := hs1.mono (rdLe_frozen M) (fun _ _ h => h)
  replace hs2 := hs2.mono (rdLe_frozen M) (fun _ _ h => h)
  have hH : Has (ro (frozen M)) (frozen M) [tb0, tb1, tb2] := Has.ofFix hfx.frozen
  refine Run.seq (Run.region ?_)
  refine Run.opX wantS_none rfl (ExG.box rfl rfl hH) ?_
  rintro _ M26 ⟨b25, rfl, hH26⟩
  refine Run.opX wantS_none rfl (ExG.box rfl rfl hH26) ?_
  rintro _ M29 ⟨b28, rfl, hH29⟩
  refine Run.opG wantS_none (ex_assign rfl) rfl ?_
  refine Run.opsEnd (Run.seq (Run.block (Run.seq (Run.region ?_))))
  refine Run.opG wantS_none (ex_fieldAddr rfl off46_0) rfl ?_
  refine Run.opG wantS_none (ex_loadA rfl (hH29.cells (i := 0) rfl 0 rfl) rdLe_rfl agg29 rfl rfl rfl) rfl ?_
  obtain ⟨r31, hr31, h⟩ := bnd_some h
  refine Run.callP wantS_none (ex_call rfl mkk43 cal43) rfl (alert_isAlert_ok F a1.Alert s1 _ _ (hH29.slcF hs1) hr31) ?_
  refine Run.opG wantS_none (ex_not rfl) rfl ?_
  refine Run.opG wantS_none (ex_assign rfl) rfl ?_
  refine Run.opsEnd ?_
  rcases btf ((!r31)) with hc33 | hc33
  · have h := bif_t hc33 h
    refine Run.condT' rfl hc33 ?_
    refine Run.seq (Run.region ?_)
    refine Run.opG wantS_none (ex_assign rfl) rfl ?_
    refine Run.opsEnd ?_
    cases h
    exact Run.ret Tryd.func58 rfl (res_tmp rfl res_nil) rfl
  · have h := bif_f hc33 h
    refine Run.condF' rfl hc33 ?_
    refine Run.seq (Run.region ?_)
    refine Run.opG wantS_none (ex_loadA rfl (hH29.cells (i := 1) rfl 0 rfl) rdLe_rfl agg97 rfl rfl rfl) rfl ?_
    refine Run.opG wantS_none (ex_loadA rfl (hH29.cells (i := 0) rfl 0 rfl) rdLe_rfl agg46 rfl rfl rfl) rfl ?_
    obtain ⟨r35, hr35, h⟩ := bnd_some h
    refine Run.callP wantS_none (ex_call rfl mkk80 cal80) rfl (alert_roll_isSigned_ok F a0 (S_api_Notice.mk a1.Alert a1.Signatures) s0 s1 s2 _ _ (hH29.slcF hs0) (hH29.slcF hs1) (hH29.slcF hs2) (fixH hH29 (List.mem_of_getElem? (i := 2) rfl) (List.mem_of_getElem? (i := 3) rfl) (List.mem_of_getElem? (i := 4) rfl)) hr35) ?_
    refine Run.opG wantS_none (ex_not rfl) rfl ?_
    refine Run.opG wantS_none (ex_assign rfl) rfl ?_
    refine Run.opsEnd ?_
    rcases btf ((!r35)) with hc37 | hc37
    · have h := bif_t hc37 h
      refine Run.condT' rfl hc37 ?_
      refine Run.seq (Run.region ?_)
      refine Run.opG wantS_none (ex_assign rfl) rfl ?_
      refine Run.opsEnd ?_
      cases h
      exact Run.ret Tryd.func58 rfl (res_tmp rfl res_nil) rfl
    · have h := bif_f hc37 h
      refine Run.condF' rfl hc37 ?_
      refine Run.seq (Run.region ?_)
      refine Run.opG wantS_none (ex_fieldAddr rfl off46_1) rfl ?_
      refine Run.opG wantS_none (ex_load1 rfl (hH29.cells (i := 0) rfl 9 rfl) rdLe_rfl agg44) rfl ?_
      refine Run.opG wantS_none (ex_len' rfl hs2 lenk44) rfl ?_
      refine Run.opG wantS_none (ex_fieldAddr rfl off97_1) rfl ?_
      refine Run.opG wantS_none (ex_load1 rfl (hH29.cells (i := 1) rfl 1 rfl) rdLe_rfl agg3) rfl ?_
      refine Run.opG wantS_none (ex_lss rfl rfl) rfl ?_
      refine Run.opG wantS_none (ex_assign rfl) rfl ?_
      refine Run.opsEnd ?_
      rcases btf ((decide ((a1.Signatures.length : Int) < a0.quorum))) with hc38 | hc38
      · have h := bif_t hc38 h
        refine Run.condT' rfl hc38 ?_
        refine Run.seq (Run.region ?_)
        refine Run.opG wantS_none (ex_assign rfl) rfl ?_
        refine Run.opsEnd ?_
        cases h
        exact Run.ret Tryd.func58 rfl (res_tmp rfl res_nil) rfl
      · have h := bif_f hc38 h
        refine Run.condF' rfl hc38 ?_
        refine Run.skip (Run.inBlock (Run.seq (Run.region ?_)))
        refine Run.opG wantS_none (ex_assign rfl) rfl ?_
        refine Run.opsEnd ?_
        cases h
        exact Run.ret Tryd.func58 rfl (res_tmp rfl res_nil) rfl

theorem mkk58 : makeK Tryd.prog 58 = none := by kernel_rfl
theorem cal58 : callable Tryd.prog 58 = true := by kernel_rfl
theorem plan17_1_1_0 : planOf Tryd.prog (opsC (atC Tryd.prog 17 [1, 1, 0])) = some [.fl 0, .fl 2, .an 1 [2], .an 3 [], .fl 4, .sync] := by kernel_rfl
abbrev alert_CheckNotice_post (r : Int) : SV → Mem → Prop := fun s _ => s = (.int .i64 r)

def alert_CheckNotice (F : Nat) (a0 : S_api_Roll) (a1 : S_api_Notice) : Option (Int) :=
  bnd (alert_CheckRoll F a0) fun r31 =>
  bif (!(r31 == (0 : Int))) then
    some r31
  else
    bnd (alert_rollOf F a0) fun r34 =>
    bnd (alert_roll_check F r34 (S_api_Notice.mk a1.Alert a1.Signatures)) fun r37 =>
    some r37

theorem alert_CheckNotice_ok (F : Nat) (a0 : S_api_Roll) (a1 : S_api_Notice) (s0 s1 s2 : SV) (r : Int) (M : Mem) (hs0 : Slc (rd M) 2 (FlatR enc24) s0 a0.Keys) (hs1 : Slc (rd M) 1 (FlatR enc3) s1 a1.Alert.Cells) (hs2 : Slc (rd M) 2 (FlatR enc111) s2 a1.Signatures) (hfx : FixIn M fixes) (h : alert_CheckNotice F a0 a1 = some r) : CallsM Tryd.prog 17 [(.agg [s0, (.int .i64 a0.Quorum)]), (.agg [(.str a1.Alert.Event), (.int .i64 a1.Alert.Version), (.int .i64 a1.Alert.Time), (.int .i64 a1.Alert.Chance.N), (.int .i64 a1.Alert.Chance.Of), (.int .i64 a1.Alert.Grid), s1, (.bool a1.Alert.Withdrawn), (.int .i64 a1.Alert.Before), s2])] M (fun s M' => s = (.int .i64 r) ∧ M' = M) := by
  refine CallsM.plain Tryd.func17 rfl rfl rfl (show Run _ _ _ (alert_CheckNotice_post r) _ _ _ from ?_)
  rw [alert_CheckNotice] at h
  replace hs0 := hs0.mono (rdLe_frozen M) (fun _ _ h => h)
  replace hs1 := hs1.mono (rdLe_frozen M) (fun _ _ h => h)
  replace hs2 := hs2.mono (rdLe_frozen M) (fun _ _ h => h)
  have hH : Has (ro (frozen M)) (frozen M) [tb0, tb1, tb2] := Has.ofFix hfx.frozen
  refine Run.seq (Run.region ?_)
  refine Run.opX wantS_none rfl (ExG.box rfl rfl hH) ?_
  rintro _ M26 ⟨b25, rfl, hH26⟩
  refine Run.opX wantS_none rfl (ExG.box rfl rfl hH26) ?_
  rintro _ M29 ⟨b28, rfl, hH29⟩
  refine Run.opG wantS_none (ex_assign rfl) rfl ?_
  refine Run.opsEnd (Run.seq (Run.seq (Run.region ?_)))
  refine Run.opG wantS_none (ex_loadA rfl (hH29.cells (i := 1) rfl 0 rfl) rdLe_rfl agg43 rfl rfl rfl) rfl ?_
  obtain ⟨r31, hr31, h⟩ := bnd_some h
  refine Run.callP wantS_none (ex_call rfl mkk15 cal15) rfl (alert_CheckRoll_ok F a0 s0 _ _ (hH29.slcF hs0) hr31) ?_
  refine Run.opG wantS_none (ex_assign rfl) rfl ?_
  refine Run.opsEnd (Run.seq (Run.region ?_))
  refine Run.opG wantS_none (ex_move rfl) rfl ?_
  refine Run.opG wantS_none (ex_neq rfl rfl) rfl ?_
  refine Run.opsEnd ?_
  rcases btf ((!(r31 == (0 : Int)))) with hc33 | hc33
  · have h := bif_t hc33 h
    refine Run.condT' rfl hc33 ?_
    refine Run.seq (Run.region ?_)
    refine Run.opG wantS_none (ex_move rfl) rfl ?_
    refine Run.opG wantS_none (ex_assign rfl) rfl ?_
    refine Run.opsEnd ?_
    cases h
    exact Run.ret Tryd.func17 rfl (res_tmp rfl res_nil) rfl
  · have h := bif_f hc33 h
    refine Run.condF' rfl hc33 ?_
    refine Run.skip (Run.seq ?_)
    refine Run.drawG plan17_1_1_0 ?_
    refine DrawG.fl rfl (ev_ex wantS_none (ex_loadA rfl (hH29.cells (i := 1) rfl 0 rfl) rdLe_rfl agg43 rfl rfl rfl)) rfl ?_
    refine DrawG.fl rfl (ev_ex wantS_none (ex_loadA rfl (hH29.cells (i := 0) rfl 0 rfl) rdLe_rfl agg46 rfl rfl rfl)) rfl ?_
    obtain ⟨r34, hr34, h⟩ := bnd_some h
    refine DrawG.call rfl wantS_none (ex_call rfl mkk57 cal57) rfl (alert_rollOf_ok F a0 s0 _ _ (hH29.slcF hs0) hr34) ?_
    rintro _ M36 ⟨s34_0, rfl, hN34⟩
    have hH36 : Has (ro (frozen M)) M36 [.vec 79 2 r34.keys.length s34_0 (r34.keys.flatMap enc79), .obj b28 (.row 46 .whole [(.str a1.Alert.Event), (.int .i64 a1.Alert.Version), (.int .i64 a1.Alert.Time), (.int .i64 a1.Alert.Chance.N), (.int .i64 a1.Alert.Chance.Of), (.int .i64 a1.Alert.Grid), s1, (.bool a1.Alert.Withdrawn), (.int .i64 a1.Alert.Before), s2]), .obj b25 (.row 43 .whole [s0, (.int .i64 a0.Quorum)]), tb0, tb1, tb2] := hN34.1 _ _ hH29
    refine ⟨(st_cons rfl (ev_ex wantS_none (ex_loadA rfl (hH36.cells (i := 1) rfl 0 rfl) rdLe_rfl agg46 rfl rfl rfl)) rfl rfl (self_agg (self_cons rfl (self_cons rfl (self_cons rfl (self_cons rfl (self_cons rfl (self_cons rfl (self_cons (slc_self hs1) (self_cons rfl (self_cons rfl (self_cons (slc_self hs2) self_nil))))))))))) st_nil), ?_⟩
    obtain ⟨r37, hr37, h⟩ := bnd_some h
    refine DrawG.callP rfl wantS_none (ex_call rfl mkk58 cal58) rfl (alert_roll_check_ok F r34 (S_api_Notice.mk a1.Alert a1.Signatures) s34_0 s1 s2 _ _ (hH36.slc (i := 0) rfl enc79_len) (hH36.slcF hs1) (hH36.slcF hs2) (fixH hH36 (List.mem_of_getElem? (i := 3) rfl) (List.mem_of_getElem? (i := 4) rfl) (List.mem_of_getElem? (i := 5) rfl)) hr37) st_nil ?_
    refine DrawG.fl rfl (ev_ex wantS_none (ex_assign rfl)) rfl ?_
    refine DrawG.sync ?_
    refine DrawG.nil ?_
    cases h
    exact Run.ret Tryd.func17 rfl (res_tmp rfl res_nil) rfl

theorem mkk17 : makeK Tryd.prog 17 = none := by kernel_rfl
theorem cal17 : callable Tryd.prog 17 = true := by kernel_rfl
theorem whs9 : whole Tryd.prog 9 = some .str := by kernel_rfl
abbrev ref01_IsName_post (r : Bool) : SV → Mem → Prop := fun s _ => s = (.bool r)

def ref01_IsName_8 (F : Nat) (hd4 : (List UInt8) → Int → Option (Bool)) (v0 : (List UInt8)) (v3 : Int) (v49 : Bool) : Option (Bool) :=
  bif v49 then
    some false
  else
    hd4 v0 (w64 (v3 + (1 : Int)))

theorem ref01_IsName_8_ok (F : Nat) (hd4 : (List UInt8) → Int → Option (Bool)) (hhd4 : ∀ (v0 : (List UInt8)) (v3 : Int) (Fr : Rd) (M : Mem) (r : Bool) (hH : Has Fr M []), hd4 v0 v3 = some r → Run Tryd.prog ⟨⟨76, [], none⟩, []⟩ 50 (ref01_IsName_post r) [(0, (.str v0)), (3, (.int .i64 v3))] [codeC Tryd.prog 76 [1, 1, 0, 1, 0, 0], loopC Tryd.prog 76 [1, 1, 0, 1, 0, 0], .inBlock 0, codeC Tryd.prog 76 [1, 1, 1]] M) : ∀ (v0 : (List UInt8)) (v3 : Int) (v49 : Bool) (Fr : Rd) (M : Mem) (r : Bool) (hH : Has Fr M []), ref01_IsName_8 F hd4 v0 v3 v49 = some r → Run Tryd.prog ⟨⟨76, [], none⟩, []⟩ 50 (ref01_IsName_post r) [(0, (.str v0)), (3, (.int .i64 v3)), (49, (.bool v49))] [codeC Tryd.prog 76 [1, 1, 0, 1, 0, 0, 1, 0, 0, 1, 1], .inBlock 1, codeC Tryd.prog 76 [1, 1, 0, 1, 0, 0, 1, 1], loopC Tryd.prog 76 [1, 1, 0, 1, 0, 0], .inBlock 0, codeC Tryd.prog 76 [1, 1, 1]] M := by
  intro v0 v3 v49 Fr M r hH h
  rw [ref01_IsName_8] at h
  rcases btf (v49) with hc32 | hc32
  · have h := bif_t hc32 h
    refine Run.condT' rfl hc32 ?_
    refine Run.seq (Run.region ?_)
    refine Run.opG wantS_none (ex_assign rfl) rfl ?_
    refine Run.opsEnd ?_
    cases h
    exact Run.ret Tryd.func76 rfl (res_tmp rfl res_nil) rfl
  · have h := bif_f hc32 h
    refine Run.condF' rfl hc32 ?_
    refine Run.skip (Run.inBlock (Run.region ?_))
    refine Run.opG wantS_none (ex_move rfl) rfl ?_
    refine Run.opG wantS_none (ex_add rfl rfl) rfl ?_
    refine Run.opG wantS_none (ex_assign rfl) rfl ?_
    refine Run.opsEnd (Run.inLoop ?_)
    exact Run.pick [0, 3] (hhd4 v0 (w64 (v3 + (1 : Int))) _ _ _ hH h)

def ref01_IsName_7 (F : Nat) (hd4 : (List UInt8) → Int → Option (Bool)) (v0 : (List UInt8)) (v3 v4 : Int) (v45 : Bool) : Option (Bool) :=
  bif v45 then
    ref01_IsName_8 F hd4 v0 v3 (!(v4 == (95 : Int)))
  else
    ref01_IsName_8 F hd4 v0 v3 false

theorem ref01_IsName_7_ok (F : Nat) (hd4 : (List UInt8) → Int → Option (Bool)) (hhd4 : ∀ (v0 : (List UInt8)) (v3 : Int) (Fr : Rd) (M : Mem) (r : Bool) (hH : Has Fr M []), hd4 v0 v3 = some r → Run Tryd.prog ⟨⟨76, [], none⟩, []⟩ 50 (ref01_IsName_post r) [(0, (.str v0)), (3, (.int .i64 v3))] [codeC Tryd.prog 76 [1, 1, 0, 1, 0, 0], loopC Tryd.prog 76 [1, 1, 0, 1, 0, 0], .inBlock 0, codeC Tryd.prog 76 [1, 1, 1]] M) : ∀ (v0 : (List UInt8)) (v3 v4 : Int) (v45 : Bool) (Fr : Rd) (M : Mem) (r : Bool) (hH : Has Fr M []), ref01_IsName_7 F hd4 v0 v3 v4 v45 = some r → Run Tryd.prog ⟨⟨76, [], none⟩, []⟩ 50 (ref01_IsName_post r) [(0, (.str v0)), (3, (.int .i64 v3)), (4, (.int .u8 v4)), (45, (.bool v45))] [itemC Tryd.prog 76 [1, 1, 0, 1, 0, 0, 1, 0, 0, 1, 0] 14, codeC Tryd.prog 76 [1, 1, 0, 1, 0, 0, 1, 0, 0, 1, 1], .inBlock 1, codeC Tryd.prog 76 [1, 1, 0, 1, 0, 0, 1, 1], loopC Tryd.prog 76 [1, 1, 0, 1, 0, 0], .inBlock 0, codeC Tryd.prog 76 [1, 1, 1]] M := by
  intro v0 v3 v4 v45 Fr M r hH h
  rw [ref01_IsName_7] at h
  refine Run.opG wantS_none (ex_move rfl) rfl ?_
  rcases btf (v45) with hc31 | hc31
  · have h := bif_t hc31 h
    refine Run.opG (wantS_yes' rfl rfl hc31) (ex_move rfl) rfl ?_
    refine Run.opG (wantS_yes' rfl rfl hc31) (ex_neq rfl rfl) rfl ?_
    refine Run.opG wantS_none (ex_pickT' rfl hc31 rfl rfl) rfl ?_
    refine Run.opsEnd ?_
    exact Run.pick [0, 3, 49] (ref01_IsName_8_ok F hd4 hhd4 v0 v3 (!(v4 == (95 : Int))) _ _ _ hH h)
  · have h := bif_f hc31 h
    refine Run.no (wantS_not' rfl rfl hc31) rfl ?_
    refine Run.no (wantS_not' rfl rfl hc31) rfl ?_
    refine Run.opG wantS_none (ex_pickF' rfl hc31 rfl rfl) rfl ?_
    refine Run.opsEnd ?_
    exact Run.pick [0, 3, 49] (ref01_IsName_8_ok F hd4 hhd4 v0 v3 false _ _ _ hH h)

def ref01_IsName_6 (F : Nat) (hd4 : (List UInt8) → Int → Option (Bool)) (v0 : (List UInt8)) (v3 v4 : Int) (v38 v44 : Bool) : Option (Bool) :=
  ref01_IsName_7 F hd4 v0 v3 v4 (bif v38 then v44 else false)

theorem ref01_IsName_6_ok (F : Nat) (hd4 : (List UInt8) → Int → Option (Bool)) (hhd4 : ∀ (v0 : (List UInt8)) (v3 : Int) (Fr : Rd) (M : Mem) (r : Bool) (hH : Has Fr M []), hd4 v0 v3 = some r → Run Tryd.prog ⟨⟨76, [], none⟩, []⟩ 50 (ref01_IsName_post r) [(0, (.str v0)), (3, (.int .i64 v3))] [codeC Tryd.prog 76 [1, 1, 0, 1, 0, 0], loopC Tryd.prog 76 [1, 1, 0, 1, 0, 0], .inBlock 0, codeC Tryd.prog 76 [1, 1, 1]] M) : ∀ (v0 : (List UInt8)) (v3 v4 : Int) (v38 v44 : Bool) (Fr : Rd) (M : Mem) (r : Bool) (hH : Has Fr M []), ref01_IsName_6 F hd4 v0 v3 v4 v38 v44 = some r → Run Tryd.prog ⟨⟨76, [], none⟩, []⟩ 50 (ref01_IsName_post r) [(0, (.str v0)), (3, (.int .i64 v3)), (4, (.int .u8 v4)), (38, (.bool v38)), (44, (.bool v44))] [itemC Tryd.prog 76 [1, 1, 0, 1, 0, 0, 1, 0, 0, 1, 0] 13, codeC Tryd.prog 76 [1, 1, 0, 1, 0, 0, 1, 0, 0, 1, 1], .inBlock 1, codeC Tryd.prog 76 [1, 1, 0, 1, 0, 0, 1, 1], loopC Tryd.prog 76 [1, 1, 0, 1, 0, 0], .inBlock 0, codeC Tryd.prog 76 [1, 1, 1]] M := by
  intro v0 v3 v4 v38 v44 Fr M r hH h
  rw [ref01_IsName_6] at h
  refine Run.opG wantS_none (ex_pickB rfl rfl rfl) rfl ?_
  exact Run.pick [0, 3, 4, 45] (ref01_IsName_7_ok F hd4 hhd4 v0 v3 v4 (bif v38 then v44 else false) _ _ _ hH h)

def ref01_IsName_9 (F : Nat) (hd4 : (List UInt8) → Int → Option (Bool)) (v0 : (List UInt8)) (v3 v4 : Int) (v38 : Bool) : Option (Bool) :=
  bif v38 then
    none
  else
    ref01_IsName_7 F hd4 v0 v3 v4 false

theorem ref01_IsName_9_ok (F : Nat) (hd4 : (List UInt8) → Int → Option (Bool)) (hhd4 : ∀ (v0 : (List UInt8)) (v3 : Int) (Fr : Rd) (M : Mem) (r : Bool) (hH : Has Fr M []), hd4 v0 v3 = some r → Run Tryd.prog ⟨⟨76, [], none⟩, []⟩ 50 (ref01_IsName_post r) [(0, (.str v0)), (3, (.int .i64 v3))] [codeC Tryd.prog 76 [1, 1, 0, 1, 0, 0], loopC Tryd.prog 76 [1, 1, 0, 1, 0, 0], .inBlock 0, codeC Tryd.prog 76 [1, 1, 1]] M) : ∀ (v0 : (List UInt8)) (v3 v4 : Int) (v38 : Bool) (Fr : Rd) (M : Mem) (r : Bool) (hH : Has Fr M []), ref01_IsName_9 F hd4 v0 v3 v4 v38 = some r → Run Tryd.prog ⟨⟨76, [], none⟩, []⟩ 50 (ref01_IsName_post r) [(0, (.str v0)), (3, (.int .i64 v3)), (4, (.int .u8 v4)), (38, (.bool v38)), (44, (.tuple []))] [itemC Tryd.prog 76 [1, 1, 0, 1, 0, 0, 1, 0, 0, 1, 0] 13, codeC Tryd.prog 76 [1, 1, 0, 1, 0, 0, 1, 0, 0, 1, 1], .inBlock 1, codeC Tryd.prog 76 [1, 1, 0, 1, 0, 0, 1, 1], loopC Tryd.prog 76 [1, 1, 0, 1, 0, 0], .inBlock 0, codeC Tryd.prog 76 [1, 1, 1]] M := by
  intro v0 v3 v4 v38 Fr M r hH h
  rw [ref01_IsName_9] at h
  rcases btf (v38) with hc33 | hc33
  · have h := bif_t hc33 h
    cases h
  · have h := bif_f hc33 h
    refine Run.opG wantS_none (ex_pickF' rfl hc33 rfl rfl) rfl ?_
    exact Run.pick [0, 3, 4, 45] (ref01_IsName_7_ok F hd4 hhd4 v0 v3 v4 false _ _ _ hH h)

def ref01_IsName_5 (F : Nat) (hd4 : (List UInt8) → Int → Option (Bool)) (v0 : (List UInt8)) (v3 v4 : Int) (v37 : Bool) : Option (Bool) :=
  bif v37 then
    bif (decide (v4 < (48 : Int))) then
      ref01_IsName_6 F hd4 v0 v3 v4 v37 true
    else
      ref01_IsName_6 F hd4 v0 v3 v4 v37 (decide ((57 : Int) < v4))
  else
    ref01_IsName_9 F hd4 v0 v3 v4 v37

theorem ref01_IsName_5_ok (F : Nat) (hd4 : (List UInt8) → Int → Option (Bool)) (hhd4 : ∀ (v0 : (List UInt8)) (v3 : Int) (Fr : Rd) (M : Mem) (r : Bool) (hH : Has Fr M []), hd4 v0 v3 = some r → Run Tryd.prog ⟨⟨76, [], none⟩, []⟩ 50 (ref01_IsName_post r) [(0, (.str v0)), (3, (.int .i64 v3))] [codeC Tryd.prog 76 [1, 1, 0, 1, 0, 0], loopC Tryd.prog 76 [1, 1, 0, 1, 0, 0], .inBlock 0, codeC Tryd.prog 76 [1, 1, 1]] M) : ∀ (v0 : (List UInt8)) (v3 v4 : Int) (v37 : Bool) (Fr : Rd) (M : Mem) (r : Bool) (hH : Has Fr M []), ref01_IsName_5 F hd4 v0 v3 v4 v37 = some r → Run Tryd.prog ⟨⟨76, [], none⟩, []⟩ 50 (ref01_IsName_post r) [(0, (.str v0)), (3, (.int .i64 v3)), (4, (.int .u8 v4)), (37, (.bool v37))] [itemC Tryd.prog 76 [1, 1, 0, 1, 0, 0, 1, 0, 0, 1, 0] 6, codeC Tryd.prog 76 [1, 1, 0, 1, 0, 0, 1, 0, 0, 1, 1], .inBlock 1, codeC Tryd.prog 76 [1, 1, 0, 1, 0, 0, 1, 1], loopC Tryd.prog 76 [1, 1, 0, 1, 0, 0], .inBlock 0, codeC Tryd.prog 76 [1, 1, 1]] M := by
  intro v0 v3 v4 v37 Fr M r hH h
  rw [ref01_IsName_5] at h
  refine Run.opG wantS_none (ex_move rfl) rfl ?_
  rcases btf (v37) with hc29 | hc29
  · have h := bif_t hc29 h
    refine Run.opG (wantS_yes' rfl rfl hc29) (ex_move rfl) rfl ?_
    refine Run.opG (wantS_yes' rfl rfl hc29) (ex_lss rfl rfl) rfl ?_
    refine Run.opG (wantS_yes' rfl rfl hc29) (ex_move rfl) rfl ?_
    rcases btf ((decide (v4 < (48 : Int)))) with hc30 | hc30
    · have h := bif_t hc30 h
      refine Run.no (wantS_not' rfl rfl hc30) rfl ?_
      refine Run.no (wantS_not' rfl rfl hc30) rfl ?_
      refine Run.opG (wantS_yes' rfl rfl hc29) (ex_pickT' rfl hc30 rfl rfl) rfl ?_
      exact Run.pick [0, 3, 4, 38, 44] (ref01_IsName_6_ok F hd4 hhd4 v0 v3 v4 v37 true _ _ _ hH h)
    · have h := bif_f hc30 h
      refine Run.opG (wantS_yes' rfl rfl hc30) (ex_move rfl) rfl ?_
      refine Run.opG (wantS_yes' rfl rfl hc30) (ex_gtr rfl rfl) rfl ?_
      refine Run.opG (wantS_yes' rfl rfl hc29) (ex_pickF' rfl hc30 rfl rfl) rfl ?_
      exact Run.pick [0, 3, 4, 38, 44] (ref01_IsName_6_ok F hd4 hhd4 v0 v3 v4 v37 (decide ((57 : Int) < v4)) _ _ _ hH h)
  · have h := bif_f hc29 h
    refine Run.no (wantS_not' rfl rfl hc29) rfl ?_
    refine Run.no (wantS_not' rfl rfl hc29) rfl ?_
    refine Run.no (wantS_not' rfl rfl hc29) rfl ?_
    refine Run.no (wantS_skip rfl rfl) rfl ?_
    refine Run.no (wantS_skip rfl rfl) rfl ?_
    refine Run.no (wantS_not' rfl rfl hc29) rfl ?_
    exact Run.pick [0, 3, 4, 38, 44] (ref01_IsName_9_ok F hd4 hhd4 v0 v3 v4 v37 _ _ _ hH h)

def ref01_IsName_4 (F : Nat) : Nat → (List UInt8) → Int → Option (Bool)
  | 0, _, _ => none
  | N + 1, v0, v3 =>
    bif (decide (v3 < (v0.length : Int))) then
      bnd (sAt v0 v3) fun z27 =>
      bif (decide (z27 < (97 : Int))) then
        ref01_IsName_5 F (ref01_IsName_4 F N) v0 v3 z27 true
      else
        ref01_IsName_5 F (ref01_IsName_4 F N) v0 v3 z27 (decide ((122 : Int) < z27))
    else
      some true

theorem ref01_IsName_4_ok (F : Nat) : ∀ (N : Nat), ∀ (v0 : (List UInt8)) (v3 : Int) (Fr : Rd) (M : Mem) (r : Bool) (hH : Has Fr M []), ref01_IsName_4 F N v0 v3 = some r → Run Tryd.prog ⟨⟨76, [], none⟩, []⟩ 50 (ref01_IsName_post r) [(0, (.str v0)), (3, (.int .i64 v3))] [codeC Tryd.prog 76 [1, 1, 0, 1, 0, 0], loopC Tryd.prog 76 [1, 1, 0, 1, 0, 0], .inBlock 0, codeC Tryd.prog 76 [1, 1, 1]] M := by
  intro N
  induction N with
  | zero =>
    intro v0 v3 Fr M r hH h
    simp [ref01_IsName_4] at h
  | succ N ih =>
    intro v0 v3 Fr M r hH h
    rw [ref01_IsName_4] at h
    refine Run.seq (Run.seq (Run.region ?_))
    refine Run.opG wantS_none (ex_move rfl) rfl ?_
    refine Run.opG wantS_none (ex_move rfl) rfl ?_
    refine Run.opG wantS_none (ex_lenS rfl lenk9) rfl ?_
    refine Run.opG wantS_none (ex_lss rfl rfl) rfl ?_
    refine Run.opsEnd ?_
    rcases btf ((decide (v3 < (v0.length : Int)))) with hc25 | hc25
    · have h := bif_t hc25 h
      refine Run.condT' rfl hc25 ?_
      refine Run.skip (Run.seq (Run.block (Run.seq (Run.region ?_))))
      refine Run.opG wantS_none (ex_move rfl) rfl ?_
      refine Run.opG wantS_none (ex_move rfl) rfl ?_
      obtain ⟨z27, hz27, h⟩ := bnd_some h
      refine Run.opG wantS_none (ex_sAt rfl rfl whs9 hz27) rfl ?_
      refine Run.opG wantS_none (ex_assign rfl) rfl ?_
      refine Run.opsEnd (Run.seq (Run.region ?_))
      refine Run.opG wantS_none (ex_move rfl) rfl ?_
      refine Run.opG wantS_none (ex_lss rfl rfl) rfl ?_
      refine Run.opG wantS_none (ex_move rfl) rfl ?_
      rcases btf ((decide (z27 < (97 : Int)))) with hc28 | hc28
      · have h := bif_t hc28 h
        refine Run.no (wantS_not' rfl rfl hc28) rfl ?_
        refine Run.no (wantS_not' rfl rfl hc28) rfl ?_
        refine Run.opG wantS_none (ex_pickT' rfl hc28 rfl rfl) rfl ?_
        exact Run.pick [0, 3, 4, 37] (ref01_IsName_5_ok F (ref01_IsName_4 F N) ih v0 v3 z27 true _ _ _ hH h)
      · have h := bif_f hc28 h
        refine Run.opG (wantS_yes' rfl rfl hc28) (ex_move rfl) rfl ?_
        refine Run.opG (wantS_yes' rfl rfl hc28) (ex_gtr rfl rfl) rfl ?_
        refine Run.opG wantS_none (ex_pickF' rfl hc28 rfl rfl) rfl ?_
        exact Run.pick [0, 3, 4, 37] (ref01_IsName_5_ok F (ref01_IsName_4 F N) ih v0 v3 z27 (decide ((122 : Int) < z27)) _ _ _ hH h)
    · have h := bif_f hc25 h
      refine Run.condF' rfl hc25 ?_
      refine Run.exit rfl (Run.seq (Run.region ?_))
      refine Run.opG wantS_none (ex_assign rfl) rfl ?_
      refine Run.opsEnd ?_
      cases h
      exact Run.ret Tryd.func76 rfl (res_tmp rfl res_nil) rfl

def ref01_IsName_3 (F : Nat) (v0 : (List UInt8)) (v22 : Bool) : Option (Bool) :=
  bif v22 then
    some false
  else
    ref01_IsName_4 F F v0 (0 : Int)

theorem ref01_IsName_3_ok (F : Nat) : ∀ (v0 : (List UInt8)) (v22 : Bool) (Fr : Rd) (M : Mem) (r : Bool) (hH : Has Fr M []), ref01_IsName_3 F v0 v22 = some r → Run Tryd.prog ⟨⟨76, [], none⟩, []⟩ 50 (ref01_IsName_post r) [(0, (.str v0)), (22, (.bool v22))] [codeC Tryd.prog 76 [1, 0, 1], codeC Tryd.prog 76 [1, 1]] M := by
  intro v0 v22 Fr M r hH h
  rw [ref01_IsName_3] at h
  rcases btf (v22) with hc24 | hc24
  · have h := bif_t hc24 h
    refine Run.condT' rfl hc24 ?_
    refine Run.seq (Run.region ?_)
    refine Run.opG wantS_none (ex_assign rfl) rfl ?_
    refine Run.opsEnd ?_
    cases h
    exact Run.ret Tryd.func76 rfl (res_tmp rfl res_nil) rfl
  · have h := bif_f hc24 h
    refine Run.condF' rfl hc24 ?_
    refine Run.skip (Run.seq (Run.seq (Run.region ?_)))
    refine Run.opG wantS_none (ex_assign rfl) rfl ?_
    refine Run.opsEnd (Run.block (Run.loop ?_))
    exact Run.pick [0, 3] (ref01_IsName_4_ok F F v0 (0 : Int) _ _ _ hH h)

def ref01_IsName_2 (F : Nat) (v0 : (List UInt8)) (v17 : Bool) : Option (Bool) :=
  bif v17 then
    ref01_IsName_3 F v0 true
  else
    bnd (sAt v0 (0 : Int)) fun z35 =>
    ref01_IsName_3 F v0 (decide ((122 : Int) < z35))

theorem ref01_IsName_2_ok (F : Nat) : ∀ (v0 : (List UInt8)) (v17 : Bool) (Fr : Rd) (M : Mem) (r : Bool) (hH : Has Fr M []), ref01_IsName_2 F v0 v17 = some r → Run Tryd.prog ⟨⟨76, [], none⟩, []⟩ 50 (ref01_IsName_post r) [(0, (.str v0)), (17, (.bool v17))] [itemC Tryd.prog 76 [1, 0, 0] 13, codeC Tryd.prog 76 [1, 0, 1], codeC Tryd.prog 76 [1, 1]] M := by
  intro v0 v17 Fr M r hH h
  rw [ref01_IsName_2] at h
  refine Run.opG wantS_none (ex_move rfl) rfl ?_
  rcases btf (v17) with hc23 | hc23
  · have h := bif_t hc23 h
    refine Run.no (wantS_not' rfl rfl hc23) rfl ?_
    refine Run.no (wantS_not' rfl rfl hc23) rfl ?_
    refine Run.no (wantS_not' rfl rfl hc23) rfl ?_
    refine Run.opG wantS_none (ex_pickT' rfl hc23 rfl rfl) rfl ?_
    refine Run.opsEnd ?_
    exact Run.pick [0, 22] (ref01_IsName_3_ok F v0 true _ _ _ hH h)
  · have h := bif_f hc23 h
    refine Run.opG (wantS_yes' rfl rfl hc23) (ex_move rfl) rfl ?_
    obtain ⟨z35, hz35, h⟩ := bnd_some h
    refine Run.opG (wantS_yes' rfl rfl hc23) (ex_sAt rfl rfl whs9 hz35) rfl ?_
    refine Run.opG (wantS_yes' rfl rfl hc23) (ex_gtr rfl rfl) rfl ?_
    refine Run.opG wantS_none (ex_pickF' rfl hc23 rfl rfl) rfl ?_
    refine Run.opsEnd ?_
    exact Run.pick [0, 22] (ref01_IsName_3_ok F v0 (decide ((122 : Int) < z35)) _ _ _ hH h)

def ref01_IsName_1 (F : Nat) (v0 : (List UInt8)) (v12 : Bool) : Option (Bool) :=
  bif v12 then
    ref01_IsName_2 F v0 true
  else
    bnd (sAt v0 (0 : Int)) fun z37 =>
    ref01_IsName_2 F v0 (decide (z37 < (97 : Int)))

theorem ref01_IsName_1_ok (F : Nat) : ∀ (v0 : (List UInt8)) (v12 : Bool) (Fr : Rd) (M : Mem) (r : Bool) (hH : Has Fr M []), ref01_IsName_1 F v0 v12 = some r → Run Tryd.prog ⟨⟨76, [], none⟩, []⟩ 50 (ref01_IsName_post r) [(0, (.str v0)), (12, (.bool v12))] [itemC Tryd.prog 76 [1, 0, 0] 8, codeC Tryd.prog 76 [1, 0, 1], codeC Tryd.prog 76 [1, 1]] M := by
  intro v0 v12 Fr M r hH h
  rw [ref01_IsName_1] at h
  refine Run.opG wantS_none (ex_move rfl) rfl ?_
  rcases btf (v12) with hc22 | hc22
  · have h := bif_t hc22 h
    refine Run.no (wantS_not' rfl rfl hc22) rfl ?_
    refine Run.no (wantS_not' rfl rfl hc22) rfl ?_
    refine Run.no (wantS_not' rfl rfl hc22) rfl ?_
    refine Run.opG wantS_none (ex_pickT' rfl hc22 rfl rfl) rfl ?_
    exact Run.pick [0, 17] (ref01_IsName_2_ok F v0 true _ _ _ hH h)
  · have h := bif_f hc22 h
    refine Run.opG (wantS_yes' rfl rfl hc22) (ex_move rfl) rfl ?_
    obtain ⟨z37, hz37, h⟩ := bnd_some h
    refine Run.opG (wantS_yes' rfl rfl hc22) (ex_sAt rfl rfl whs9 hz37) rfl ?_
    refine Run.opG (wantS_yes' rfl rfl hc22) (ex_lss rfl rfl) rfl ?_
    refine Run.opG wantS_none (ex_pickF' rfl hc22 rfl rfl) rfl ?_
    exact Run.pick [0, 17] (ref01_IsName_2_ok F v0 (decide (z37 < (97 : Int))) _ _ _ hH h)

def ref01_IsName (F : Nat) (a0 : (List UInt8)) : Option (Bool) :=
  bif (decide ((a0.length : Int) < (1 : Int))) then
    ref01_IsName_1 F a0 true
  else
    ref01_IsName_1 F a0 (decide ((16 : Int) < (a0.length : Int)))

theorem ref01_IsName_ok (F : Nat) (a0 : (List UInt8)) (r : Bool) (M : Mem) (h : ref01_IsName F a0 = some r) : CallsM Tryd.prog 76 [(.str a0)] M (fun s M' => s = (.bool r) ∧ M' = M) := by
  refine CallsM.plain Tryd.func76 rfl rfl rfl (show Run _ _ _ (ref01_IsName_post r) _ _ _ from ?_)
  rw [ref01_IsName] at h
  have hH := Has.nil (frozen M)
  refine Run.seq (Run.region ?_)
  refine Run.opG wantS_none (ex_assign rfl) rfl ?_
  refine Run.opsEnd (Run.seq (Run.seq (Run.region ?_)))
  refine Run.opG wantS_none (ex_move rfl) rfl ?_
  refine Run.opG wantS_none (ex_lenS rfl lenk9) rfl ?_
  refine Run.opG wantS_none (ex_lss rfl rfl) rfl ?_
  refine Run.opG wantS_none (ex_move rfl) rfl ?_
  rcases btf ((decide ((a0.length : Int) < (1 : Int)))) with hc21 | hc21
  · have h := bif_t hc21 h
    refine Run.no (wantS_not' rfl rfl hc21) rfl ?_
    refine Run.no (wantS_not' rfl rfl hc21) rfl ?_
    refine Run.no (wantS_not' rfl rfl hc21) rfl ?_
    refine Run.opG wantS_none (ex_pickT' rfl hc21 rfl rfl) rfl ?_
    exact Run.pick [0, 12] (ref01_IsName_1_ok F a0 true _ _ _ hH h)
  · have h := bif_f hc21 h
    refine Run.opG (wantS_yes' rfl rfl hc21) (ex_move rfl) rfl ?_
    refine Run.opG (wantS_yes' rfl rfl hc21) (ex_lenS rfl lenk9) rfl ?_
    refine Run.opG (wantS_yes' rfl rfl hc21) (ex_gtr rfl rfl) rfl ?_
    refine Run.opG wantS_none (ex_pickF' rfl hc21 rfl rfl) rfl ?_
    exact Run.pick [0, 12] (ref01_IsName_1_ok F a0 (decide ((16 : Int) < (a0.length : Int))) _ _ _ hH h)

theorem mkk76 : makeK Tryd.prog 76 = none := by kernel_rfl
theorem cal76 : callable Tryd.prog 76 = true := by kernel_rfl
theorem plan47_1_1_1_0_1_0_0_1_0_0 : planOf Tryd.prog (opsC (atC Tryd.prog 47 [1, 1, 1, 0, 1, 0, 0, 1, 0, 0])) = some [.fl 0, .fl 1, .fl 2, .fl 3, .fl 4, .fl 5, .fl 6, .fl 7, .fl 8, .fl 9, .fl 10, .fl 11, .an 12 [], .fl 13, .fl 14, .fl 15, .fl 16, .fl 17, .fl 18, .fl 19, .fl 20, .fl 21, .fl 22, .fl 23, .fl 24, .fl 25, .fl 26, .fl 27, .fl 28, .fl 29, .fl 30, .fl 31, .sync] := by kernel_rfl
abbrev ref10_CheckAlert_post (r : Int) : SV → Mem → Prop := fun s _ => s = (.int .i64 r)

def ref10_CheckAlert_12 (F : Nat) (hd10 : Bool → Int → (List UInt8) → Int → Int → Int → Int → Int → (List Int) → Bool → Int → Option (Int)) (v3 : Bool) (v4 : Int) (c22_0 : (List UInt8)) (c22_1 c22_2 c22_3 c22_4 c22_5 : Int) (c22_6 : (List Int)) (c22_7 : Bool) (c22_8 : Int) : Option (Int) :=
  hd10 v3 (w64 (v4 + (1 : Int))) c22_0 c22_1 c22_2 c22_3 c22_4 c22_5 c22_6 c22_7 c22_8

theorem ref10_CheckAlert_12_ok (F : Nat) (hd10 : Bool → Int → (List UInt8) → Int → Int → Int → Int → Int → (List Int) → Bool → Int → Option (Int)) (hhd10 : ∀ (v3 : Bool) (v4 : Int) (c22_0 : (List UInt8)) (c22_1 c22_2 c22_3 c22_4 c22_5 : Int) (c22_6 : (List Int)) (c22_7 : Bool) (c22_8 : Int) (sc22_6 : SV) (b22 : Pos) (Fr : Rd) (M : Mem) (r : Int) (hc22_6 : Slc Fr 1 (FlatR enc3) sc22_6 c22_6) (hH : Has Fr M [.obj b22 (.row 29 .whole [(.str c22_0), (.int .i64 c22_1), (.int .i64 c22_2), (.int .i64 c22_3), (.int .i64 c22_4), (.int .i64 c22_5), sc22_6, (.bool c22_7), (.int .i64 c22_8)])]), hd10 v3 v4 c22_0 c22_1 c22_2 c22_3 c22_4 c22_5 c22_6 c22_7 c22_8 = some r → Run Tryd.prog ⟨⟨47, [], none⟩, []⟩ 106 (ref10_CheckAlert_post r) [(1, (.ptr b22 0)), (3, (.bool v3)), (4, (.int .i64 v4))] [codeC Tryd.prog 47 [1, 1, 1, 0, 1, 0, 0], loopC Tryd.prog 47 [1, 1, 1, 0, 1, 0, 0], .inBlock 0, codeC Tryd.prog 47 [1, 1, 1, 1]] M) : ∀ (v3 : Bool) (v4 : Int) (c22_0 : (List UInt8)) (c22_1 c22_2 c22_3 c22_4 c22_5 : Int) (c22_6 : (List Int)) (c22_7 : Bool) (c22_8 : Int) (sc22_6 : SV) (b22 : Pos) (Fr : Rd) (M : Mem) (r : Int) (hc22_6 : Slc Fr 1 (FlatR enc3) sc22_6 c22_6) (hH : Has Fr M [.obj b22 (.row 29 .whole [(.str c22_0), (.int .i64 c22_1), (.int .i64 c22_2), (.int .i64 c22_3), (.int .i64 c22_4), (.int .i64 c22_5), sc22_6, (.bool c22_7), (.int .i64 c22_8)])]), ref10_CheckAlert_12 F hd10 v3 v4 c22_0 c22_1 c22_2 c22_3 c22_4 c22_5 c22_6 c22_7 c22_8 = some r → Run Tryd.prog ⟨⟨47, [], none⟩, []⟩ 106 (ref10_CheckAlert_post r) [(1, (.ptr b22 0)), (3, (.bool v3)), (4, (.int .i64 v4))] [itemC Tryd.prog 47 [1, 1, 1, 0, 1, 0, 0, 1, 1] 0, loopC Tryd.prog 47 [1, 1, 1, 0, 1, 0, 0], .inBlock 0, codeC Tryd.prog 47 [1, 1, 1, 1]] M := by
  intro v3 v4 c22_0 c22_1 c22_2 c22_3 c22_4 c22_5 c22_6 c22_7 c22_8 sc22_6 b22 Fr M r hc22_6 hH h
  rw [ref10_CheckAlert_12] at h
  refine Run.opG wantS_none (ex_move rfl) rfl ?_
  refine Run.opG wantS_none (ex_add rfl rfl) rfl ?_
  refine Run.opG wantS_none (ex_assign rfl) rfl ?_
  refine Run.opsEnd (Run.inLoop ?_)
  exact Run.pick [1, 3, 4] (hhd10 v3 (w64 (v4 + (1 : Int))) c22_0 c22_1 c22_2 c22_3 c22_4 c22_5 c22_6 c22_7 c22_8 sc22_6 b22 _ _ _ hc22_6 hH h)

def ref10_CheckAlert_11 (F : Nat) (hd10 : Bool → Int → (List UInt8) → Int → Int → Int → Int → Int → (List Int) → Bool → Int → Option (Int)) (v3 : Bool) (v4 : Int) (v70 : Bool) (c22_0 : (List UInt8)) (c22_1 c22_2 c22_3 c22_4 c22_5 : Int) (c22_6 : (List Int)) (c22_7 : Bool) (c22_8 : Int) : Option (Int) :=
  bif v70 then
    bnd (idx c22_6 v4) fun x53 =>
    bnd (ref00_In F x53 (0 : Int) (w64 ((w64 ((w64 ((6 : Int) * c22_5)) * c22_5)) - (1 : Int)))) fun r54 =>
    bif r54 then
      bif (v4 == (0 : Int)) then
        ref10_CheckAlert_12 F hd10 true v4 c22_0 c22_1 c22_2 c22_3 c22_4 c22_5 c22_6 c22_7 c22_8
      else
        bnd (idx c22_6 (w64 (v4 - (1 : Int)))) fun x58 =>
        bnd (idx c22_6 v4) fun x59 =>
        ref10_CheckAlert_12 F hd10 (decide (x58 < x59)) v4 c22_0 c22_1 c22_2 c22_3 c22_4 c22_5 c22_6 c22_7 c22_8
    else
      ref10_CheckAlert_12 F hd10 false v4 c22_0 c22_1 c22_2 c22_3 c22_4 c22_5 c22_6 c22_7 c22_8
  else
    bif (!v3) then
      some (101 : Int)
    else
      some (0 : Int)

theorem ref10_CheckAlert_11_ok (F : Nat) (hd10 : Bool → Int → (List UInt8) → Int → Int → Int → Int → Int → (List Int) → Bool → Int → Option (Int)) (hhd10 : ∀ (v3 : Bool) (v4 : Int) (c22_0 : (List UInt8)) (c22_1 c22_2 c22_3 c22_4 c22_5 : Int) (c22_6 : (List Int)) (c22_7 : Bool) (c22_8 : Int) (sc22_6 : SV) (b22 : Pos) (Fr : Rd) (M : Mem) (r : Int) (hc22_6 : Slc Fr 1 (FlatR enc3) sc22_6 c22_6) (hH : Has Fr M [.obj b22 (.row 29 .whole [(.str c22_0), (.int .i64 c22_1), (.int .i64 c22_2), (.int .i64 c22_3), (.int .i64 c22_4), (.int .i64 c22_5), sc22_6, (.bool c22_7), (.int .i64 c22_8)])]), hd10 v3 v4 c22_0 c22_1 c22_2 c22_3 c22_4 c22_5 c22_6 c22_7 c22_8 = some r → Run Tryd.prog ⟨⟨47, [], none⟩, []⟩ 106 (ref10_CheckAlert_post r) [(1, (.ptr b22 0)), (3, (.bool v3)), (4, (.int .i64 v4))] [codeC Tryd.prog 47 [1, 1, 1, 0, 1, 0, 0], loopC Tryd.prog 47 [1, 1, 1, 0, 1, 0, 0], .inBlock 0, codeC Tryd.prog 47 [1, 1, 1, 1]] M) : ∀ (v3 : Bool) (v4 : Int) (v70 : Bool) (c22_0 : (List UInt8)) (c22_1 c22_2 c22_3 c22_4 c22_5 : Int) (c22_6 : (List Int)) (c22_7 : Bool) (c22_8 : Int) (sc22_6 : SV) (b22 : Pos) (Fr : Rd) (M : Mem) (r : Int) (hc22_6 : Slc Fr 1 (FlatR enc3) sc22_6 c22_6) (hH : Has Fr M [.obj b22 (.row 29 .whole [(.str c22_0), (.int .i64 c22_1), (.int .i64 c22_2), (.int .i64 c22_3), (.int .i64 c22_4), (.int .i64 c22_5), sc22_6, (.bool c22_7), (.int .i64 c22_8)])]), ref10_CheckAlert_11 F hd10 v3 v4 v70 c22_0 c22_1 c22_2 c22_3 c22_4 c22_5 c22_6 c22_7 c22_8 = some r → Run Tryd.prog ⟨⟨47, [], none⟩, []⟩ 106 (ref10_CheckAlert_post r) [(1, (.ptr b22 0)), (3, (.bool v3)), (4, (.int .i64 v4)), (70, (.bool v70))] [codeC Tryd.prog 47 [1, 1, 1, 0, 1, 0, 0, 0, 1], codeC Tryd.prog 47 [1, 1, 1, 0, 1, 0, 0, 1], loopC Tryd.prog 47 [1, 1, 1, 0, 1, 0, 0], .inBlock 0, codeC Tryd.prog 47 [1, 1, 1, 1]] M := by
  intro v3 v4 v70 c22_0 c22_1 c22_2 c22_3 c22_4 c22_5 c22_6 c22_7 c22_8 sc22_6 b22 Fr M r hc22_6 hH h
  rw [ref10_CheckAlert_11] at h
  rcases btf (v70) with hc52 | hc52
  · have h := bif_t hc52 h
    refine Run.condT' rfl hc52 ?_
    refine Run.skip (Run.seq (Run.block ?_))
    refine Run.drawG plan47_1_1_1_0_1_0_0_1_0_0 ?_
    refine DrawG.fl rfl (ev_ex wantS_none (ex_fieldAddr rfl off29_5)) rfl ?_
    refine DrawG.fl rfl (ev_ex wantS_none (ex_load1 rfl (hH.cells (i := 0) rfl 6 rfl) rdLe_rfl agg27)) rfl ?_
    refine DrawG.fl rfl (ev_ex wantS_none (ex_move rfl)) rfl ?_
    obtain ⟨x53, hx53, h⟩ := bnd_some h
    obtain ⟨p53, o53, _, hx53, hp53, rfl⟩ := sl_elem (P := Tryd.prog) (t := 27) (kk := .i64) hc22_6 hx53 els27
    refine DrawG.fl rfl (ev_ex wantS_none (ex_elX rfl rfl hx53)) rfl ?_
    refine DrawG.fl rfl (ev_ex wantS_none (ex_load1 rfl (hH.ptrF hp53) rdLe_rfl agg3)) rfl ?_
    refine DrawG.fl rfl (ev_ex wantS_none (ex_fieldAddr rfl off29_4)) rfl ?_
    refine DrawG.fl rfl (ev_ex wantS_none (ex_load1 rfl (hH.cells (i := 0) rfl 5 rfl) rdLe_rfl agg3)) rfl ?_
    refine DrawG.fl rfl (ev_ex wantS_none (ex_mul rfl rfl)) rfl ?_
    refine DrawG.fl rfl (ev_ex wantS_none (ex_fieldAddr rfl off29_4)) rfl ?_
    refine DrawG.fl rfl (ev_ex wantS_none (ex_load1 rfl (hH.cells (i := 0) rfl 5 rfl) rdLe_rfl agg3)) rfl ?_
    refine DrawG.fl rfl (ev_ex wantS_none (ex_mul rfl rfl)) rfl ?_
    refine DrawG.fl rfl (ev_ex wantS_none (ex_sub rfl rfl)) rfl ?_
    obtain ⟨r54, hr54, h⟩ := bnd_some h
    refine DrawG.callP rfl wantS_none (ex_call rfl mkk39 cal39) rfl (ref00_In_ok F x53 (0 : Int) (w64 ((w64 ((w64 ((6 : Int) * c22_5)) * c22_5)) - (1 : Int))) _ _ hr54) st_nil ?_
    refine DrawG.fl rfl (ev_ex wantS_none (ex_move rfl)) rfl ?_
    rcases btf (r54) with hc56 | hc56
    · have h := bif_t hc56 h
      refine DrawG.fl rfl (ev_ex (wantS_yes' rfl rfl hc56) (ex_move rfl)) rfl ?_
      refine DrawG.fl rfl (ev_ex (wantS_yes' rfl rfl hc56) (ex_eql rfl rfl)) rfl ?_
      refine DrawG.fl rfl (ev_ex (wantS_yes' rfl rfl hc56) (ex_move rfl)) rfl ?_
      rcases btf ((v4 == (0 : Int))) with hc57 | hc57
      · have h := bif_t hc57 h
        refine DrawG.fl rfl (ev_no (wantS_not' rfl rfl hc57)) rfl ?_
        refine DrawG.fl rfl (ev_no (wantS_not' rfl rfl hc57)) rfl ?_
        refine DrawG.fl rfl (ev_no (wantS_not' rfl rfl hc57)) rfl ?_
        refine DrawG.fl rfl (ev_no (wantS_not' rfl rfl hc57)) rfl ?_
        refine DrawG.fl rfl (ev_no (wantS_not' rfl rfl hc57)) rfl ?_
        refine DrawG.fl rfl (ev_no (wantS_not' rfl rfl hc57)) rfl ?_
        refine DrawG.fl rfl (ev_no (wantS_not' rfl rfl hc57)) rfl ?_
        refine DrawG.fl rfl (ev_no (wantS_not' rfl rfl hc57)) rfl ?_
        refine DrawG.fl rfl (ev_no (wantS_not' rfl rfl hc57)) rfl ?_
        refine DrawG.fl rfl (ev_no (wantS_not' rfl rfl hc57)) rfl ?_
        refine DrawG.fl rfl (ev_no (wantS_not' rfl rfl hc57)) rfl ?_
        refine DrawG.fl rfl (ev_no (wantS_not' rfl rfl hc57)) rfl ?_
        refine DrawG.fl rfl (ev_ex (wantS_yes' rfl rfl hc56) (ex_pickT' rfl hc57 rfl rfl)) rfl ?_
        refine DrawG.fl rfl (ev_ex wantS_none (ex_pickT' rfl hc56 rfl rfl)) rfl ?_
        refine DrawG.fl rfl (ev_ex wantS_none (ex_assign rfl)) rfl ?_
        refine DrawG.sync ?_
        refine DrawG.nil ?_
        refine Run.inBlock (Run.region ?_)
        exact Run.pick [1, 3, 4] (ref10_CheckAlert_12_ok F hd10 hhd10 true v4 c22_0 c22_1 c22_2 c22_3 c22_4 c22_5 c22_6 c22_7 c22_8 sc22_6 b22 _ _ _ hc22_6 hH h)
      · have h := bif_f hc57 h
        refine DrawG.fl rfl (ev_ex (wantS_yes' rfl rfl hc57) (ex_fieldAddr rfl off29_5)) rfl ?_
        refine DrawG.fl rfl (ev_ex (wantS_yes' rfl rfl hc57) (ex_load1 rfl (hH.cells (i := 0) rfl 6 rfl) rdLe_rfl agg27)) rfl ?_
        refine DrawG.fl rfl (ev_ex (wantS_yes' rfl rfl hc57) (ex_move rfl)) rfl ?_
        refine DrawG.fl rfl (ev_ex (wantS_yes' rfl rfl hc57) (ex_sub rfl rfl)) rfl ?_
        obtain ⟨x58, hx58, h⟩ := bnd_some h
        obtain ⟨p58, o58, _, hx58, hp58, rfl⟩ := sl_elem (P := Tryd.prog) (t := 27) (kk := .i64) hc22_6 hx58 els27
        refine DrawG.fl rfl (ev_ex (wantS_yes' rfl rfl hc57) (ex_elX rfl rfl hx58)) rfl ?_
        refine DrawG.fl rfl (ev_ex (wantS_yes' rfl rfl hc57) (ex_load1 rfl (hH.ptrF hp58) rdLe_rfl agg3)) rfl ?_
        refine DrawG.fl rfl (ev_ex (wantS_yes' rfl rfl hc57) (ex_fieldAddr rfl off29_5)) rfl ?_
        refine DrawG.fl rfl (ev_ex (wantS_yes' rfl rfl hc57) (ex_load1 rfl (hH.cells (i := 0) rfl 6 rfl) rdLe_rfl agg27)) rfl ?_
        refine DrawG.fl rfl (ev_ex (wantS_yes' rfl rfl hc57) (ex_move rfl)) rfl ?_
        obtain ⟨x59, hx59, h⟩ := bnd_some h
        obtain ⟨p59, o59, _, hx59, hp59, rfl⟩ := sl_elem (P := Tryd.prog) (t := 27) (kk := .i64) hc22_6 hx59 els27
        refine DrawG.fl rfl (ev_ex (wantS_yes' rfl rfl hc57) (ex_elX rfl rfl hx59)) rfl ?_
        refine DrawG.fl rfl (ev_ex (wantS_yes' rfl rfl hc57) (ex_load1 rfl (hH.ptrF hp59) rdLe_rfl agg3)) rfl ?_
        refine DrawG.fl rfl (ev_ex (wantS_yes' rfl rfl hc57) (ex_lss rfl rfl)) rfl ?_
        refine DrawG.fl rfl (ev_ex (wantS_yes' rfl rfl hc56) (ex_pickF' rfl hc57 rfl rfl)) rfl ?_
        refine DrawG.fl rfl (ev_ex wantS_none (ex_pickT' rfl hc56 rfl rfl)) rfl ?_
        refine DrawG.fl rfl (ev_ex wantS_none (ex_assign rfl)) rfl ?_
        refine DrawG.sync ?_
        refine DrawG.nil ?_
        refine Run.inBlock (Run.region ?_)
        exact Run.pick [1, 3, 4] (ref10_CheckAlert_12_ok F hd10 hhd10 (decide (x58 < x59)) v4 c22_0 c22_1 c22_2 c22_3 c22_4 c22_5 c22_6 c22_7 c22_8 sc22_6 b22 _ _ _ hc22_6 hH h)
    · have h := bif_f hc56 h
      refine DrawG.fl rfl (ev_no (wantS_not' rfl rfl hc56)) rfl ?_
      refine DrawG.fl rfl (ev_no (wantS_not' rfl rfl hc56)) rfl ?_
      refine DrawG.fl rfl (ev_no (wantS_not' rfl rfl hc56)) rfl ?_
      refine DrawG.fl rfl (ev_no (wantS_skip rfl rfl)) rfl ?_
      refine DrawG.fl rfl (ev_no (wantS_skip rfl rfl)) rfl ?_
      refine DrawG.fl rfl (ev_no (wantS_skip rfl rfl)) rfl ?_
      refine DrawG.fl rfl (ev_no (wantS_skip rfl rfl)) rfl ?_
      refine DrawG.fl rfl (ev_no (wantS_skip rfl rfl)) rfl ?_
      refine DrawG.fl rfl (ev_no (wantS_skip rfl rfl)) rfl ?_
      refine DrawG.fl rfl (ev_no (wantS_skip rfl rfl)) rfl ?_
      refine DrawG.fl rfl (ev_no (wantS_skip rfl rfl)) rfl ?_
      refine DrawG.fl rfl (ev_no (wantS_skip rfl rfl)) rfl ?_
      refine DrawG.fl rfl (ev_no (wantS_skip rfl rfl)) rfl ?_
      refine DrawG.fl rfl (ev_no (wantS_skip rfl rfl)) rfl ?_
      refine DrawG.fl rfl (ev_no (wantS_skip rfl rfl)) rfl ?_
      refine DrawG.fl rfl (ev_no (wantS_not' rfl rfl hc56)) rfl ?_
      refine DrawG.fl rfl (ev_ex wantS_none (ex_pickF' rfl hc56 rfl rfl)) rfl ?_
      refine DrawG.fl rfl (ev_ex wantS_none (ex_assign rfl)) rfl ?_
      refine DrawG.sync ?_
      refine DrawG.nil ?_
      refine Run.inBlock (Run.region ?_)
      exact Run.pick [1, 3, 4] (ref10_CheckAlert_12_ok F hd10 hhd10 false v4 c22_0 c22_1 c22_2 c22_3 c22_4 c22_5 c22_6 c22_7 c22_8 sc22_6 b22 _ _ _ hc22_6 hH h)
  · have h := bif_f hc52 h
    refine Run.condF' rfl hc52 ?_
    refine Run.exit rfl (Run.seq (Run.seq (Run.region ?_)))
    refine Run.opG wantS_none (ex_move rfl) rfl ?_
    refine Run.opG wantS_none (ex_not rfl) rfl ?_
    refine Run.opsEnd ?_
    rcases btf ((!v3)) with hc60 | hc60
    · have h := bif_t hc60 h
      refine Run.condT' rfl hc60 ?_
      refine Run.seq (Run.region ?_)
      refine Run.opG wantS_none (ex_assign rfl) rfl ?_
      refine Run.opsEnd ?_
      cases h
      exact Run.ret Tryd.func47 rfl (res_tmp rfl res_nil) rfl
    · have h := bif_f hc60 h
      refine Run.condF' rfl hc60 ?_
      refine Run.skip (Run.seq (Run.region ?_))
      refine Run.opG wantS_none (ex_assign rfl) rfl ?_
      refine Run.opsEnd ?_
      cases h
      exact Run.ret Tryd.func47 rfl (res_tmp rfl res_nil) rfl

def ref10_CheckAlert_10 (F : Nat) : Nat → Bool → Int → (List UInt8) → Int → Int → Int → Int → Int → (List Int) → Bool → Int → Option (Int)
  | 0, _, _, _, _, _, _, _, _, _, _, _ => none
  | N + 1, v3, v4, c22_0, c22_1, c22_2, c22_3, c22_4, c22_5, c22_6, c22_7, c22_8 =>
    bif (decide (v4 < (c22_6.length : Int))) then
      ref10_CheckAlert_11 F (ref10_CheckAlert_10 F N) v3 v4 v3 c22_0 c22_1 c22_2 c22_3 c22_4 c22_5 c22_6 c22_7 c22_8
    else
      ref10_CheckAlert_11 F (ref10_CheckAlert_10 F N) v3 v4 false c22_0 c22_1 c22_2 c22_3 c22_4 c22_5 c22_6 c22_7 c22_8

theorem ref10_CheckAlert_10_ok (F : Nat) : ∀ (N : Nat), ∀ (v3 : Bool) (v4 : Int) (c22_0 : (List UInt8)) (c22_1 c22_2 c22_3 c22_4 c22_5 : Int) (c22_6 : (List Int)) (c22_7 : Bool) (c22_8 : Int) (sc22_6 : SV) (b22 : Pos) (Fr : Rd) (M : Mem) (r : Int) (hc22_6 : Slc Fr 1 (FlatR enc3) sc22_6 c22_6) (hH : Has Fr M [.obj b22 (.row 29 .whole [(.str c22_0), (.int .i64 c22_1), (.int .i64 c22_2), (.int .i64 c22_3), (.int .i64 c22_4), (.int .i64 c22_5), sc22_6, (.bool c22_7), (.int .i64 c22_8)])]), ref10_CheckAlert_10 F N v3 v4 c22_0 c22_1 c22_2 c22_3 c22_4 c22_5 c22_6 c22_7 c22_8 = some r → Run Tryd.prog ⟨⟨47, [], none⟩, []⟩ 106 (ref10_CheckAlert_post r) [(1, (.ptr b22 0)), (3, (.bool v3)), (4, (.int .i64 v4))] [codeC Tryd.prog 47 [1, 1, 1, 0, 1, 0, 0], loopC Tryd.prog 47 [1, 1, 1, 0, 1, 0, 0], .inBlock 0, codeC Tryd.prog 47 [1, 1, 1, 1]] M := by
  intro N
  induction N with
  | zero =>
    intro v3 v4 c22_0 c22_1 c22_2 c22_3 c22_4 c22_5 c22_6 c22_7 c22_8 sc22_6 b22 Fr M r hc22_6 hH h
    simp [ref10_CheckAlert_10] at h
  | succ N ih =>
    intro v3 v4 c22_0 c22_1 c22_2 c22_3 c22_4 c22_5 c22_6 c22_7 c22_8 sc22_6 b22 Fr M r hc22_6 hH h
    rw [ref10_CheckAlert_10] at h
    refine Run.seq (Run.seq (Run.region ?_))
    refine Run.opG wantS_none (ex_move rfl) rfl ?_
    refine Run.opG wantS_none (ex_fieldAddr rfl off29_5) rfl ?_
    refine Run.opG wantS_none (ex_load1 rfl (hH.cells (i := 0) rfl 6 rfl) rdLe_rfl agg27) rfl ?_
    refine Run.opG wantS_none (ex_len' rfl hc22_6 lenk27) rfl ?_
    refine Run.opG wantS_none (ex_lss rfl rfl) rfl ?_
    refine Run.opG wantS_none (ex_move rfl) rfl ?_
    rcases btf ((decide (v4 < (c22_6.length : Int)))) with hc51 | hc51
    · have h := bif_t hc51 h
      refine Run.opG (wantS_yes' rfl rfl hc51) (ex_move rfl) rfl ?_
      refine Run.opG wantS_none (ex_pickT' rfl hc51 rfl rfl) rfl ?_
      refine Run.opsEnd ?_
      exact Run.pick [1, 3, 4, 70] (ref10_CheckAlert_11_ok F (ref10_CheckAlert_10 F N) ih v3 v4 v3 c22_0 c22_1 c22_2 c22_3 c22_4 c22_5 c22_6 c22_7 c22_8 sc22_6 b22 _ _ _ hc22_6 hH h)
    · have h := bif_f hc51 h
      refine Run.no (wantS_not' rfl rfl hc51) rfl ?_
      refine Run.opG wantS_none (ex_pickF' rfl hc51 rfl rfl) rfl ?_
      refine Run.opsEnd ?_
      exact Run.pick [1, 3, 4, 70] (ref10_CheckAlert_11_ok F (ref10_CheckAlert_10 F N) ih v3 v4 false c22_0 c22_1 c22_2 c22_3 c22_4 c22_5 c22_6 c22_7 c22_8 sc22_6 b22 _ _ _ hc22_6 hH h)

def ref10_CheckAlert_9 (F : Nat) (v62 : Bool) (c22_0 : (List UInt8)) (c22_1 c22_2 c22_3 c22_4 c22_5 : Int) (c22_6 : (List Int)) (c22_7 : Bool) (c22_8 : Int) : Option (Int) :=
  ref10_CheckAlert_10 F F v62 (0 : Int) c22_0 c22_1 c22_2 c22_3 c22_4 c22_5 c22_6 c22_7 c22_8

theorem ref10_CheckAlert_9_ok (F : Nat) : ∀ (v62 : Bool) (c22_0 : (List UInt8)) (c22_1 c22_2 c22_3 c22_4 c22_5 : Int) (c22_6 : (List Int)) (c22_7 : Bool) (c22_8 : Int) (sc22_6 : SV) (b22 : Pos) (Fr : Rd) (M : Mem) (r : Int) (hc22_6 : Slc Fr 1 (FlatR enc3) sc22_6 c22_6) (hH : Has Fr M [.obj b22 (.row 29 .whole [(.str c22_0), (.int .i64 c22_1), (.int .i64 c22_2), (.int .i64 c22_3), (.int .i64 c22_4), (.int .i64 c22_5), sc22_6, (.bool c22_7), (.int .i64 c22_8)])]), ref10_CheckAlert_9 F v62 c22_0 c22_1 c22_2 c22_3 c22_4 c22_5 c22_6 c22_7 c22_8 = some r → Run Tryd.prog ⟨⟨47, [], none⟩, []⟩ 106 (ref10_CheckAlert_post r) [(1, (.ptr b22 0)), (62, (.bool v62))] [itemC Tryd.prog 47 [1, 1, 0] 25, codeC Tryd.prog 47 [1, 1, 1]] M := by
  intro v62 c22_0 c22_1 c22_2 c22_3 c22_4 c22_5 c22_6 c22_7 c22_8 sc22_6 b22 Fr M r hc22_6 hH h
  rw [ref10_CheckAlert_9] at h
  refine Run.opG wantS_none (ex_assign rfl) rfl ?_
  refine Run.opsEnd (Run.seq (Run.seq (Run.region ?_)))
  refine Run.opG wantS_none (ex_assign rfl) rfl ?_
  refine Run.opsEnd (Run.block (Run.loop ?_))
  exact Run.pick [1, 3, 4] (ref10_CheckAlert_10_ok F F v62 (0 : Int) c22_0 c22_1 c22_2 c22_3 c22_4 c22_5 c22_6 c22_7 c22_8 sc22_6 b22 _ _ _ hc22_6 hH h)

def ref10_CheckAlert_8 (F : Nat) (v53 : Bool) (c22_0 : (List UInt8)) (c22_1 c22_2 c22_3 c22_4 c22_5 : Int) (c22_6 : (List Int)) (c22_7 : Bool) (c22_8 : Int) : Option (Int) :=
  bif v53 then
    ref10_CheckAlert_9 F (((c22_6.length : Int) == (0 : Int)) == c22_7) c22_0 c22_1 c22_2 c22_3 c22_4 c22_5 c22_6 c22_7 c22_8
  else
    ref10_CheckAlert_9 F false c22_0 c22_1 c22_2 c22_3 c22_4 c22_5 c22_6 c22_7 c22_8

theorem ref10_CheckAlert_8_ok (F : Nat) : ∀ (v53 : Bool) (c22_0 : (List UInt8)) (c22_1 c22_2 c22_3 c22_4 c22_5 : Int) (c22_6 : (List Int)) (c22_7 : Bool) (c22_8 : Int) (sc22_6 : SV) (b22 : Pos) (Fr : Rd) (M : Mem) (r : Int) (hc22_6 : Slc Fr 1 (FlatR enc3) sc22_6 c22_6) (hH : Has Fr M [.obj b22 (.row 29 .whole [(.str c22_0), (.int .i64 c22_1), (.int .i64 c22_2), (.int .i64 c22_3), (.int .i64 c22_4), (.int .i64 c22_5), sc22_6, (.bool c22_7), (.int .i64 c22_8)])]), ref10_CheckAlert_8 F v53 c22_0 c22_1 c22_2 c22_3 c22_4 c22_5 c22_6 c22_7 c22_8 = some r → Run Tryd.prog ⟨⟨47, [], none⟩, []⟩ 106 (ref10_CheckAlert_post r) [(1, (.ptr b22 0)), (53, (.bool v53))] [itemC Tryd.prog 47 [1, 1, 0] 16, codeC Tryd.prog 47 [1, 1, 1]] M := by
  intro v53 c22_0 c22_1 c22_2 c22_3 c22_4 c22_5 c22_6 c22_7 c22_8 sc22_6 b22 Fr M r hc22_6 hH h
  rw [ref10_CheckAlert_8] at h
  refine Run.opG wantS_none (ex_move rfl) rfl ?_
  rcases btf (v53) with hc50 | hc50
  · have h := bif_t hc50 h
    refine Run.opG (wantS_yes' rfl rfl hc50) (ex_fieldAddr rfl off29_5) rfl ?_
    refine Run.opG (wantS_yes' rfl rfl hc50) (ex_load1 rfl (hH.cells (i := 0) rfl 6 rfl) rdLe_rfl agg27) rfl ?_
    refine Run.opG (wantS_yes' rfl rfl hc50) (ex_len' rfl hc22_6 lenk27) rfl ?_
    refine Run.opG (wantS_yes' rfl rfl hc50) (ex_eql rfl rfl) rfl ?_
    refine Run.opG (wantS_yes' rfl rfl hc50) (ex_fieldAddr rfl off29_6) rfl ?_
    refine Run.opG (wantS_yes' rfl rfl hc50) (ex_load1 rfl (hH.cells (i := 0) rfl 7 rfl) rdLe_rfl agg4) rfl ?_
    refine Run.opG (wantS_yes' rfl rfl hc50) (ex_eqlB rfl rfl eqk4) rfl ?_
    refine Run.opG wantS_none (ex_pickT' rfl hc50 rfl rfl) rfl ?_
    exact Run.pick [1, 62] (ref10_CheckAlert_9_ok F (((c22_6.length : Int) == (0 : Int)) == c22_7) c22_0 c22_1 c22_2 c22_3 c22_4 c22_5 c22_6 c22_7 c22_8 sc22_6 b22 _ _ _ hc22_6 hH h)
  · have h := bif_f hc50 h
    refine Run.no (wantS_not' rfl rfl hc50) rfl ?_
    refine Run.no (wantS_not' rfl rfl hc50) rfl ?_
    refine Run.no (wantS_not' rfl rfl hc50) rfl ?_
    refine Run.no (wantS_not' rfl rfl hc50) rfl ?_
    refine Run.no (wantS_not' rfl rfl hc50) rfl ?_
    refine Run.no (wantS_not' rfl rfl hc50) rfl ?_
    refine Run.no (wantS_not' rfl rfl hc50) rfl ?_
    refine Run.opG wantS_none (ex_pickF' rfl hc50 rfl rfl) rfl ?_
    exact Run.pick [1, 62] (ref10_CheckAlert_9_ok F false c22_0 c22_1 c22_2 c22_3 c22_4 c22_5 c22_6 c22_7 c22_8 sc22_6 b22 _ _ _ hc22_6 hH h)

def ref10_CheckAlert_7 (F : Nat) (v44 v52 : Bool) (c22_0 : (List UInt8)) (c22_1 c22_2 c22_3 c22_4 c22_5 : Int) (c22_6 : (List Int)) (c22_7 : Bool) (c22_8 : Int) : Option (Int) :=
  ref10_CheckAlert_8 F (bif v44 then v52 else false) c22_0 c22_1 c22_2 c22_3 c22_4 c22_5 c22_6 c22_7 c22_8

theorem ref10_CheckAlert_7_ok (F : Nat) : ∀ (v44 v52 : Bool) (c22_0 : (List UInt8)) (c22_1 c22_2 c22_3 c22_4 c22_5 : Int) (c22_6 : (List Int)) (c22_7 : Bool) (c22_8 : Int) (sc22_6 : SV) (b22 : Pos) (Fr : Rd) (M : Mem) (r : Int) (hc22_6 : Slc Fr 1 (FlatR enc3) sc22_6 c22_6) (hH : Has Fr M [.obj b22 (.row 29 .whole [(.str c22_0), (.int .i64 c22_1), (.int .i64 c22_2), (.int .i64 c22_3), (.int .i64 c22_4), (.int .i64 c22_5), sc22_6, (.bool c22_7), (.int .i64 c22_8)])]), ref10_CheckAlert_7 F v44 v52 c22_0 c22_1 c22_2 c22_3 c22_4 c22_5 c22_6 c22_7 c22_8 = some r → Run Tryd.prog ⟨⟨47, [], none⟩, []⟩ 106 (ref10_CheckAlert_post r) [(1, (.ptr b22 0)), (44, (.bool v44)), (52, (.bool v52))] [itemC Tryd.prog 47 [1, 1, 0] 15, codeC Tryd.prog 47 [1, 1, 1]] M := by
  intro v44 v52 c22_0 c22_1 c22_2 c22_3 c22_4 c22_5 c22_6 c22_7 c22_8 sc22_6 b22 Fr M r hc22_6 hH h
  rw [ref10_CheckAlert_7] at h
  refine Run.opG wantS_none (ex_pickB rfl rfl rfl) rfl ?_
  exact Run.pick [1, 53] (ref10_CheckAlert_8_ok F (bif v44 then v52 else false) c22_0 c22_1 c22_2 c22_3 c22_4 c22_5 c22_6 c22_7 c22_8 sc22_6 b22 _ _ _ hc22_6 hH h)

def ref10_CheckAlert_13 (F : Nat) (v44 : Bool) (c22_0 : (List UInt8)) (c22_1 c22_2 c22_3 c22_4 c22_5 : Int) (c22_6 : (List Int)) (c22_7 : Bool) (c22_8 : Int) : Option (Int) :=
  bif v44 then
    none
  else
    ref10_CheckAlert_8 F false c22_0 c22_1 c22_2 c22_3 c22_4 c22_5 c22_6 c22_7 c22_8

theorem ref10_CheckAlert_13_ok (F : Nat) : ∀ (v44 : Bool) (c22_0 : (List UInt8)) (c22_1 c22_2 c22_3 c22_4 c22_5 : Int) (c22_6 : (List Int)) (c22_7 : Bool) (c22_8 : Int) (sc22_6 : SV) (b22 : Pos) (Fr : Rd) (M : Mem) (r : Int) (hc22_6 : Slc Fr 1 (FlatR enc3) sc22_6 c22_6) (hH : Has Fr M [.obj b22 (.row 29 .whole [(.str c22_0), (.int .i64 c22_1), (.int .i64 c22_2), (.int .i64 c22_3), (.int .i64 c22_4), (.int .i64 c22_5), sc22_6, (.bool c22_7), (.int .i64 c22_8)])]), ref10_CheckAlert_13 F v44 c22_0 c22_1 c22_2 c22_3 c22_4 c22_5 c22_6 c22_7 c22_8 = some r → Run Tryd.prog ⟨⟨47, [], none⟩, []⟩ 106 (ref10_CheckAlert_post r) [(1, (.ptr b22 0)), (44, (.bool v44)), (52, (.tuple []))] [itemC Tryd.prog 47 [1, 1, 0] 15, codeC Tryd.prog 47 [1, 1, 1]] M := by
  intro v44 c22_0 c22_1 c22_2 c22_3 c22_4 c22_5 c22_6 c22_7 c22_8 sc22_6 b22 Fr M r hc22_6 hH h
  rw [ref10_CheckAlert_13] at h
  rcases btf (v44) with hc61 | hc61
  · have h := bif_t hc61 h
    cases h
  · have h := bif_f hc61 h
    refine Run.opG wantS_none (ex_pickF' rfl hc61 rfl rfl) rfl ?_
    exact Run.pick [1, 53] (ref10_CheckAlert_8_ok F false c22_0 c22_1 c22_2 c22_3 c22_4 c22_5 c22_6 c22_7 c22_8 sc22_6 b22 _ _ _ hc22_6 hH h)

def ref10_CheckAlert_6 (F : Nat) (v43 : Bool) (c22_0 : (List UInt8)) (c22_1 c22_2 c22_3 c22_4 c22_5 : Int) (c22_6 : (List Int)) (c22_7 : Bool) (c22_8 : Int) : Option (Int) :=
  bif v43 then
    bif (decide ((1 : Int) < c22_1)) then
      ref10_CheckAlert_7 F v43 true c22_0 c22_1 c22_2 c22_3 c22_4 c22_5 c22_6 c22_7 c22_8
    else
      ref10_CheckAlert_7 F v43 (c22_8 == (0 : Int)) c22_0 c22_1 c22_2 c22_3 c22_4 c22_5 c22_6 c22_7 c22_8
  else
    ref10_CheckAlert_13 F v43 c22_0 c22_1 c22_2 c22_3 c22_4 c22_5 c22_6 c22_7 c22_8

theorem ref10_CheckAlert_6_ok (F : Nat) : ∀ (v43 : Bool) (c22_0 : (List UInt8)) (c22_1 c22_2 c22_3 c22_4 c22_5 : Int) (c22_6 : (List Int)) (c22_7 : Bool) (c22_8 : Int) (sc22_6 : SV) (b22 : Pos) (Fr : Rd) (M : Mem) (r : Int) (hc22_6 : Slc Fr 1 (FlatR enc3) sc22_6 c22_6) (hH : Has Fr M [.obj b22 (.row 29 .whole [(.str c22_0), (.int .i64 c22_1), (.int .i64 c22_2), (.int .i64 c22_3), (.int .i64 c22_4), (.int .i64 c22_5), sc22_6, (.bool c22_7), (.int .i64 c22_8)])]), ref10_CheckAlert_6 F v43 c22_0 c22_1 c22_2 c22_3 c22_4 c22_5 c22_6 c22_7 c22_8 = some r → Run Tryd.prog ⟨⟨47, [], none⟩, []⟩ 106 (ref10_CheckAlert_post r) [(1, (.ptr b22 0)), (43, (.bool v43))] [itemC Tryd.prog 47 [1, 1, 0] 6, codeC Tryd.prog 47 [1, 1, 1]] M := by
  intro v43 c22_0 c22_1 c22_2 c22_3 c22_4 c22_5 c22_6 c22_7 c22_8 sc22_6 b22 Fr M r hc22_6 hH h
  rw [ref10_CheckAlert_6] at h
  refine Run.opG wantS_none (ex_move rfl) rfl ?_
  rcases btf (v43) with hc48 | hc48
  · have h := bif_t hc48 h
    refine Run.opG (wantS_yes' rfl rfl hc48) (ex_fieldAddr rfl off29_1) rfl ?_
    refine Run.opG (wantS_yes' rfl rfl hc48) (ex_load1 rfl (hH.cells (i := 0) rfl 1 rfl) rdLe_rfl agg3) rfl ?_
    refine Run.opG (wantS_yes' rfl rfl hc48) (ex_gtr rfl rfl) rfl ?_
    refine Run.opG (wantS_yes' rfl rfl hc48) (ex_move rfl) rfl ?_
    rcases btf ((decide ((1 : Int) < c22_1))) with hc49 | hc49
    · have h := bif_t hc49 h
      refine Run.no (wantS_not' rfl rfl hc49) rfl ?_
      refine Run.no (wantS_not' rfl rfl hc49) rfl ?_
      refine Run.no (wantS_not' rfl rfl hc49) rfl ?_
      refine Run.opG (wantS_yes' rfl rfl hc48) (ex_pickT' rfl hc49 rfl rfl) rfl ?_
      exact Run.pick [1, 44, 52] (ref10_CheckAlert_7_ok F v43 true c22_0 c22_1 c22_2 c22_3 c22_4 c22_5 c22_6 c22_7 c22_8 sc22_6 b22 _ _ _ hc22_6 hH h)
    · have h := bif_f hc49 h
      refine Run.opG (wantS_yes' rfl rfl hc49) (ex_fieldAddr rfl off29_7) rfl ?_
      refine Run.opG (wantS_yes' rfl rfl hc49) (ex_load1 rfl (hH.cells (i := 0) rfl 8 rfl) rdLe_rfl agg3) rfl ?_
      refine Run.opG (wantS_yes' rfl rfl hc49) (ex_eql rfl rfl) rfl ?_
      refine Run.opG (wantS_yes' rfl rfl hc48) (ex_pickF' rfl hc49 rfl rfl) rfl ?_
      exact Run.pick [1, 44, 52] (ref10_CheckAlert_7_ok F v43 (c22_8 == (0 : Int)) c22_0 c22_1 c22_2 c22_3 c22_4 c22_5 c22_6 c22_7 c22_8 sc22_6 b22 _ _ _ hc22_6 hH h)
  · have h := bif_f hc48 h
    refine Run.no (wantS_not' rfl rfl hc48) rfl ?_
    refine Run.no (wantS_not' rfl rfl hc48) rfl ?_
    refine Run.no (wantS_not' rfl rfl hc48) rfl ?_
    refine Run.no (wantS_not' rfl rfl hc48) rfl ?_
    refine Run.no (wantS_skip rfl rfl) rfl ?_
    refine Run.no (wantS_skip rfl rfl) rfl ?_
    refine Run.no (wantS_skip rfl rfl) rfl ?_
    refine Run.no (wantS_not' rfl rfl hc48) rfl ?_
    exact Run.pick [1, 44, 52] (ref10_CheckAlert_13_ok F v43 c22_0 c22_1 c22_2 c22_3 c22_4 c22_5 c22_6 c22_7 c22_8 sc22_6 b22 _ _ _ hc22_6 hH h)

def ref10_CheckAlert_5 (F : Nat) (v37 : Bool) (c22_0 : (List UInt8)) (c22_1 c22_2 c22_3 c22_4 c22_5 : Int) (c22_6 : (List Int)) (c22_7 : Bool) (c22_8 : Int) : Option (Int) :=
  bif v37 then
    bnd (ref00_In F c22_8 (0 : Int) (2147483646 : Int)) fun r46 =>
    ref10_CheckAlert_6 F r46 c22_0 c22_1 c22_2 c22_3 c22_4 c22_5 c22_6 c22_7 c22_8
  else
    ref10_CheckAlert_6 F false c22_0 c22_1 c22_2 c22_3 c22_4 c22_5 c22_6 c22_7 c22_8

theorem ref10_CheckAlert_5_ok (F : Nat) : ∀ (v37 : Bool) (c22_0 : (List UInt8)) (c22_1 c22_2 c22_3 c22_4 c22_5 : Int) (c22_6 : (List Int)) (c22_7 : Bool) (c22_8 : Int) (sc22_6 : SV) (b22 : Pos) (Fr : Rd) (M : Mem) (r : Int) (hc22_6 : Slc Fr 1 (FlatR enc3) sc22_6 c22_6) (hH : Has Fr M [.obj b22 (.row 29 .whole [(.str c22_0), (.int .i64 c22_1), (.int .i64 c22_2), (.int .i64 c22_3), (.int .i64 c22_4), (.int .i64 c22_5), sc22_6, (.bool c22_7), (.int .i64 c22_8)])]), ref10_CheckAlert_5 F v37 c22_0 c22_1 c22_2 c22_3 c22_4 c22_5 c22_6 c22_7 c22_8 = some r → Run Tryd.prog ⟨⟨47, [], none⟩, []⟩ 106 (ref10_CheckAlert_post r) [(1, (.ptr b22 0)), (37, (.bool v37))] [itemC Tryd.prog 47 [1, 0] 33, codeC Tryd.prog 47 [1, 1]] M := by
  intro v37 c22_0 c22_1 c22_2 c22_3 c22_4 c22_5 c22_6 c22_7 c22_8 sc22_6 b22 Fr M r hc22_6 hH h
  rw [ref10_CheckAlert_5] at h
  refine Run.opG wantS_none (ex_assign rfl) rfl ?_
  refine Run.opsEnd (Run.seq (Run.region ?_))
  refine Run.opG wantS_none (ex_move rfl) rfl ?_
  refine Run.opG wantS_none (ex_move rfl) rfl ?_
  rcases btf (v37) with hc44 | hc44
  · have h := bif_t hc44 h
    refine Run.opG (wantS_yes' rfl rfl hc44) (ex_fieldAddr rfl off29_7) rfl ?_
    refine Run.opG (wantS_yes' rfl rfl hc44) (ex_load1 rfl (hH.cells (i := 0) rfl 8 rfl) rdLe_rfl agg3) rfl ?_
    obtain ⟨r46, hr46, h⟩ := bnd_some h
    refine Run.callP (wantS_yes' rfl rfl hc44) (ex_call rfl mkk39 cal39) rfl (ref00_In_ok F c22_8 (0 : Int) (2147483646 : Int) _ _ hr46) ?_
    refine Run.opG wantS_none (ex_pickT' rfl hc44 rfl rfl) rfl ?_
    exact Run.pick [1, 43] (ref10_CheckAlert_6_ok F r46 c22_0 c22_1 c22_2 c22_3 c22_4 c22_5 c22_6 c22_7 c22_8 sc22_6 b22 _ _ _ hc22_6 hH h)
  · have h := bif_f hc44 h
    refine Run.no (wantS_not' rfl rfl hc44) rfl ?_
    refine Run.no (wantS_not' rfl rfl hc44) rfl ?_
    refine Run.no (wantS_not' rfl rfl hc44) rfl ?_
    refine Run.opG wantS_none (ex_pickF' rfl hc44 rfl rfl) rfl ?_
    exact Run.pick [1, 43] (ref10_CheckAlert_6_ok F false c22_0 c22_1 c22_2 c22_3 c22_4 c22_5 c22_6 c22_7 c22_8 sc22_6 b22 _ _ _ hc22_6 hH h)

def ref10_CheckAlert_4 (F : Nat) (v32 : Bool) (c22_0 : (List UInt8)) (c22_1 c22_2 c22_3 c22_4 c22_5 : Int) (c22_6 : (List Int)) (c22_7 : Bool) (c22_8 : Int) : Option (Int) :=
  bif v32 then
    bnd (ref00_In F c22_5 (1 : Int) (8 : Int)) fun r42 =>
    ref10_CheckAlert_5 F r42 c22_0 c22_1 c22_2 c22_3 c22_4 c22_5 c22_6 c22_7 c22_8
  else
    ref10_CheckAlert_5 F false c22_0 c22_1 c22_2 c22_3 c22_4 c22_5 c22_6 c22_7 c22_8

theorem ref10_CheckAlert_4_ok (F : Nat) : ∀ (v32 : Bool) (c22_0 : (List UInt8)) (c22_1 c22_2 c22_3 c22_4 c22_5 : Int) (c22_6 : (List Int)) (c22_7 : Bool) (c22_8 : Int) (sc22_6 : SV) (b22 : Pos) (Fr : Rd) (M : Mem) (r : Int) (hc22_6 : Slc Fr 1 (FlatR enc3) sc22_6 c22_6) (hH : Has Fr M [.obj b22 (.row 29 .whole [(.str c22_0), (.int .i64 c22_1), (.int .i64 c22_2), (.int .i64 c22_3), (.int .i64 c22_4), (.int .i64 c22_5), sc22_6, (.bool c22_7), (.int .i64 c22_8)])]), ref10_CheckAlert_4 F v32 c22_0 c22_1 c22_2 c22_3 c22_4 c22_5 c22_6 c22_7 c22_8 = some r → Run Tryd.prog ⟨⟨47, [], none⟩, []⟩ 106 (ref10_CheckAlert_post r) [(1, (.ptr b22 0)), (32, (.bool v32))] [itemC Tryd.prog 47 [1, 0] 28, codeC Tryd.prog 47 [1, 1]] M := by
  intro v32 c22_0 c22_1 c22_2 c22_3 c22_4 c22_5 c22_6 c22_7 c22_8 sc22_6 b22 Fr M r hc22_6 hH h
  rw [ref10_CheckAlert_4] at h
  refine Run.opG wantS_none (ex_move rfl) rfl ?_
  rcases btf (v32) with hc40 | hc40
  · have h := bif_t hc40 h
    refine Run.opG (wantS_yes' rfl rfl hc40) (ex_fieldAddr rfl off29_4) rfl ?_
    refine Run.opG (wantS_yes' rfl rfl hc40) (ex_load1 rfl (hH.cells (i := 0) rfl 5 rfl) rdLe_rfl agg3) rfl ?_
    obtain ⟨r42, hr42, h⟩ := bnd_some h
    refine Run.callP (wantS_yes' rfl rfl hc40) (ex_call rfl mkk39 cal39) rfl (ref00_In_ok F c22_5 (1 : Int) (8 : Int) _ _ hr42) ?_
    refine Run.opG wantS_none (ex_pickT' rfl hc40 rfl rfl) rfl ?_
    exact Run.pick [1, 37] (ref10_CheckAlert_5_ok F r42 c22_0 c22_1 c22_2 c22_3 c22_4 c22_5 c22_6 c22_7 c22_8 sc22_6 b22 _ _ _ hc22_6 hH h)
  · have h := bif_f hc40 h
    refine Run.no (wantS_not' rfl rfl hc40) rfl ?_
    refine Run.no (wantS_not' rfl rfl hc40) rfl ?_
    refine Run.no (wantS_not' rfl rfl hc40) rfl ?_
    refine Run.opG wantS_none (ex_pickF' rfl hc40 rfl rfl) rfl ?_
    exact Run.pick [1, 37] (ref10_CheckAlert_5_ok F false c22_0 c22_1 c22_2 c22_3 c22_4 c22_5 c22_6 c22_7 c22_8 sc22_6 b22 _ _ _ hc22_6 hH h)

def ref10_CheckAlert_3 (F : Nat) (v26 : Bool) (c22_0 : (List UInt8)) (c22_1 c22_2 c22_3 c22_4 c22_5 : Int) (c22_6 : (List Int)) (c22_7 : Bool) (c22_8 : Int) : Option (Int) :=
  bif v26 then
    ref10_CheckAlert_4 F (decide (c22_4 ≤ (256 : Int))) c22_0 c22_1 c22_2 c22_3 c22_4 c22_5 c22_6 c22_7 c22_8
  else
    ref10_CheckAlert_4 F false c22_0 c22_1 c22_2 c22_3 c22_4 c22_5 c22_6 c22_7 c22_8

theorem ref10_CheckAlert_3_ok (F : Nat) : ∀ (v26 : Bool) (c22_0 : (List UInt8)) (c22_1 c22_2 c22_3 c22_4 c22_5 : Int) (c22_6 : (List Int)) (c22_7 : Bool) (c22_8 : Int) (sc22_6 : SV) (b22 : Pos) (Fr : Rd) (M : Mem) (r : Int) (hc22_6 : Slc Fr 1 (FlatR enc3) sc22_6 c22_6) (hH : Has Fr M [.obj b22 (.row 29 .whole [(.str c22_0), (.int .i64 c22_1), (.int .i64 c22_2), (.int .i64 c22_3), (.int .i64 c22_4), (.int .i64 c22_5), sc22_6, (.bool c22_7), (.int .i64 c22_8)])]), ref10_CheckAlert_3 F v26 c22_0 c22_1 c22_2 c22_3 c22_4 c22_5 c22_6 c22_7 c22_8 = some r → Run Tryd.prog ⟨⟨47, [], none⟩, []⟩ 106 (ref10_CheckAlert_post r) [(1, (.ptr b22 0)), (26, (.bool v26))] [itemC Tryd.prog 47 [1, 0] 22, codeC Tryd.prog 47 [1, 1]] M := by
  intro v26 c22_0 c22_1 c22_2 c22_3 c22_4 c22_5 c22_6 c22_7 c22_8 sc22_6 b22 Fr M r hc22_6 hH h
  rw [ref10_CheckAlert_3] at h
  refine Run.opG wantS_none (ex_move rfl) rfl ?_
  rcases btf (v26) with hc39 | hc39
  · have h := bif_t hc39 h
    refine Run.opG (wantS_yes' rfl rfl hc39) (ex_fieldAddr rfl off29_3) rfl ?_
    refine Run.opG (wantS_yes' rfl rfl hc39) (ex_fieldAddr rfl off26_1) rfl ?_
    refine Run.opG (wantS_yes' rfl rfl hc39) (ex_load1 rfl (hH.cells (i := 0) rfl 4 rfl) rdLe_rfl agg3) rfl ?_
    refine Run.opG (wantS_yes' rfl rfl hc39) (ex_leq rfl rfl) rfl ?_
    refine Run.opG wantS_none (ex_pickT' rfl hc39 rfl rfl) rfl ?_
    exact Run.pick [1, 32] (ref10_CheckAlert_4_ok F (decide (c22_4 ≤ (256 : Int))) c22_0 c22_1 c22_2 c22_3 c22_4 c22_5 c22_6 c22_7 c22_8 sc22_6 b22 _ _ _ hc22_6 hH h)
  · have h := bif_f hc39 h
    refine Run.no (wantS_not' rfl rfl hc39) rfl ?_
    refine Run.no (wantS_not' rfl rfl hc39) rfl ?_
    refine Run.no (wantS_not' rfl rfl hc39) rfl ?_
    refine Run.no (wantS_not' rfl rfl hc39) rfl ?_
    refine Run.opG wantS_none (ex_pickF' rfl hc39 rfl rfl) rfl ?_
    exact Run.pick [1, 32] (ref10_CheckAlert_4_ok F false c22_0 c22_1 c22_2 c22_3 c22_4 c22_5 c22_6 c22_7 c22_8 sc22_6 b22 _ _ _ hc22_6 hH h)

def ref10_CheckAlert_2 (F : Nat) (v17 : Bool) (c22_0 : (List UInt8)) (c22_1 c22_2 c22_3 c22_4 c22_5 : Int) (c22_6 : (List Int)) (c22_7 : Bool) (c22_8 : Int) : Option (Int) :=
  bif v17 then
    bnd (ref00_In F c22_3 (1 : Int) c22_4) fun r37 =>
    ref10_CheckAlert_3 F r37 c22_0 c22_1 c22_2 c22_3 c22_4 c22_5 c22_6 c22_7 c22_8
  else
    ref10_CheckAlert_3 F false c22_0 c22_1 c22_2 c22_3 c22_4 c22_5 c22_6 c22_7 c22_8

theorem ref10_CheckAlert_2_ok (F : Nat) : ∀ (v17 : Bool) (c22_0 : (List UInt8)) (c22_1 c22_2 c22_3 c22_4 c22_5 : Int) (c22_6 : (List Int)) (c22_7 : Bool) (c22_8 : Int) (sc22_6 : SV) (b22 : Pos) (Fr : Rd) (M : Mem) (r : Int) (hc22_6 : Slc Fr 1 (FlatR enc3) sc22_6 c22_6) (hH : Has Fr M [.obj b22 (.row 29 .whole [(.str c22_0), (.int .i64 c22_1), (.int .i64 c22_2), (.int .i64 c22_3), (.int .i64 c22_4), (.int .i64 c22_5), sc22_6, (.bool c22_7), (.int .i64 c22_8)])]), ref10_CheckAlert_2 F v17 c22_0 c22_1 c22_2 c22_3 c22_4 c22_5 c22_6 c22_7 c22_8 = some r → Run Tryd.prog ⟨⟨47, [], none⟩, []⟩ 106 (ref10_CheckAlert_post r) [(1, (.ptr b22 0)), (17, (.bool v17))] [itemC Tryd.prog 47 [1, 0] 13, codeC Tryd.prog 47 [1, 1]] M := by
  intro v17 c22_0 c22_1 c22_2 c22_3 c22_4 c22_5 c22_6 c22_7 c22_8 sc22_6 b22 Fr M r hc22_6 hH h
  rw [ref10_CheckAlert_2] at h
  refine Run.opG wantS_none (ex_move rfl) rfl ?_
  rcases btf (v17) with hc35 | hc35
  · have h := bif_t hc35 h
    refine Run.opG (wantS_yes' rfl rfl hc35) (ex_fieldAddr rfl off29_3) rfl ?_
    refine Run.opG (wantS_yes' rfl rfl hc35) (ex_fieldAddr rfl off26_0) rfl ?_
    refine Run.opG (wantS_yes' rfl rfl hc35) (ex_load1 rfl (hH.cells (i := 0) rfl 3 rfl) rdLe_rfl agg3) rfl ?_
    refine Run.opG (wantS_yes' rfl rfl hc35) (ex_fieldAddr rfl off29_3) rfl ?_
    refine Run.opG (wantS_yes' rfl rfl hc35) (ex_fieldAddr rfl off26_1) rfl ?_
    refine Run.opG (wantS_yes' rfl rfl hc35) (ex_load1 rfl (hH.cells (i := 0) rfl 4 rfl) rdLe_rfl agg3) rfl ?_
    obtain ⟨r37, hr37, h⟩ := bnd_some h
    refine Run.callP (wantS_yes' rfl rfl hc35) (ex_call rfl mkk39 cal39) rfl (ref00_In_ok F c22_3 (1 : Int) c22_4 _ _ hr37) ?_
    refine Run.opG wantS_none (ex_pickT' rfl hc35 rfl rfl) rfl ?_
    exact Run.pick [1, 26] (ref10_CheckAlert_3_ok F r37 c22_0 c22_1 c22_2 c22_3 c22_4 c22_5 c22_6 c22_7 c22_8 sc22_6 b22 _ _ _ hc22_6 hH h)
  · have h := bif_f hc35 h
    refine Run.no (wantS_not' rfl rfl hc35) rfl ?_
    refine Run.no (wantS_not' rfl rfl hc35) rfl ?_
    refine Run.no (wantS_not' rfl rfl hc35) rfl ?_
    refine Run.no (wantS_not' rfl rfl hc35) rfl ?_
    refine Run.no (wantS_not' rfl rfl hc35) rfl ?_
    refine Run.no (wantS_not' rfl rfl hc35) rfl ?_
    refine Run.no (wantS_not' rfl rfl hc35) rfl ?_
    refine Run.opG wantS_none (ex_pickF' rfl hc35 rfl rfl) rfl ?_
    exact Run.pick [1, 26] (ref10_CheckAlert_3_ok F false c22_0 c22_1 c22_2 c22_3 c22_4 c22_5 c22_6 c22_7 c22_8 sc22_6 b22 _ _ _ hc22_6 hH h)

def ref10_CheckAlert_1 (F : Nat) (v12 : Bool) (c22_0 : (List UInt8)) (c22_1 c22_2 c22_3 c22_4 c22_5 : Int) (c22_6 : (List Int)) (c22_7 : Bool) (c22_8 : Int) : Option (Int) :=
  bif v12 then
    bnd (ref00_In F c22_2 (0 : Int) (1073741824 : Int)) fun r33 =>
    ref10_CheckAlert_2 F r33 c22_0 c22_1 c22_2 c22_3 c22_4 c22_5 c22_6 c22_7 c22_8
  else
    ref10_CheckAlert_2 F false c22_0 c22_1 c22_2 c22_3 c22_4 c22_5 c22_6 c22_7 c22_8

theorem ref10_CheckAlert_1_ok (F : Nat) : ∀ (v12 : Bool) (c22_0 : (List UInt8)) (c22_1 c22_2 c22_3 c22_4 c22_5 : Int) (c22_6 : (List Int)) (c22_7 : Bool) (c22_8 : Int) (sc22_6 : SV) (b22 : Pos) (Fr : Rd) (M : Mem) (r : Int) (hc22_6 : Slc Fr 1 (FlatR enc3) sc22_6 c22_6) (hH : Has Fr M [.obj b22 (.row 29 .whole [(.str c22_0), (.int .i64 c22_1), (.int .i64 c22_2), (.int .i64 c22_3), (.int .i64 c22_4), (.int .i64 c22_5), sc22_6, (.bool c22_7), (.int .i64 c22_8)])]), ref10_CheckAlert_1 F v12 c22_0 c22_1 c22_2 c22_3 c22_4 c22_5 c22_6 c22_7 c22_8 = some r → Run Tryd.prog ⟨⟨47, [], none⟩, []⟩ 106 (ref10_CheckAlert_post r) [(1, (.ptr b22 0)), (12, (.bool v12))] [itemC Tryd.prog 47 [1, 0] 8, codeC Tryd.prog 47 [1, 1]] M := by
  intro v12 c22_0 c22_1 c22_2 c22_3 c22_4 c22_5 c22_6 c22_7 c22_8 sc22_6 b22 Fr M r hc22_6 hH h
  rw [ref10_CheckAlert_1] at h
  refine Run.opG wantS_none (ex_move rfl) rfl ?_
  rcases btf (v12) with hc31 | hc31
  · have h := bif_t hc31 h
    refine Run.opG (wantS_yes' rfl rfl hc31) (ex_fieldAddr rfl off29_2) rfl ?_
    refine Run.opG (wantS_yes' rfl rfl hc31) (ex_load1 rfl (hH.cells (i := 0) rfl 2 rfl) rdLe_rfl agg3) rfl ?_
    obtain ⟨r33, hr33, h⟩ := bnd_some h
    refine Run.callP (wantS_yes' rfl rfl hc31) (ex_call rfl mkk39 cal39) rfl (ref00_In_ok F c22_2 (0 : Int) (1073741824 : Int) _ _ hr33) ?_
    refine Run.opG wantS_none (ex_pickT' rfl hc31 rfl rfl) rfl ?_
    exact Run.pick [1, 17] (ref10_CheckAlert_2_ok F r33 c22_0 c22_1 c22_2 c22_3 c22_4 c22_5 c22_6 c22_7 c22_8 sc22_6 b22 _ _ _ hc22_6 hH h)
  · have h := bif_f hc31 h
    refine Run.no (wantS_not' rfl rfl hc31) rfl ?_
    refine Run.no (wantS_not' rfl rfl hc31) rfl ?_
    refine Run.no (wantS_not' rfl rfl hc31) rfl ?_
    refine Run.opG wantS_none (ex_pickF' rfl hc31 rfl rfl) rfl ?_
    exact Run.pick [1, 17] (ref10_CheckAlert_2_ok F false c22_0 c22_1 c22_2 c22_3 c22_4 c22_5 c22_6 c22_7 c22_8 sc22_6 b22 _ _ _ hc22_6 hH h)

def ref10_CheckAlert (F : Nat) (a0 : S_api_Alert) : Option (Int) :=
  bnd (ref01_IsName F a0.Event) fun r25 =>
  bif r25 then
    bnd (ref00_In F a0.Version (1 : Int) (1000 : Int)) fun r29 =>
    ref10_CheckAlert_1 F r29 a0.Event a0.Version a0.Time a0.Chance.N a0.Chance.Of a0.Grid a0.Cells a0.Withdrawn a0.Before
  else
    ref10_CheckAlert_1 F false a0.Event a0.Version a0.Time a0.Chance.N a0.Chance.Of a0.Grid a0.Cells a0.Withdrawn a0.Before

theorem ref10_CheckAlert_ok (F : Nat) (a0 : S_api_Alert) (s0 : SV) (r : Int) (M : Mem) (hs0 : Slc (rd M) 1 (FlatR enc3) s0 a0.Cells) (h : ref10_CheckAlert F a0 = some r) : CallsM Tryd.prog 47 [(.agg [(.str a0.Event), (.int .i64 a0.Version), (.int .i64 a0.Time), (.int .i64 a0.Chance.N), (.int .i64 a0.Chance.Of), (.int .i64 a0.Grid), s0, (.bool a0.Withdrawn), (.int .i64 a0.Before)])] M (fun s M' => s = (.int .i64 r) ∧ M' = M) := by
  refine CallsM.plain Tryd.func47 rfl rfl rfl (show Run _ _ _ (ref10_CheckAlert_post r) _ _ _ from ?_)
  rw [ref10_CheckAlert] at h
  replace hs0 := hs0.mono (rdLe_frozen M) (fun _ _ h => h)
  have hH := Has.nil (frozen M)
  refine Run.seq (Run.region ?_)
  refine Run.opX wantS_none rfl (ExG.box rfl rfl hH) ?_
  rintro _ M23 ⟨b22, rfl, hH23⟩
  refine Run.opG wantS_none (ex_assign rfl) rfl ?_
  refine Run.opsEnd (Run.seq (Run.region ?_))
  refine Run.opG wantS_none (ex_fieldAddr rfl off29_0) rfl ?_
  refine Run.opG wantS_none (ex_load1 rfl (hH23.cells (i := 0) rfl 0 rfl) rdLe_rfl agg9) rfl ?_
  obtain ⟨r25, hr25, h⟩ := bnd_some h
  refine Run.callP wantS_none (ex_call rfl mkk76 cal76) rfl (ref01_IsName_ok F a0.Event _ _ hr25) ?_
  refine Run.opG wantS_none (ex_move rfl) rfl ?_
  rcases btf (r25) with hc27 | hc27
  · have h := bif_t hc27 h
    refine Run.opG (wantS_yes' rfl rfl hc27) (ex_fieldAddr rfl off29_1) rfl ?_
    refine Run.opG (wantS_yes' rfl rfl hc27) (ex_load1 rfl (hH23.cells (i := 0) rfl 1 rfl) rdLe_rfl agg3) rfl ?_
    obtain ⟨r29, hr29, h⟩ := bnd_some h
    refine Run.callP (wantS_yes' rfl rfl hc27) (ex_call rfl mkk39 cal39) rfl (ref00_In_ok F a0.Version (1 : Int) (1000 : Int) _ _ hr29) ?_
    refine Run.opG wantS_none (ex_pickT' rfl hc27 rfl rfl) rfl ?_
    exact Run.pick [1, 12] (ref10_CheckAlert_1_ok F r29 a0.Event a0.Version a0.Time a0.Chance.N a0.Chance.Of a0.Grid a0.Cells a0.Withdrawn a0.Before s0 b22 _ _ _ hs0 hH23 h)
  · have h := bif_f hc27 h
    refine Run.no (wantS_not' rfl rfl hc27) rfl ?_
    refine Run.no (wantS_not' rfl rfl hc27) rfl ?_
    refine Run.no (wantS_not' rfl rfl hc27) rfl ?_
    refine Run.opG wantS_none (ex_pickF' rfl hc27 rfl rfl) rfl ?_
    exact Run.pick [1, 12] (ref10_CheckAlert_1_ok F false a0.Event a0.Version a0.Time a0.Chance.N a0.Chance.Of a0.Grid a0.Cells a0.Withdrawn a0.Before s0 b22 _ _ _ hs0 hH23 h)

theorem mkk47 : makeK Tryd.prog 47 = none := by kernel_rfl
theorem cal47 : callable Tryd.prog 47 = true := by kernel_rfl
abbrev ref10_power_post (r : Int) : SV → Mem → Prop := fun s _ => s = (.int .i64 r)

def ref10_power_2 (F : Nat) (hd1 : Int → Int → Int → Int → Option (Int)) (v0 v1 v2 v7 : Int) : Option (Int) :=
  bnd (nz v2) fun z30 =>
  hd1 (Int.tmod (w64 (v0 * v0)) v2) (w64 (Int.tdiv v1 (2 : Int))) v2 v7

theorem ref10_power_2_ok (F : Nat) (hd1 : Int → Int → Int → Int → Option (Int)) (hhd1 : ∀ (v0 v1 v2 v7 : Int) (Fr : Rd) (M : Mem) (r : Int) (hH : Has Fr M []), hd1 v0 v1 v2 v7 = some r → Run Tryd.prog ⟨⟨48, [], none⟩, []⟩ 31 (ref10_power_post r) [(0, (.int .i64 v0)), (1, (.int .i64 v1)), (2, (.int .i64 v2)), (7, (.int .i64 v7))] [codeC Tryd.prog 48 [1, 1, 1, 0, 0, 0], loopC Tryd.prog 48 [1, 1, 1, 0, 0, 0], .inBlock 0, codeC Tryd.prog 48 [1, 1, 1, 1]] M) : ∀ (v0 v1 v2 v7 : Int) (Fr : Rd) (M : Mem) (r : Int) (hH : Has Fr M []), ref10_power_2 F hd1 v0 v1 v2 v7 = some r → Run Tryd.prog ⟨⟨48, [], none⟩, []⟩ 31 (ref10_power_post r) [(0, (.int .i64 v0)), (1, (.int .i64 v1)), (2, (.int .i64 v2)), (7, (.int .i64 v7))] [itemC Tryd.prog 48 [1, 1, 1, 0, 0, 0, 1, 0, 1, 0] 0, codeC Tryd.prog 48 [1, 1, 1, 0, 0, 0, 1, 0, 1, 1], .inBlock 1, loopC Tryd.prog 48 [1, 1, 1, 0, 0, 0], .inBlock 0, codeC Tryd.prog 48 [1, 1, 1, 1]] M := by
  intro v0 v1 v2 v7 Fr M r hH h
  rw [ref10_power_2] at h
  refine Run.opG wantS_none (ex_move rfl) rfl ?_
  refine Run.opG wantS_none (ex_move rfl) rfl ?_
  refine Run.opG wantS_none (ex_mul rfl rfl) rfl ?_
  refine Run.opG wantS_none (ex_move rfl) rfl ?_
  obtain ⟨z30, hz30, h⟩ := bnd_some h
  refine Run.opG wantS_none (ex_rem' rfl rfl hz30) rfl ?_
  refine Run.opG wantS_none (ex_assign rfl) rfl ?_
  refine Run.opsEnd (Run.region ?_)
  refine Run.opG wantS_none (ex_move rfl) rfl ?_
  refine Run.opG wantS_none (ex_quo rfl rfl (by decide)) rfl ?_
  refine Run.opG wantS_none (ex_assign rfl) rfl ?_
  refine Run.opsEnd (Run.inBlock (Run.inLoop ?_))
  exact Run.pick [0, 1, 2, 7] (hhd1 (Int.tmod (w64 (v0 * v0)) v2) (w64 (Int.tdiv v1 (2 : Int))) v2 v7 _ _ _ hH h)

def ref10_power_1 (F : Nat) : Nat → Int → Int → Int → Int → Option (Int)
  | 0, _, _, _, _ => none
  | N + 1, v0, v1, v2, v7 =>
    bif (decide ((0 : Int) < v1)) then
      bif ((Int.tmod v1 (2 : Int)) == (1 : Int)) then
        bnd (nz v2) fun z28 =>
        ref10_power_2 F (ref10_power_1 F N) v0 v1 v2 (Int.tmod (w64 (v7 * v0)) v2)
      else
        ref10_power_2 F (ref10_power_1 F N) v0 v1 v2 v7
    else
      some v7

theorem ref10_power_1_ok (F : Nat) : ∀ (N : Nat), ∀ (v0 v1 v2 v7 : Int) (Fr : Rd) (M : Mem) (r : Int) (hH : Has Fr M []), ref10_power_1 F N v0 v1 v2 v7 = some r → Run Tryd.prog ⟨⟨48, [], none⟩, []⟩ 31 (ref10_power_post r) [(0, (.int .i64 v0)), (1, (.int .i64 v1)), (2, (.int .i64 v2)), (7, (.int .i64 v7))] [codeC Tryd.prog 48 [1, 1, 1, 0, 0, 0], loopC Tryd.prog 48 [1, 1, 1, 0, 0, 0], .inBlock 0, codeC Tryd.prog 48 [1, 1, 1, 1]] M := by
  intro N
  induction N with
  | zero =>
    intro v0 v1 v2 v7 Fr M r hH h
    simp [ref10_power_1] at h
  | succ N ih =>
    intro v0 v1 v2 v7 Fr M r hH h
    rw [ref10_power_1] at h
    refine Run.seq (Run.seq (Run.region ?_))
    refine Run.opG wantS_none (ex_move rfl) rfl ?_
    refine Run.opG wantS_none (ex_gtr rfl rfl) rfl ?_
    refine Run.opsEnd ?_
    rcases btf ((decide ((0 : Int) < v1))) with hc25 | hc25
    · have h := bif_t hc25 h
      refine Run.condT' rfl hc25 ?_
      refine Run.skip (Run.block (Run.seq (Run.seq (Run.region ?_))))
      refine Run.opG wantS_none (ex_move rfl) rfl ?_
      refine Run.opG wantS_none (ex_rem rfl rfl (by decide)) rfl ?_
      refine Run.opG wantS_none (ex_eql rfl rfl) rfl ?_
      refine Run.opsEnd ?_
      rcases btf (((Int.tmod v1 (2 : Int)) == (1 : Int))) with hc26 | hc26
      · have h := bif_t hc26 h
        refine Run.condT' rfl hc26 ?_
        refine Run.region ?_
        refine Run.opG wantS_none (ex_move rfl) rfl ?_
        refine Run.opG wantS_none (ex_move rfl) rfl ?_
        refine Run.opG wantS_none (ex_mul rfl rfl) rfl ?_
        refine Run.opG wantS_none (ex_move rfl) rfl ?_
        obtain ⟨z28, hz28, h⟩ := bnd_some h
        refine Run.opG wantS_none (ex_rem' rfl rfl hz28) rfl ?_
        refine Run.opG wantS_none (ex_assign rfl) rfl ?_
        refine Run.opsEnd (Run.seq (Run.region ?_))
        exact Run.pick [0, 1, 2, 7] (ref10_power_2_ok F (ref10_power_1 F N) ih v0 v1 v2 (Int.tmod (w64 (v7 * v0)) v2) _ _ _ hH h)
      · have h := bif_f hc26 h
        refine Run.condF' rfl hc26 ?_
        refine Run.skip (Run.seq (Run.region ?_))
        exact Run.pick [0, 1, 2, 7] (ref10_power_2_ok F (ref10_power_1 F N) ih v0 v1 v2 v7 _ _ _ hH h)
    · have h := bif_f hc25 h
      refine Run.condF' rfl hc25 ?_
      refine Run.exit rfl (Run.seq (Run.region ?_))
      refine Run.opG wantS_none (ex_move rfl) rfl ?_
      refine Run.opG wantS_none (ex_assign rfl) rfl ?_
      refine Run.opsEnd ?_
      cases h
      exact Run.ret Tryd.func48 rfl (res_tmp rfl res_nil) rfl

def ref10_power (F : Nat) (a0 a1 a2 : Int) : Option (Int) :=
  bnd (nz a2) fun z22 =>
  bnd (nz a2) fun z24 =>
  ref10_power_1 F F (Int.tmod a0 a2) a1 a2 (Int.tmod (1 : Int) a2)

theorem ref10_power_ok (F : Nat) (a0 a1 a2 r : Int) (M : Mem) (h : ref10_power F a0 a1 a2 = some r) : CallsM Tryd.prog 48 [(.int .i64 a0), (.int .i64 a1), (.int .i64 a2)] M (fun s M' => s = (.int .i64 r) ∧ M' = M) := by
  refine CallsM.plain Tryd.func48 rfl rfl rfl (show Run _ _ _ (ref10_power_post r) _ _ _ from ?_)
  rw [ref10_power] at h
  have hH := Has.nil (frozen M)
  refine Run.seq (Run.region ?_)
  refine Run.opG wantS_none (ex_assign rfl) rfl ?_
  refine Run.opsEnd (Run.seq (Run.region ?_))
  refine Run.opG wantS_none (ex_move rfl) rfl ?_
  obtain ⟨z22, hz22, h⟩ := bnd_some h
  refine Run.opG wantS_none (ex_rem' rfl rfl hz22) rfl ?_
  refine Run.opG wantS_none (ex_assign rfl) rfl ?_
  refine Run.opsEnd (Run.seq (Run.region ?_))
  refine Run.opG wantS_none (ex_move rfl) rfl ?_
  refine Run.opG wantS_none (ex_move rfl) rfl ?_
  obtain ⟨z24, hz24, h⟩ := bnd_some h
  refine Run.opG wantS_none (ex_rem' rfl rfl hz24) rfl ?_
  refine Run.opG wantS_none (ex_assign rfl) rfl ?_
  refine Run.opsEnd (Run.seq (Run.block (Run.loop ?_)))
  exact Run.pick [0, 1, 2, 7] (ref10_power_1_ok F F (Int.tmod a0 a2) a1 a2 (Int.tmod (1 : Int) a2) _ _ _ hH h)

theorem mkk48 : makeK Tryd.prog 48 = none := by kernel_rfl
theorem cal48 : callable Tryd.prog 48 = true := by kernel_rfl
theorem uvk3_21 : uvK Tryd.prog 3 21 = none := by kernel_rfl
theorem cvk3_21 : cvK Tryd.prog 3 21 = some (.int .i32) := by kernel_rfl
theorem uvk21_9 : uvK Tryd.prog 21 9 = none := by kernel_rfl
theorem cvk21_9 : cvK Tryd.prog 21 9 = some .rune := by kernel_rfl
abbrev ref00_Decimal_post (r : (List UInt8)) : SV → Mem → Prop := fun s _ => s = (.str r)

def ref00_Decimal_2 (F : Nat) (hd1 : Int → (List UInt8) → Bool → Option ((List UInt8))) (v0 : Int) (v3 : (List UInt8)) (v4 : Bool) (v5 : Int) : Option ((List UInt8)) :=
  bnd (runeS (IntKind.wrap .i32 (w64 ((48 : Int) + v5)))) fun z25 =>
  bnd (sCat z25 v3) fun z27 =>
  hd1 (w64 (Int.tdiv v0 (10 : Int))) z27 v4

theorem ref00_Decimal_2_ok (F : Nat) (hd1 : Int → (List UInt8) → Bool → Option ((List UInt8))) (hhd1 : ∀ (v0 : Int) (v3 : (List UInt8)) (v4 : Bool) (Fr : Rd) (M : Mem) (r : (List UInt8)) (hH : Has Fr M []), hd1 v0 v3 v4 = some r → Run Tryd.prog ⟨⟨96, [], none⟩, []⟩ 30 (ref00_Decimal_post r) [(0, (.int .i64 v0)), (3, (.str v3)), (4, (.bool v4))] [codeC Tryd.prog 96 [1, 1, 1, 1, 0, 0, 0], loopC Tryd.prog 96 [1, 1, 1, 1, 0, 0, 0], .inBlock 0, codeC Tryd.prog 96 [1, 1, 1, 1, 1]] M) : ∀ (v0 : Int) (v3 : (List UInt8)) (v4 : Bool) (v5 : Int) (Fr : Rd) (M : Mem) (r : (List UInt8)) (hH : Has Fr M []), ref00_Decimal_2 F hd1 v0 v3 v4 v5 = some r → Run Tryd.prog ⟨⟨96, [], none⟩, []⟩ 30 (ref00_Decimal_post r) [(0, (.int .i64 v0)), (3, (.str v3)), (4, (.bool v4)), (5, (.int .i64 v5))] [itemC Tryd.prog 96 [1, 1, 1, 1, 0, 0, 0, 1, 0, 1, 1, 0] 0, codeC Tryd.prog 96 [1, 1, 1, 1, 0, 0, 0, 1, 0, 1, 1, 1], .inBlock 1, loopC Tryd.prog 96 [1, 1, 1, 1, 0, 0, 0], .inBlock 0, codeC Tryd.prog 96 [1, 1, 1, 1, 1]] M := by
  intro v0 v3 v4 v5 Fr M r hH h
  rw [ref00_Decimal_2] at h
  refine Run.opG wantS_none (ex_move rfl) rfl ?_
  refine Run.opG wantS_none (ex_add rfl rfl) rfl ?_
  refine Run.opG wantS_none (ex_conv rfl uvk3_21 cvk3_21) rfl ?_
  obtain ⟨z25, hz25, h⟩ := bnd_some h
  refine Run.opG wantS_none (ex_rune rfl uvk21_9 cvk21_9 hz25) rfl ?_
  refine Run.opG wantS_none (ex_move rfl) rfl ?_
  obtain ⟨z27, hz27, h⟩ := bnd_some h
  refine Run.opG wantS_none (ex_cat rfl rfl hz27) rfl ?_
  refine Run.opG wantS_none (ex_assign rfl) rfl ?_
  refine Run.opsEnd (Run.region ?_)
  refine Run.opG wantS_none (ex_move rfl) rfl ?_
  refine Run.opG wantS_none (ex_quo rfl rfl (by decide)) rfl ?_
  refine Run.opG wantS_none (ex_assign rfl) rfl ?_
  refine Run.opsEnd (Run.inBlock (Run.inLoop ?_))
  exact Run.pick [0, 3, 4] (hhd1 (w64 (Int.tdiv v0 (10 : Int))) z27 v4 _ _ _ hH h)

def ref00_Decimal_3 (F : Nat) (v3 : (List UInt8)) : Option ((List UInt8)) :=
  some v3

theorem ref00_Decimal_3_ok (F : Nat) : ∀ (v3 : (List UInt8)) (Fr : Rd) (M : Mem) (r : (List UInt8)) (hH : Has Fr M []), ref00_Decimal_3 F v3 = some r → Run Tryd.prog ⟨⟨96, [], none⟩, []⟩ 30 (ref00_Decimal_post r) [(3, (.str v3))] [itemC Tryd.prog 96 [1, 1, 1, 1, 1, 1, 0] 0, codeC Tryd.prog 96 [1, 1, 1, 1, 1, 1, 1]] M := by
  intro v3 Fr M r hH h
  rw [ref00_Decimal_3] at h
  refine Run.opG wantS_none (ex_move rfl) rfl ?_
  refine Run.opG wantS_none (ex_assign rfl) rfl ?_
  refine Run.opsEnd ?_
  cases h
  exact Run.ret Tryd.func96 rfl (res_tmp rfl res_nil) rfl

def ref00_Decimal_1 (F : Nat) : Nat → Int → (List UInt8) → Bool → Option ((List UInt8))
  | 0, _, _, _ => none
  | N + 1, v0, v3, v4 =>
    bif (!(v0 == (0 : Int))) then
      bif (decide ((Int.tmod v0 (10 : Int)) < (0 : Int))) then
        ref00_Decimal_2 F (ref00_Decimal_1 F N) v0 v3 v4 (w64 (-(Int.tmod v0 (10 : Int))))
      else
        ref00_Decimal_2 F (ref00_Decimal_1 F N) v0 v3 v4 (Int.tmod v0 (10 : Int))
    else
      bif v4 then
        bnd (sCat [45] v3) fun z30 =>
        ref00_Decimal_3 F z30
      else
        ref00_Decimal_3 F v3

theorem ref00_Decimal_1_ok (F : Nat) : ∀ (N : Nat), ∀ (v0 : Int) (v3 : (List UInt8)) (v4 : Bool) (Fr : Rd) (M : Mem) (r : (List UInt8)) (hH : Has Fr M []), ref00_Decimal_1 F N v0 v3 v4 = some r → Run Tryd.prog ⟨⟨96, [], none⟩, []⟩ 30 (ref00_Decimal_post r) [(0, (.int .i64 v0)), (3, (.str v3)), (4, (.bool v4))] [codeC Tryd.prog 96 [1, 1, 1, 1, 0, 0, 0], loopC Tryd.prog 96 [1, 1, 1, 1, 0, 0, 0], .inBlock 0, codeC Tryd.prog 96 [1, 1, 1, 1, 1]] M := by
  intro N
  induction N with
  | zero =>
    intro v0 v3 v4 Fr M r hH h
    simp [ref00_Decimal_1] at h
  | succ N ih =>
    intro v0 v3 v4 Fr M r hH h
    rw [ref00_Decimal_1] at h
    refine Run.seq (Run.seq (Run.region ?_))
    refine Run.opG wantS_none (ex_move rfl) rfl ?_
    refine Run.opG wantS_none (ex_neq rfl rfl) rfl ?_
    refine Run.opsEnd ?_
    rcases btf ((!(v0 == (0 : Int)))) with hc22 | hc22
    · have h := bif_t hc22 h
      refine Run.condT' rfl hc22 ?_
      refine Run.skip (Run.block (Run.seq (Run.region ?_)))
      refine Run.opG wantS_none (ex_move rfl) rfl ?_
      refine Run.opG wantS_none (ex_rem rfl rfl (by decide)) rfl ?_
      refine Run.opG wantS_none (ex_assign rfl) rfl ?_
      refine Run.opsEnd (Run.seq (Run.seq (Run.region ?_)))
      refine Run.opG wantS_none (ex_move rfl) rfl ?_
      refine Run.opG wantS_none (ex_lss rfl rfl) rfl ?_
      refine Run.opsEnd ?_
      rcases btf ((decide ((Int.tmod v0 (10 : Int)) < (0 : Int)))) with hc23 | hc23
      · have h := bif_t hc23 h
        refine Run.condT' rfl hc23 ?_
        refine Run.region ?_
        refine Run.opG wantS_none (ex_move rfl) rfl ?_
        refine Run.opG wantS_none (ex_neg rfl) rfl ?_
        refine Run.opG wantS_none (ex_assign rfl) rfl ?_
        refine Run.opsEnd (Run.seq (Run.region ?_))
        exact Run.pick [0, 3, 4, 5] (ref00_Decimal_2_ok F (ref00_Decimal_1 F N) ih v0 v3 v4 (w64 (-(Int.tmod v0 (10 : Int)))) _ _ _ hH h)
      · have h := bif_f hc23 h
        refine Run.condF' rfl hc23 ?_
        refine Run.skip (Run.seq (Run.region ?_))
        exact Run.pick [0, 3, 4, 5] (ref00_Decimal_2_ok F (ref00_Decimal_1 F N) ih v0 v3 v4 (Int.tmod v0 (10 : Int)) _ _ _ hH h)
    · have h := bif_f hc22 h
      refine Run.condF' rfl hc22 ?_
      refine Run.exit rfl (Run.seq (Run.seq (Run.region ?_)))
      refine Run.opG wantS_none (ex_move rfl) rfl ?_
      refine Run.opsEnd ?_
      rcases btf (v4) with hc28 | hc28
      · have h := bif_t hc28 h
        refine Run.condT' rfl hc28 ?_
        refine Run.region ?_
        refine Run.opG wantS_none (ex_move rfl) rfl ?_
        obtain ⟨z30, hz30, h⟩ := bnd_some h
        refine Run.opG wantS_none (ex_cat rfl rfl hz30) rfl ?_
        refine Run.opG wantS_none (ex_assign rfl) rfl ?_
        refine Run.opsEnd (Run.seq (Run.region ?_))
        exact Run.pick [3] (ref00_Decimal_3_ok F z30 _ _ _ hH h)
      · have h := bif_f hc28 h
        refine Run.condF' rfl hc28 ?_
        refine Run.skip (Run.seq (Run.region ?_))
        exact Run.pick [3] (ref00_Decimal_3_ok F v3 _ _ _ hH h)

def ref00_Decimal (F : Nat) (a0 : Int) : Option ((List UInt8)) :=
  bif (a0 == (0 : Int)) then
    some [48]
  else
    ref00_Decimal_1 F F a0 [] (decide (a0 < (0 : Int)))

theorem ref00_Decimal_ok (F : Nat) (a0 : Int) (r : (List UInt8)) (M : Mem) (h : ref00_Decimal F a0 = some r) : CallsM Tryd.prog 96 [(.int .i64 a0)] M (fun s M' => s = (.str r) ∧ M' = M) := by
  refine CallsM.plain Tryd.func96 rfl rfl rfl (show Run _ _ _ (ref00_Decimal_post r) _ _ _ from ?_)
  rw [ref00_Decimal] at h
  have hH := Has.nil (frozen M)
  refine Run.seq (Run.region ?_)
  refine Run.opG wantS_none (ex_assign rfl) rfl ?_
  refine Run.opsEnd (Run.seq (Run.seq (Run.region ?_)))
  refine Run.opG wantS_none (ex_move rfl) rfl ?_
  refine Run.opG wantS_none (ex_eql rfl rfl) rfl ?_
  refine Run.opsEnd ?_
  rcases btf ((a0 == (0 : Int))) with hc21 | hc21
  · have h := bif_t hc21 h
    refine Run.condT' rfl hc21 ?_
    refine Run.seq (Run.region ?_)
    refine Run.opG wantS_none (ex_assign rfl) rfl ?_
    refine Run.opsEnd ?_
    cases h
    exact Run.ret Tryd.func96 rfl (res_tmp rfl res_nil) rfl
  · have h := bif_f hc21 h
    refine Run.condF' rfl hc21 ?_
    refine Run.skip (Run.seq (Run.region ?_))
    refine Run.opG wantS_none (ex_assign rfl) rfl ?_
    refine Run.opsEnd (Run.seq (Run.region ?_))
    refine Run.opG wantS_none (ex_move rfl) rfl ?_
    refine Run.opG wantS_none (ex_lss rfl rfl) rfl ?_
    refine Run.opG wantS_none (ex_assign rfl) rfl ?_
    refine Run.opsEnd (Run.seq (Run.block (Run.loop ?_)))
    exact Run.pick [0, 3, 4] (ref00_Decimal_1_ok F F a0 [] (decide (a0 < (0 : Int))) _ _ _ hH h)

theorem mkk96 : makeK Tryd.prog 96 = none := by kernel_rfl
theorem cal96 : callable Tryd.prog 96 = true := by kernel_rfl
theorem plan77_1_0 : planOf Tryd.prog (opsC (atC Tryd.prog 77 [1, 0])) = some [.fl 0, .fl 1, .fl 2, .fl 3, .fl 4, .fl 5, .fl 9, .fl 10, .fl 14, .fl 15, .fl 16, .fl 20, .fl 21, .fl 22, .fl 26, .fl 27, .an 6 [27, 26, 22, 21, 20, 16, 15, 14, 10, 9, 3, 2, 1, 0], .fl 7, .fl 8, .an 11 [8, 7, 27, 26, 22, 21, 20, 16, 15, 14, 3, 2, 1, 0], .fl 12, .fl 13, .an 17 [13, 12, 8, 7, 27, 26, 22, 21, 20, 3, 2, 1, 0], .fl 18, .fl 19, .an 23 [19, 18, 13, 12, 8, 7, 27, 26, 3, 2, 1, 0], .fl 24, .fl 25, .an 28 [25, 24, 19, 18, 13, 12, 8, 7, 3, 2, 1, 0], .fl 29, .fl 30, .fl 31, .sync] := by kernel_rfl
abbrev ref10_text_post (r : (List UInt8)) : SV → Mem → Prop := fun s _ => s = (.str r)

def ref10_text_2 (F : Nat) : Nat → (List UInt8) → Int → (List UInt8) → Int → Int → Int → Int → Int → (List Int) → Bool → Int → Option ((List UInt8))
  | 0, _, _, _, _, _, _, _, _, _, _, _ => none
  | N + 1, v3, v4, c22_0, c22_1, c22_2, c22_3, c22_4, c22_5, c22_6, c22_7, c22_8 =>
    bif (decide (v4 < (c22_6.length : Int))) then
      bnd (sCat v3 [32]) fun z51 =>
      bnd (idx c22_6 v4) fun x53 =>
      bnd (ref00_Decimal F x53) fun r55 =>
      bnd (sCat z51 r55) fun z58 =>
      (ref10_text_2 F N) z58 (w64 (v4 + (1 : Int))) c22_0 c22_1 c22_2 c22_3 c22_4 c22_5 c22_6 c22_7 c22_8
    else
      bnd (sCat v3 [10, 98, 101, 102, 111, 114, 101, 32]) fun z60 =>
      bnd (ref00_Decimal F c22_8) fun r62 =>
      bnd (sCat z60 r62) fun z65 =>
      bnd (sCat z65 [10, 101, 110, 100, 10]) fun z67 =>
      some z67

theorem ref10_text_2_ok (F : Nat) : ∀ (N : Nat), ∀ (v3 : (List UInt8)) (v4 : Int) (c22_0 : (List UInt8)) (c22_1 c22_2 c22_3 c22_4 c22_5 : Int) (c22_6 : (List Int)) (c22_7 : Bool) (c22_8 : Int) (sc22_6 : SV) (b22 : Pos) (Fr : Rd) (M : Mem) (r : (List UInt8)) (hc22_6 : Slc Fr 1 (FlatR enc3) sc22_6 c22_6) (hH : Has Fr M [.obj b22 (.row 29 .whole [(.str c22_0), (.int .i64 c22_1), (.int .i64 c22_2), (.int .i64 c22_3), (.int .i64 c22_4), (.int .i64 c22_5), sc22_6, (.bool c22_7), (.int .i64 c22_8)])]), ref10_text_2 F N v3 v4 c22_0 c22_1 c22_2 c22_3 c22_4 c22_5 c22_6 c22_7 c22_8 = some r → Run Tryd.prog ⟨⟨77, [], none⟩, []⟩ 65 (ref10_text_post r) [(1, (.ptr b22 0)), (3, (.str v3)), (4, (.int .i64 v4))] [codeC Tryd.prog 77 [1, 1, 1, 0, 1, 0, 0], loopC Tryd.prog 77 [1, 1, 1, 0, 1, 0, 0], .inBlock 0, codeC Tryd.prog 77 [1, 1, 1, 1]] M := by
  intro N
  induction N with
  | zero =>
    intro v3 v4 c22_0 c22_1 c22_2 c22_3 c22_4 c22_5 c22_6 c22_7 c22_8 sc22_6 b22 Fr M r hc22_6 hH h
    simp [ref10_text_2] at h
  | succ N ih =>
    intro v3 v4 c22_0 c22_1 c22_2 c22_3 c22_4 c22_5 c22_6 c22_7 c22_8 sc22_6 b22 Fr M r hc22_6 hH h
    rw [ref10_text_2] at h
    refine Run.seq (Run.seq (Run.region ?_))
    refine Run.opG wantS_none (ex_move rfl) rfl ?_
    refine Run.opG wantS_none (ex_fieldAddr rfl off29_5) rfl ?_
    refine Run.opG wantS_none (ex_load1 rfl (hH.cells (i := 0) rfl 6 rfl) rdLe_rfl agg27) rfl ?_
    refine Run.opG wantS_none (ex_len' rfl hc22_6 lenk27) rfl ?_
    refine Run.opG wantS_none (ex_lss rfl rfl) rfl ?_
    refine Run.opsEnd ?_
    rcases btf ((decide (v4 < (c22_6.length : Int)))) with hc49 | hc49
    · have h := bif_t hc49 h
      refine Run.condT' rfl hc49 ?_
      refine Run.skip (Run.seq (Run.block (Run.region ?_)))
      refine Run.opG wantS_none (ex_move rfl) rfl ?_
      obtain ⟨z51, hz51, h⟩ := bnd_some h
      refine Run.opG wantS_none (ex_cat rfl rfl hz51) rfl ?_
      refine Run.opG wantS_none (ex_fieldAddr rfl off29_5) rfl ?_
      refine Run.opG wantS_none (ex_load1 rfl (hH.cells (i := 0) rfl 6 rfl) rdLe_rfl agg27) rfl ?_
      refine Run.opG wantS_none (ex_move rfl) rfl ?_
      obtain ⟨x53, hx53, h⟩ := bnd_some h
      obtain ⟨p53, o53, _, hx53, hp53, rfl⟩ := sl_elem (P := Tryd.prog) (t := 27) (kk := .i64) hc22_6 hx53 els27
      refine Run.opG wantS_none (ex_elX rfl rfl hx53) rfl ?_
      refine Run.opG wantS_none (ex_load1 rfl (hH.ptrF hp53) rdLe_rfl agg3) rfl ?_
      obtain ⟨r55, hr55, h⟩ := bnd_some h
      refine Run.callP wantS_none (ex_call rfl mkk96 cal96) rfl (ref00_Decimal_ok F x53 _ _ hr55) ?_
      obtain ⟨z58, hz58, h⟩ := bnd_some h
      refine Run.opG wantS_none (ex_cat rfl rfl hz58) rfl ?_
      refine Run.opG wantS_none (ex_assign rfl) rfl ?_
      refine Run.opsEnd (Run.inBlock (Run.region ?_))
      refine Run.opG wantS_none (ex_move rfl) rfl ?_
      refine Run.opG wantS_none (ex_add rfl rfl) rfl ?_
      refine Run.opG wantS_none (ex_assign rfl) rfl ?_
      refine Run.opsEnd (Run.inLoop ?_)
      exact Run.pick [1, 3, 4] (ih z58 (w64 (v4 + (1 : Int))) c22_0 c22_1 c22_2 c22_3 c22_4 c22_5 c22_6 c22_7 c22_8 sc22_6 b22 _ _ _ hc22_6 hH h)
    · have h := bif_f hc49 h
      refine Run.condF' rfl hc49 ?_
      refine Run.exit rfl (Run.seq (Run.region ?_))
      refine Run.opG wantS_none (ex_move rfl) rfl ?_
      obtain ⟨z60, hz60, h⟩ := bnd_some h
      refine Run.opG wantS_none (ex_cat rfl rfl hz60) rfl ?_
      refine Run.opG wantS_none (ex_fieldAddr rfl off29_7) rfl ?_
      refine Run.opG wantS_none (ex_load1 rfl (hH.cells (i := 0) rfl 8 rfl) rdLe_rfl agg3) rfl ?_
      obtain ⟨r62, hr62, h⟩ := bnd_some h
      refine Run.callP wantS_none (ex_call rfl mkk96 cal96) rfl (ref00_Decimal_ok F c22_8 _ _ hr62) ?_
      obtain ⟨z65, hz65, h⟩ := bnd_some h
      refine Run.opG wantS_none (ex_cat rfl rfl hz65) rfl ?_
      obtain ⟨z67, hz67, h⟩ := bnd_some h
      refine Run.opG wantS_none (ex_cat rfl rfl hz67) rfl ?_
      refine Run.opG wantS_none (ex_assign rfl) rfl ?_
      refine Run.opsEnd ?_
      cases h
      exact Run.ret Tryd.func77 rfl (res_tmp rfl res_nil) rfl

def ref10_text_1 (F : Nat) (v3 c22_0 : (List UInt8)) (c22_1 c22_2 c22_3 c22_4 c22_5 : Int) (c22_6 : (List Int)) (c22_7 : Bool) (c22_8 : Int) : Option ((List UInt8)) :=
  ref10_text_2 F F v3 (0 : Int) c22_0 c22_1 c22_2 c22_3 c22_4 c22_5 c22_6 c22_7 c22_8

theorem ref10_text_1_ok (F : Nat) : ∀ (v3 c22_0 : (List UInt8)) (c22_1 c22_2 c22_3 c22_4 c22_5 : Int) (c22_6 : (List Int)) (c22_7 : Bool) (c22_8 : Int) (sc22_6 : SV) (b22 : Pos) (Fr : Rd) (M : Mem) (r : (List UInt8)) (hc22_6 : Slc Fr 1 (FlatR enc3) sc22_6 c22_6) (hH : Has Fr M [.obj b22 (.row 29 .whole [(.str c22_0), (.int .i64 c22_1), (.int .i64 c22_2), (.int .i64 c22_3), (.int .i64 c22_4), (.int .i64 c22_5), sc22_6, (.bool c22_7), (.int .i64 c22_8)])]), ref10_text_1 F v3 c22_0 c22_1 c22_2 c22_3 c22_4 c22_5 c22_6 c22_7 c22_8 = some r → Run Tryd.prog ⟨⟨77, [], none⟩, []⟩ 65 (ref10_text_post r) [(1, (.ptr b22 0)), (3, (.str v3))] [itemC Tryd.prog 77 [1, 1, 1, 0, 0] 0, codeC Tryd.prog 77 [1, 1, 1, 0, 1], codeC Tryd.prog 77 [1, 1, 1, 1]] M := by
  intro v3 c22_0 c22_1 c22_2 c22_3 c22_4 c22_5 c22_6 c22_7 c22_8 sc22_6 b22 Fr M r hc22_6 hH h
  rw [ref10_text_1] at h
  refine Run.opG wantS_none (ex_assign rfl) rfl ?_
  refine Run.opsEnd (Run.block (Run.loop ?_))
  exact Run.pick [1, 3, 4] (ref10_text_2_ok F F v3 (0 : Int) c22_0 c22_1 c22_2 c22_3 c22_4 c22_5 c22_6 c22_7 c22_8 sc22_6 b22 _ _ _ hc22_6 hH h)

def ref10_text (F : Nat) (a0 : S_api_Alert) : Option ((List UInt8)) :=
  bnd (sCat [97, 108, 101, 114, 116, 32] a0.Event) fun z24 =>
  bnd (sCat z24 [32]) fun z25 =>
  bnd (ref00_Decimal F a0.Version) fun r26 =>
  bnd (sCat z25 r26) fun z28 =>
  bnd (sCat z28 [10, 116, 105, 109, 101, 32]) fun z29 =>
  bnd (ref00_Decimal F a0.Time) fun r30 =>
  bnd (sCat z29 r30) fun z32 =>
  bnd (sCat z32 [10, 99, 104, 97, 110, 99, 101, 32]) fun z33 =>
  bnd (ref00_Decimal F a0.Chance.N) fun r34 =>
  bnd (sCat z33 r34) fun z36 =>
  bnd (sCat z36 [32]) fun z37 =>
  bnd (ref00_Decimal F a0.Chance.Of) fun r38 =>
  bnd (sCat z37 r38) fun z40 =>
  bnd (sCat z40 [10, 103, 114, 105, 100, 32]) fun z41 =>
  bnd (ref00_Decimal F a0.Grid) fun r42 =>
  bnd (sCat z41 r42) fun z44 =>
  bnd (sCat z44 [10]) fun z45 =>
  bif a0.Withdrawn then
    bnd (sCat z45 [119, 105, 116, 104, 100, 114, 97, 119, 110]) fun z48 =>
    ref10_text_1 F z48 a0.Event a0.Version a0.Time a0.Chance.N a0.Chance.Of a0.Grid a0.Cells a0.Withdrawn a0.Before
  else
    bnd (sCat z45 [99, 101, 108, 108, 115]) fun z69 =>
    ref10_text_1 F z69 a0.Event a0.Version a0.Time a0.Chance.N a0.Chance.Of a0.Grid a0.Cells a0.Withdrawn a0.Before

theorem ref10_text_ok (F : Nat) (a0 : S_api_Alert) (s0 : SV) (r : (List UInt8)) (M : Mem) (hs0 : Slc (rd M) 1 (FlatR enc3) s0 a0.Cells) (h : ref10_text F a0 = some r) : CallsM Tryd.prog 77 [(.agg [(.str a0.Event), (.int .i64 a0.Version), (.int .i64 a0.Time), (.int .i64 a0.Chance.N), (.int .i64 a0.Chance.Of), (.int .i64 a0.Grid), s0, (.bool a0.Withdrawn), (.int .i64 a0.Before)])] M (fun s M' => s = (.str r) ∧ M' = M) := by
  refine CallsM.plain Tryd.func77 rfl rfl rfl (show Run _ _ _ (ref10_text_post r) _ _ _ from ?_)
  rw [ref10_text] at h
  replace hs0 := hs0.mono (rdLe_frozen M) (fun _ _ h => h)
  have hH := Has.nil (frozen M)
  refine Run.seq (Run.region ?_)
  refine Run.opX wantS_none rfl (ExG.box rfl rfl hH) ?_
  rintro _ M23 ⟨b22, rfl, hH23⟩
  refine Run.opG wantS_none (ex_assign rfl) rfl ?_
  refine Run.opsEnd (Run.seq ?_)
  refine Run.drawG plan77_1_0 ?_
  refine DrawG.fl rfl (ev_ex wantS_none (ex_fieldAddr rfl off29_0)) rfl ?_
  refine DrawG.fl rfl (ev_ex wantS_none (ex_load1 rfl (hH23.cells (i := 0) rfl 0 rfl) rdLe_rfl agg9)) rfl ?_
  obtain ⟨z24, hz24, h⟩ := bnd_some h
  refine DrawG.fl rfl (ev_ex wantS_none (ex_cat rfl rfl hz24)) rfl ?_
  obtain ⟨z25, hz25, h⟩ := bnd_some h
  refine DrawG.fl rfl (ev_ex wantS_none (ex_cat rfl rfl hz25)) rfl ?_
  refine DrawG.fl rfl (ev_ex wantS_none (ex_fieldAddr rfl off29_1)) rfl ?_
  refine DrawG.fl rfl (ev_ex wantS_none (ex_load1 rfl (hH23.cells (i := 0) rfl 1 rfl) rdLe_rfl agg3)) rfl ?_
  refine DrawG.fl rfl (ev_ex wantS_none (ex_fieldAddr rfl off29_2)) rfl ?_
  refine DrawG.fl rfl (ev_ex wantS_none (ex_load1 rfl (hH23.cells (i := 0) rfl 2 rfl) rdLe_rfl agg3)) rfl ?_
  refine DrawG.fl rfl (ev_ex wantS_none (ex_fieldAddr rfl off29_3)) rfl ?_
  refine DrawG.fl rfl (ev_ex wantS_none (ex_fieldAddr rfl off26_0)) rfl ?_
  refine DrawG.fl rfl (ev_ex wantS_none (ex_load1 rfl (hH23.cells (i := 0) rfl 3 rfl) rdLe_rfl agg3)) rfl ?_
  refine DrawG.fl rfl (ev_ex wantS_none (ex_fieldAddr rfl off29_3)) rfl ?_
  refine DrawG.fl rfl (ev_ex wantS_none (ex_fieldAddr rfl off26_1)) rfl ?_
  refine DrawG.fl rfl (ev_ex wantS_none (ex_load1 rfl (hH23.cells (i := 0) rfl 4 rfl) rdLe_rfl agg3)) rfl ?_
  refine DrawG.fl rfl (ev_ex wantS_none (ex_fieldAddr rfl off29_4)) rfl ?_
  refine DrawG.fl rfl (ev_ex wantS_none (ex_load1 rfl (hH23.cells (i := 0) rfl 5 rfl) rdLe_rfl agg3)) rfl ?_
  obtain ⟨r26, hr26, h⟩ := bnd_some h
  refine DrawG.callP rfl wantS_none (ex_call rfl mkk96 cal96) rfl (ref00_Decimal_ok F a0.Version _ _ hr26) (st_cons rfl (ev_ex wantS_none (ex_load1 rfl (hH23.cells (i := 0) rfl 5 rfl) rdLe_rfl agg3)) rfl rfl rfl (st_cons rfl (ev_ex wantS_none (ex_fieldAddr rfl off29_4)) rfl rfl rfl (st_cons rfl (ev_ex wantS_none (ex_load1 rfl (hH23.cells (i := 0) rfl 4 rfl) rdLe_rfl agg3)) rfl rfl rfl (st_cons rfl (ev_ex wantS_none (ex_fieldAddr rfl off26_1)) rfl rfl rfl (st_cons rfl (ev_ex wantS_none (ex_fieldAddr rfl off29_3)) rfl rfl rfl (st_cons rfl (ev_ex wantS_none (ex_load1 rfl (hH23.cells (i := 0) rfl 3 rfl) rdLe_rfl agg3)) rfl rfl rfl (st_cons rfl (ev_ex wantS_none (ex_fieldAddr rfl off26_0)) rfl rfl rfl (st_cons rfl (ev_ex wantS_none (ex_fieldAddr rfl off29_3)) rfl rfl rfl (st_cons rfl (ev_ex wantS_none (ex_load1 rfl (hH23.cells (i := 0) rfl 2 rfl) rdLe_rfl agg3)) rfl rfl rfl (st_cons rfl (ev_ex wantS_none (ex_fieldAddr rfl off29_2)) rfl rfl rfl (st_cons rfl (ev_ex wantS_none (ex_cat rfl rfl hz25)) rfl rfl rfl (st_cons rfl (ev_ex wantS_none (ex_cat rfl rfl hz24)) rfl rfl rfl (st_cons rfl (ev_ex wantS_none (ex_load1 rfl (hH23.cells (i := 0) rfl 0 rfl) rdLe_rfl agg9)) rfl rfl rfl (st_cons rfl (ev_ex wantS_none (ex_fieldAddr rfl off29_0)) rfl rfl rfl st_nil)))))))))))))) ?_
  obtain ⟨z28, hz28, h⟩ := bnd_some h
  refine DrawG.fl rfl (ev_ex wantS_none (ex_cat rfl rfl hz28)) rfl ?_
  obtain ⟨z29, hz29, h⟩ := bnd_some h
  refine DrawG.fl rfl (ev_ex wantS_none (ex_cat rfl rfl hz29)) rfl ?_
  obtain ⟨r30, hr30, h⟩ := bnd_some h
  refine DrawG.callP rfl wantS_none (ex_call rfl mkk96 cal96) rfl (ref00_Decimal_ok F a0.Time _ _ hr30) (st_cons rfl (ev_ex wantS_none (ex_cat rfl rfl hz29)) rfl rfl rfl (st_cons rfl (ev_ex wantS_none (ex_cat rfl rfl hz28)) rfl rfl rfl (st_cons rfl (ev_ex wantS_none (ex_load1 rfl (hH23.cells (i := 0) rfl 5 rfl) rdLe_rfl agg3)) rfl rfl rfl (st_cons rfl (ev_ex wantS_none (ex_fieldAddr rfl off29_4)) rfl rfl rfl (st_cons rfl (ev_ex wantS_none (ex_load1 rfl (hH23.cells (i := 0) rfl 4 rfl) rdLe_rfl agg3)) rfl rfl rfl (st_cons rfl (ev_ex wantS_none (ex_fieldAddr rfl off26_1)) rfl rfl rfl (st_cons rfl (ev_ex wantS_none (ex_fieldAddr rfl off29_3)) rfl rfl rfl (st_cons rfl (ev_ex wantS_none (ex_load1 rfl (hH23.cells (i := 0) rfl 3 rfl) rdLe_rfl agg3)) rfl rfl rfl (st_cons rfl (ev_ex wantS_none (ex_fieldAddr rfl off26_0)) rfl rfl rfl (st_cons rfl (ev_ex wantS_none (ex_fieldAddr rfl off29_3)) rfl rfl rfl (st_cons rfl (ev_ex wantS_none (ex_cat rfl rfl hz25)) rfl rfl rfl (st_cons rfl (ev_ex wantS_none (ex_cat rfl rfl hz24)) rfl rfl rfl (st_cons rfl (ev_ex wantS_none (ex_load1 rfl (hH23.cells (i := 0) rfl 0 rfl) rdLe_rfl agg9)) rfl rfl rfl (st_cons rfl (ev_ex wantS_none (ex_fieldAddr rfl off29_0)) rfl rfl rfl st_nil)))))))))))))) ?_
  obtain ⟨z32, hz32, h⟩ := bnd_some h
  refine DrawG.fl rfl (ev_ex wantS_none (ex_cat rfl rfl hz32)) rfl ?_
  obtain ⟨z33, hz33, h⟩ := bnd_some h
  refine DrawG.fl rfl (ev_ex wantS_none (ex_cat rfl rfl hz33)) rfl ?_
  obtain ⟨r34, hr34, h⟩ := bnd_some h
  refine DrawG.callP rfl wantS_none (ex_call rfl mkk96 cal96) rfl (ref00_Decimal_ok F a0.Chance.N _ _ hr34) (st_cons rfl (ev_ex wantS_none (ex_cat rfl rfl hz33)) rfl rfl rfl (st_cons rfl (ev_ex wantS_none (ex_cat rfl rfl hz32)) rfl rfl rfl (st_cons rfl (ev_ex wantS_none (ex_cat rfl rfl hz29)) rfl rfl rfl (st_cons rfl (ev_ex wantS_none (ex_cat rfl rfl hz28)) rfl rfl rfl (st_cons rfl (ev_ex wantS_none (ex_load1 rfl (hH23.cells (i := 0) rfl 5 rfl) rdLe_rfl agg3)) rfl rfl rfl (st_cons rfl (ev_ex wantS_none (ex_fieldAddr rfl off29_4)) rfl rfl rfl (st_cons rfl (ev_ex wantS_none (ex_load1 rfl (hH23.cells (i := 0) rfl 4 rfl) rdLe_rfl agg3)) rfl rfl rfl (st_cons rfl (ev_ex wantS_none (ex_fieldAddr rfl off26_1)) rfl rfl rfl (st_cons rfl (ev_ex wantS_none (ex_fieldAddr rfl off29_3)) rfl rfl rfl (st_cons rfl (ev_ex wantS_none (ex_cat rfl rfl hz25)) rfl rfl rfl (st_cons rfl (ev_ex wantS_none (ex_cat rfl rfl hz24)) rfl rfl rfl (st_cons rfl (ev_ex wantS_none (ex_load1 rfl (hH23.cells (i := 0) rfl 0 rfl) rdLe_rfl agg9)) rfl rfl rfl (st_cons rfl (ev_ex wantS_none (ex_fieldAddr rfl off29_0)) rfl rfl rfl st_nil))))))))))))) ?_
  obtain ⟨z36, hz36, h⟩ := bnd_some h
  refine DrawG.fl rfl (ev_ex wantS_none (ex_cat rfl rfl hz36)) rfl ?_
  obtain ⟨z37, hz37, h⟩ := bnd_some h
  refine DrawG.fl rfl (ev_ex wantS_none (ex_cat rfl rfl hz37)) rfl ?_
  obtain ⟨r38, hr38, h⟩ := bnd_some h
  refine DrawG.callP rfl wantS_none (ex_call rfl mkk96 cal96) rfl (ref00_Decimal_ok F a0.Chance.Of _ _ hr38) (st_cons rfl (ev_ex wantS_none (ex_cat rfl rfl hz37)) rfl rfl rfl (st_cons rfl (ev_ex wantS_none (ex_cat rfl rfl hz36)) rfl rfl rfl (st_cons rfl (ev_ex wantS_none (ex_cat rfl rfl hz33)) rfl rfl rfl (st_cons rfl (ev_ex wantS_none (ex_cat rfl rfl hz32)) rfl rfl rfl (st_cons rfl (ev_ex wantS_none (ex_cat rfl rfl hz29)) rfl rfl rfl (st_cons rfl (ev_ex wantS_none (ex_cat rfl rfl hz28)) rfl rfl rfl (st_cons rfl (ev_ex wantS_none (ex_load1 rfl (hH23.cells (i := 0) rfl 5 rfl) rdLe_rfl agg3)) rfl rfl rfl (st_cons rfl (ev_ex wantS_none (ex_fieldAddr rfl off29_4)) rfl rfl rfl (st_cons rfl (ev_ex wantS_none (ex_cat rfl rfl hz25)) rfl rfl rfl (st_cons rfl (ev_ex wantS_none (ex_cat rfl rfl hz24)) rfl rfl rfl (st_cons rfl (ev_ex wantS_none (ex_load1 rfl (hH23.cells (i := 0) rfl 0 rfl) rdLe_rfl agg9)) rfl rfl rfl (st_cons rfl (ev_ex wantS_none (ex_fieldAddr rfl off29_0)) rfl rfl rfl st_nil)))))))))))) ?_
  obtain ⟨z40, hz40, h⟩ := bnd_some h
  refine DrawG.fl rfl (ev_ex wantS_none (ex_cat rfl rfl hz40)) rfl ?_
  obtain ⟨z41, hz41, h⟩ := bnd_some h
  refine DrawG.fl rfl (ev_ex wantS_none (ex_cat rfl rfl hz41)) rfl ?_
  obtain ⟨r42, hr42, h⟩ := bnd_some h
  refine DrawG.callP rfl wantS_none (ex_call rfl mkk96 cal96) rfl (ref00_Decimal_ok F a0.Grid _ _ hr42) (st_cons rfl (ev_ex wantS_none (ex_cat rfl rfl hz41)) rfl rfl rfl (st_cons rfl (ev_ex wantS_none (ex_cat rfl rfl hz40)) rfl rfl rfl (st_cons rfl (ev_ex wantS_none (ex_cat rfl rfl hz37)) rfl rfl rfl (st_cons rfl (ev_ex wantS_none (ex_cat rfl rfl hz36)) rfl rfl rfl (st_cons rfl (ev_ex wantS_none (ex_cat rfl rfl hz33)) rfl rfl rfl (st_cons rfl (ev_ex wantS_none (ex_cat rfl rfl hz32)) rfl rfl rfl (st_cons rfl (ev_ex wantS_none (ex_cat rfl rfl hz29)) rfl rfl rfl (st_cons rfl (ev_ex wantS_none (ex_cat rfl rfl hz28)) rfl rfl rfl (st_cons rfl (ev_ex wantS_none (ex_cat rfl rfl hz25)) rfl rfl rfl (st_cons rfl (ev_ex wantS_none (ex_cat rfl rfl hz24)) rfl rfl rfl (st_cons rfl (ev_ex wantS_none (ex_load1 rfl (hH23.cells (i := 0) rfl 0 rfl) rdLe_rfl agg9)) rfl rfl rfl (st_cons rfl (ev_ex wantS_none (ex_fieldAddr rfl off29_0)) rfl rfl rfl st_nil)))))))))))) ?_
  obtain ⟨z44, hz44, h⟩ := bnd_some h
  refine DrawG.fl rfl (ev_ex wantS_none (ex_cat rfl rfl hz44)) rfl ?_
  obtain ⟨z45, hz45, h⟩ := bnd_some h
  refine DrawG.fl rfl (ev_ex wantS_none (ex_cat rfl rfl hz45)) rfl ?_
  refine DrawG.fl rfl (ev_ex wantS_none (ex_assign rfl)) rfl ?_
  refine DrawG.sync ?_
  refine DrawG.nil ?_
  refine Run.seq (Run.seq (Run.region ?_))
  refine Run.opG wantS_none (ex_fieldAddr rfl off29_6) rfl ?_
  refine Run.opG wantS_none (ex_load1 rfl (hH23.cells (i := 0) rfl 7 rfl) rdLe_rfl agg4) rfl ?_
  refine Run.opsEnd ?_
  rcases btf (a0.Withdrawn) with hc46 | hc46
  · have h := bif_t hc46 h
    refine Run.condT' rfl hc46 ?_
    refine Run.region ?_
    refine Run.opG wantS_none (ex_move rfl) rfl ?_
    obtain ⟨z48, hz48, h⟩ := bnd_some h
    refine Run.opG wantS_none (ex_cat rfl rfl hz48) rfl ?_
    refine Run.opG wantS_none (ex_assign rfl) rfl ?_
    refine Run.opsEnd (Run.seq (Run.seq (Run.region ?_)))
    exact Run.pick [1, 3] (ref10_text_1_ok F z48 a0.Event a0.Version a0.Time a0.Chance.N a0.Chance.Of a0.Grid a0.Cells a0.Withdrawn a0.Before s0 b22 _ _ _ hs0 hH23 h)
  · have h := bif_f hc46 h
    refine Run.condF' rfl hc46 ?_
    refine Run.region ?_
    refine Run.opG wantS_none (ex_move rfl) rfl ?_
    obtain ⟨z69, hz69, h⟩ := bnd_some h
    refine Run.opG wantS_none (ex_cat rfl rfl hz69) rfl ?_
    refine Run.opG wantS_none (ex_assign rfl) rfl ?_
    refine Run.opsEnd (Run.seq (Run.seq (Run.region ?_)))
    exact Run.pick [1, 3] (ref10_text_1_ok F z69 a0.Event a0.Version a0.Time a0.Chance.N a0.Chance.Of a0.Grid a0.Cells a0.Withdrawn a0.Before s0 b22 _ _ _ hs0 hH23 h)

theorem mkk77 : makeK Tryd.prog 77 = none := by kernel_rfl
theorem cal77 : callable Tryd.prog 77 = true := by kernel_rfl
abbrev ref10_digest_post (r : Int) : SV → Mem → Prop := fun s _ => s = (.int .i64 r)

def ref10_digest_1 (F : Nat) : Nat → Int → (List UInt8) → Int → Option (Int)
  | 0, _, _, _ => none
  | N + 1, v3, v4, v5 =>
    bif (decide (v5 < (v4.length : Int))) then
      bnd (sAt v4 v5) fun z29 =>
      (ref10_digest_1 F N) (Int.tmod (w64 ((w64 ((w64 (v3 * (31 : Int))) + (w64 z29))) + (1 : Int))) (2147483647 : Int)) v4 (w64 (v5 + (1 : Int)))
    else
      some v3

theorem ref10_digest_1_ok (F : Nat) : ∀ (N : Nat), ∀ (v3 : Int) (v4 : (List UInt8)) (v5 : Int) (Fr : Rd) (M : Mem) (r : Int) (hH : Has Fr M []), ref10_digest_1 F N v3 v4 v5 = some r → Run Tryd.prog ⟨⟨49, [], none⟩, []⟩ 24 (ref10_digest_post r) [(3, (.int .i64 v3)), (4, (.str v4)), (5, (.int .i64 v5))] [codeC Tryd.prog 49 [1, 1, 1, 0, 1, 0, 0], loopC Tryd.prog 49 [1, 1, 1, 0, 1, 0, 0], .inBlock 0, codeC Tryd.prog 49 [1, 1, 1, 1]] M := by
  intro N
  induction N with
  | zero =>
    intro v3 v4 v5 Fr M r hH h
    simp [ref10_digest_1] at h
  | succ N ih =>
    intro v3 v4 v5 Fr M r hH h
    rw [ref10_digest_1] at h
    refine Run.seq (Run.seq (Run.region ?_))
    refine Run.opG wantS_none (ex_move rfl) rfl ?_
    refine Run.opG wantS_none (ex_move rfl) rfl ?_
    refine Run.opG wantS_none (ex_lenS rfl lenk9) rfl ?_
    refine Run.opG wantS_none (ex_lss rfl rfl) rfl ?_
    refine Run.opsEnd ?_
    rcases btf ((decide (v5 < (v4.length : Int)))) with hc27 | hc27
    · have h := bif_t hc27 h
      refine Run.condT' rfl hc27 ?_
      refine Run.skip (Run.seq (Run.block (Run.region ?_)))
      refine Run.opG wantS_none (ex_move rfl) rfl ?_
      refine Run.opG wantS_none (ex_mul rfl rfl) rfl ?_
      refine Run.opG wantS_none (ex_move rfl) rfl ?_
      refine Run.opG wantS_none (ex_move rfl) rfl ?_
      obtain ⟨z29, hz29, h⟩ := bnd_some h
      refine Run.opG wantS_none (ex_sAt rfl rfl whs9 hz29) rfl ?_
      refine Run.opG wantS_none (ex_conv rfl uvk5_3 cvk5_3) rfl ?_
      refine Run.opG wantS_none (ex_add rfl rfl) rfl ?_
      refine Run.opG wantS_none (ex_add rfl rfl) rfl ?_
      refine Run.opG wantS_none (ex_rem rfl rfl (by decide)) rfl ?_
      refine Run.opG wantS_none (ex_assign rfl) rfl ?_
      refine Run.opsEnd (Run.inBlock (Run.region ?_))
      refine Run.opG wantS_none (ex_move rfl) rfl ?_
      refine Run.opG wantS_none (ex_add rfl rfl) rfl ?_
      refine Run.opG wantS_none (ex_assign rfl) rfl ?_
      refine Run.opsEnd (Run.inLoop ?_)
      exact Run.pick [3, 4, 5] (ih (Int.tmod (w64 ((w64 ((w64 (v3 * (31 : Int))) + (w64 z29))) + (1 : Int))) (2147483647 : Int)) v4 (w64 (v5 + (1 : Int))) _ _ _ hH h)
    · have h := bif_f hc27 h
      refine Run.condF' rfl hc27 ?_
      refine Run.exit rfl (Run.seq (Run.region ?_))
      refine Run.opG wantS_none (ex_move rfl) rfl ?_
      refine Run.opG wantS_none (ex_assign rfl) rfl ?_
      refine Run.opsEnd ?_
      cases h
      exact Run.ret Tryd.func49 rfl (res_tmp rfl res_nil) rfl

def ref10_digest (F : Nat) (a0 : S_api_Alert) : Option (Int) :=
  bnd (ref10_text F a0) fun r25 =>
  ref10_digest_1 F F (7 : Int) r25 (0 : Int)

theorem ref10_digest_ok (F : Nat) (a0 : S_api_Alert) (s0 : SV) (r : Int) (M : Mem) (hs0 : Slc (rd M) 1 (FlatR enc3) s0 a0.Cells) (h : ref10_digest F a0 = some r) : CallsM Tryd.prog 49 [(.agg [(.str a0.Event), (.int .i64 a0.Version), (.int .i64 a0.Time), (.int .i64 a0.Chance.N), (.int .i64 a0.Chance.Of), (.int .i64 a0.Grid), s0, (.bool a0.Withdrawn), (.int .i64 a0.Before)])] M (fun s M' => s = (.int .i64 r) ∧ M' = M) := by
  refine CallsM.plain Tryd.func49 rfl rfl rfl (show Run _ _ _ (ref10_digest_post r) _ _ _ from ?_)
  rw [ref10_digest] at h
  replace hs0 := hs0.mono (rdLe_frozen M) (fun _ _ h => h)
  have hH := Has.nil (frozen M)
  refine Run.seq (Run.region ?_)
  refine Run.opX wantS_none rfl (ExG.box rfl rfl hH) ?_
  rintro _ M23 ⟨b22, rfl, hH23⟩
  refine Run.opG wantS_none (ex_assign rfl) rfl ?_
  refine Run.opsEnd (Run.seq (Run.region ?_))
  refine Run.opG wantS_none (ex_assign rfl) rfl ?_
  refine Run.opsEnd (Run.seq (Run.region ?_))
  refine Run.opG wantS_none (ex_loadA rfl (hH23.cells (i := 0) rfl 0 rfl) rdLe_rfl agg29 rfl rfl rfl) rfl ?_
  obtain ⟨r25, hr25, h⟩ := bnd_some h
  refine Run.callP wantS_none (ex_call rfl mkk77 cal77) rfl (ref10_text_ok F a0 s0 _ _ (hH23.slcF hs0) hr25) ?_
  refine Run.opG wantS_none (ex_assign rfl) rfl ?_
  refine Run.opsEnd (Run.seq (Run.seq (Run.region ?_)))
  refine Run.opG wantS_none (ex_assign rfl) rfl ?_
  refine Run.opsEnd (Run.block (Run.loop ?_))
  exact Run.pick [3, 4, 5] (ref10_digest_1_ok F F (7 : Int) r25 (0 : Int) _ _ _ (hH23.pick [] rfl rfl) h)

theorem mkk49 : makeK Tryd.prog 49 = none := by kernel_rfl
theorem cal49 : callable Tryd.prog 49 = true := by kernel_rfl
theorem plan51_1_0 : planOf Tryd.prog (opsC (atC Tryd.prog 51 [1, 0])) = some [.fl 0, .fl 1, .fl 2, .fl 3, .an 4 [], .fl 5, .fl 6, .fl 7, .fl 8, .fl 9, .fl 10, .fl 12, .fl 14, .fl 15, .an 11 [15, 14, 12], .an 13 [15, 14], .fl 16, .fl 17, .fl 18, .fl 19, .sync] := by kernel_rfl
abbrev ref10_signed_post (r : Bool) : SV → Mem → Prop := fun s _ => s = (.bool r)

def ref10_signed_1 (F : Nat) (v6 : Bool) : Option (Bool) :=
  some v6

theorem ref10_signed_1_ok (F : Nat) : ∀ (v6 : Bool) (Fr : Rd) (M : Mem) (r : Bool) (hH : Has Fr M []), ref10_signed_1 F v6 = some r → Run Tryd.prog ⟨⟨51, [], none⟩, []⟩ 26 (ref10_signed_post r) [(6, (.bool v6))] [codeC Tryd.prog 51 [1, 1]] M := by
  intro v6 Fr M r hH h
  rw [ref10_signed_1] at h
  cases h
  exact Run.ret Tryd.func51 rfl (res_tmp rfl res_nil) rfl

def ref10_signed (F : Nat) (a0 : S_api_Key) (a1 : S_api_Alert) (a2 : Int) : Option (Bool) :=
  bnd (ref00_In F a2 (0 : Int) (w64 (a0.Modulus - (1 : Int)))) fun r27 =>
  bif r27 then
    bnd (ref10_power F a2 a0.Exponent a0.Modulus) fun r30 =>
    bnd (ref10_digest F a1) fun r32 =>
    bnd (nz a0.Modulus) fun z34 =>
    ref10_signed_1 F (r30 == (Int.tmod r32 a0.Modulus))
  else
    ref10_signed_1 F false

theorem ref10_signed_ok (F : Nat) (a0 : S_api_Key) (a1 : S_api_Alert) (a2 : Int) (s0 : SV) (r : Bool) (M : Mem) (hs0 : Slc (rd M) 1 (FlatR enc3) s0 a1.Cells) (h : ref10_signed F a0 a1 a2 = some r) : CallsM Tryd.prog 51 [(.agg [(.int .i64 a0.Modulus), (.int .i64 a0.Exponent)]), (.agg [(.str a1.Event), (.int .i64 a1.Version), (.int .i64 a1.Time), (.int .i64 a1.Chance.N), (.int .i64 a1.Chance.Of), (.int .i64 a1.Grid), s0, (.bool a1.Withdrawn), (.int .i64 a1.Before)]), (.int .i64 a2)] M (fun s M' => s = (.bool r) ∧ M' = M) := by
  refine CallsM.plain Tryd.func51 rfl rfl rfl (show Run _ _ _ (ref10_signed_post r) _ _ _ from ?_)
  rw [ref10_signed] at h
  replace hs0 := hs0.mono (rdLe_frozen M) (fun _ _ h => h)
  have hH := Has.nil (frozen M)
  refine Run.seq (Run.region ?_)
  refine Run.opX wantS_none rfl (ExG.box rfl rfl hH) ?_
  rintro _ M23 ⟨b22, rfl, hH23⟩
  refine Run.opX wantS_none rfl (ExG.box rfl rfl hH23) ?_
  rintro _ M26 ⟨b25, rfl, hH26⟩
  refine Run.opG wantS_none (ex_assign rfl) rfl ?_
  refine Run.opsEnd (Run.seq ?_)
  refine Run.drawG plan51_1_0 ?_
  refine DrawG.fl rfl (ev_ex wantS_none (ex_move rfl)) rfl ?_
  refine DrawG.fl rfl (ev_ex wantS_none (ex_fieldAddr rfl off24_0)) rfl ?_
  refine DrawG.fl rfl (ev_ex wantS_none (ex_load1 rfl (hH26.cells (i := 1) rfl 0 rfl) rdLe_rfl agg3)) rfl ?_
  refine DrawG.fl rfl (ev_ex wantS_none (ex_sub rfl rfl)) rfl ?_
  obtain ⟨r27, hr27, h⟩ := bnd_some h
  refine DrawG.callP rfl wantS_none (ex_call rfl mkk39 cal39) rfl (ref00_In_ok F a2 (0 : Int) (w64 (a0.Modulus - (1 : Int))) _ _ hr27) st_nil ?_
  refine DrawG.fl rfl (ev_ex wantS_none (ex_move rfl)) rfl ?_
  rcases btf (r27) with hc29 | hc29
  · have h := bif_t hc29 h
    refine DrawG.fl rfl (ev_ex (wantS_yes' rfl rfl hc29) (ex_move rfl)) rfl ?_
    refine DrawG.fl rfl (ev_ex (wantS_yes' rfl rfl hc29) (ex_fieldAddr rfl off24_1)) rfl ?_
    refine DrawG.fl rfl (ev_ex (wantS_yes' rfl rfl hc29) (ex_load1 rfl (hH26.cells (i := 1) rfl 1 rfl) rdLe_rfl agg3)) rfl ?_
    refine DrawG.fl rfl (ev_ex (wantS_yes' rfl rfl hc29) (ex_fieldAddr rfl off24_0)) rfl ?_
    refine DrawG.fl rfl (ev_ex (wantS_yes' rfl rfl hc29) (ex_load1 rfl (hH26.cells (i := 1) rfl 0 rfl) rdLe_rfl agg3)) rfl ?_
    refine DrawG.fl rfl (ev_ex (wantS_yes' rfl rfl hc29) (ex_loadA rfl (hH26.cells (i := 0) rfl 0 rfl) rdLe_rfl agg29 rfl rfl rfl)) rfl ?_
    refine DrawG.fl rfl (ev_ex (wantS_yes' rfl rfl hc29) (ex_fieldAddr rfl off24_0)) rfl ?_
    refine DrawG.fl rfl (ev_ex (wantS_yes' rfl rfl hc29) (ex_load1 rfl (hH26.cells (i := 1) rfl 0 rfl) rdLe_rfl agg3)) rfl ?_
    obtain ⟨r30, hr30, h⟩ := bnd_some h
    refine DrawG.callP rfl (wantS_yes' rfl rfl hc29) (ex_call rfl mkk48 cal48) rfl (ref10_power_ok F a2 a0.Exponent a0.Modulus _ _ hr30) (st_cons rfl (ev_ex (wantS_yes' rfl rfl hc29) (ex_load1 rfl (hH26.cells (i := 1) rfl 0 rfl) rdLe_rfl agg3)) rfl rfl rfl (st_cons rfl (ev_ex (wantS_yes' rfl rfl hc29) (ex_fieldAddr rfl off24_0)) rfl rfl rfl (st_cons rfl (ev_ex (wantS_yes' rfl rfl hc29) (ex_loadA rfl (hH26.cells (i := 0) rfl 0 rfl) rdLe_rfl agg29 rfl rfl rfl)) rfl rfl (self_agg (self_cons rfl (self_cons rfl (self_cons rfl (self_cons rfl (self_cons rfl (self_cons rfl (self_cons (slc_self hs0) (self_cons rfl (self_cons rfl self_nil)))))))))) st_nil))) ?_
    obtain ⟨r32, hr32, h⟩ := bnd_some h
    refine DrawG.callP rfl (wantS_yes' rfl rfl hc29) (ex_call rfl mkk49 cal49) rfl (ref10_digest_ok F a1 s0 _ _ (hH26.slcF hs0) hr32) (st_cons rfl (ev_ex (wantS_yes' rfl rfl hc29) (ex_load1 rfl (hH26.cells (i := 1) rfl 0 rfl) rdLe_rfl agg3)) rfl rfl rfl (st_cons rfl (ev_ex (wantS_yes' rfl rfl hc29) (ex_fieldAddr rfl off24_0)) rfl rfl rfl st_nil)) ?_
    obtain ⟨z34, hz34, h⟩ := bnd_some h
    refine DrawG.fl rfl (ev_ex (wantS_yes' rfl rfl hc29) (ex_rem' rfl rfl hz34)) rfl ?_
    refine DrawG.fl rfl (ev_ex (wantS_yes' rfl rfl hc29) (ex_eql rfl rfl)) rfl ?_
    refine DrawG.fl rfl (ev_ex wantS_none (ex_pickT' rfl hc29 rfl rfl)) rfl ?_
    refine DrawG.fl rfl (ev_ex wantS_none (ex_assign rfl)) rfl ?_
    refine DrawG.sync ?_
    refine DrawG.nil ?_
    exact Run.pick [6] (ref10_signed_1_ok F (r30 == (Int.tmod r32 a0.Modulus)) _ _ _ (hH26.pick [] rfl rfl) h)
  · have h := bif_f hc29 h
    refine DrawG.fl rfl (ev_no (wantS_not' rfl rfl hc29)) rfl ?_
    refine DrawG.fl rfl (ev_no (wantS_not' rfl rfl hc29)) rfl ?_
    refine DrawG.fl rfl (ev_no (wantS_not' rfl rfl hc29)) rfl ?_
    refine DrawG.fl rfl (ev_no (wantS_not' rfl rfl hc29)) rfl ?_
    refine DrawG.fl rfl (ev_no (wantS_not' rfl rfl hc29)) rfl ?_
    refine DrawG.fl rfl (ev_no (wantS_not' rfl rfl hc29)) rfl ?_
    refine DrawG.fl rfl (ev_no (wantS_not' rfl rfl hc29)) rfl ?_
    refine DrawG.fl rfl (ev_no (wantS_not' rfl rfl hc29)) rfl ?_
    refine DrawG.no rfl (wantS_not' rfl rfl hc29) rfl (st_cons rfl (ev_no (wantS_not' rfl rfl hc29)) rfl rfl rfl (st_cons rfl (ev_no (wantS_not' rfl rfl hc29)) rfl rfl rfl (st_cons rfl (ev_no (wantS_not' rfl rfl hc29)) rfl rfl rfl st_nil))) ?_
    refine DrawG.no rfl (wantS_not' rfl rfl hc29) rfl (st_cons rfl (ev_no (wantS_not' rfl rfl hc29)) rfl rfl rfl (st_cons rfl (ev_no (wantS_not' rfl rfl hc29)) rfl rfl rfl st_nil)) ?_
    refine DrawG.fl rfl (ev_no (wantS_not' rfl rfl hc29)) rfl ?_
    refine DrawG.fl rfl (ev_no (wantS_not' rfl rfl hc29)) rfl ?_
    refine DrawG.fl rfl (ev_ex wantS_none (ex_pickF' rfl hc29 rfl rfl)) rfl ?_
    refine DrawG.fl rfl (ev_ex wantS_none (ex_assign rfl)) rfl ?_
    refine DrawG.sync ?_
    refine DrawG.nil ?_
    exact Run.pick [6] (ref10_signed_1_ok F false _ _ _ (hH26.pick [] rfl rfl) h)

theorem mkk51 : makeK Tryd.prog 51 = none := by kernel_rfl
theorem cal51 : callable Tryd.prog 51 = true := by kernel_rfl
theorem plan59_1_1_0_1_0_0_1_0_0_1_0 : planOf Tryd.prog (opsC (atC Tryd.prog 59 [1, 1, 0, 1, 0, 0, 1, 0, 0, 1, 0])) = some [.fl 0, .fl 1, .fl 2, .fl 3, .fl 4, .fl 5, .an 6 [], .fl 7, .fl 8, .fl 9, .fl 10, .fl 11, .fl 12, .fl 13, .fl 14, .fl 15, .fl 16, .fl 17, .fl 18, .fl 19, .fl 20, .fl 21, .fl 22, .fl 23, .fl 24, .fl 25, .fl 26, .fl 27, .fl 28, .fl 29, .fl 30, .fl 31, .fl 32, .fl 33, .fl 34, .an 35 [], .fl 36, .fl 37, .sync] := by kernel_rfl
abbrev ref10_notice_post (r : Int) : SV → Mem → Prop := fun s _ => s = (.int .i64 r)

def ref10_notice_2 (F : Nat) (hd1 : Int → (List S_api_Key) → Int → (List UInt8) → Int → Int → Int → Int → Int → (List Int) → Bool → Int → (List S_api_Signature) → Option (Int)) (v6 : Int) (v63 : Bool) (c22_0 : (List S_api_Key)) (c22_1 : Int) (c25_0 : (List UInt8)) (c25_1 c25_2 c25_3 c25_4 c25_5 : Int) (c25_6 : (List Int)) (c25_7 : Bool) (c25_8 : Int) (c25_9 : (List S_api_Signature)) : Option (Int) :=
  bif v63 then
    some (102 : Int)
  else
    hd1 (w64 (v6 + (1 : Int))) c22_0 c22_1 c25_0 c25_1 c25_2 c25_3 c25_4 c25_5 c25_6 c25_7 c25_8 c25_9

theorem ref10_notice_2_ok (F : Nat) (hd1 : Int → (List S_api_Key) → Int → (List UInt8) → Int → Int → Int → Int → Int → (List Int) → Bool → Int → (List S_api_Signature) → Option (Int)) (hhd1 : ∀ (v6 : Int) (c22_0 : (List S_api_Key)) (c22_1 : Int) (c25_0 : (List UInt8)) (c25_1 c25_2 c25_3 c25_4 c25_5 : Int) (c25_6 : (List Int)) (c25_7 : Bool) (c25_8 : Int) (c25_9 : (List S_api_Signature)) (sc22_0 sc25_6 sc25_9 : SV) (b22 b25 : Pos) (Fr : Rd) (M : Mem) (r : Int) (hc22_0 : Slc Fr 2 (FlatR enc24) sc22_0 c22_0) (hc25_6 : Slc Fr 1 (FlatR enc3) sc25_6 c25_6) (hc25_9 : Slc Fr 2 (FlatR enc111) sc25_9 c25_9) (hH : Has Fr M [.obj b22 (.row 43 .whole [sc22_0, (.int .i64 c22_1)]), .obj b25 (.row 46 .whole [(.str c25_0), (.int .i64 c25_1), (.int .i64 c25_2), (.int .i64 c25_3), (.int .i64 c25_4), (.int .i64 c25_5), sc25_6, (.bool c25_7), (.int .i64 c25_8), sc25_9])]), hd1 v6 c22_0 c22_1 c25_0 c25_1 c25_2 c25_3 c25_4 c25_5 c25_6 c25_7 c25_8 c25_9 = some r → Run Tryd.prog ⟨⟨59, [], none⟩, []⟩ 70 (ref10_notice_post r) [(2, (.ptr b22 0)), (3, (.ptr b25 0)), (6, (.int .i64 v6))] [codeC Tryd.prog 59 [1, 1, 0, 1, 0, 0], loopC Tryd.prog 59 [1, 1, 0, 1, 0, 0], .inBlock 0, codeC Tryd.prog 59 [1, 1, 1]] M) : ∀ (v6 : Int) (v63 : Bool) (c22_0 : (List S_api_Key)) (c22_1 : Int) (c25_0 : (List UInt8)) (c25_1 c25_2 c25_3 c25_4 c25_5 : Int) (c25_6 : (List Int)) (c25_7 : Bool) (c25_8 : Int) (c25_9 : (List S_api_Signature)) (sc22_0 sc25_6 sc25_9 : SV) (b22 b25 : Pos) (Fr : Rd) (M : Mem) (r : Int) (hc22_0 : Slc Fr 2 (FlatR enc24) sc22_0 c22_0) (hc25_6 : Slc Fr 1 (FlatR enc3) sc25_6 c25_6) (hc25_9 : Slc Fr 2 (FlatR enc111) sc25_9 c25_9) (hH : Has Fr M [.obj b22 (.row 43 .whole [sc22_0, (.int .i64 c22_1)]), .obj b25 (.row 46 .whole [(.str c25_0), (.int .i64 c25_1), (.int .i64 c25_2), (.int .i64 c25_3), (.int .i64 c25_4), (.int .i64 c25_5), sc25_6, (.bool c25_7), (.int .i64 c25_8), sc25_9])]), ref10_notice_2 F hd1 v6 v63 c22_0 c22_1 c25_0 c25_1 c25_2 c25_3 c25_4 c25_5 c25_6 c25_7 c25_8 c25_9 = some r → Run Tryd.prog ⟨⟨59, [], none⟩, []⟩ 70 (ref10_notice_post r) [(2, (.ptr b22 0)), (3, (.ptr b25 0)), (6, (.int .i64 v6)), (63, (.bool v63))] [codeC Tryd.prog 59 [1, 1, 0, 1, 0, 0, 1, 0, 0, 1, 1], .inBlock 1, codeC Tryd.prog 59 [1, 1, 0, 1, 0, 0, 1, 1], loopC Tryd.prog 59 [1, 1, 0, 1, 0, 0], .inBlock 0, codeC Tryd.prog 59 [1, 1, 1]] M := by
  intro v6 v63 c22_0 c22_1 c25_0 c25_1 c25_2 c25_3 c25_4 c25_5 c25_6 c25_7 c25_8 c25_9 sc22_0 sc25_6 sc25_9 b22 b25 Fr M r hc22_0 hc25_6 hc25_9 hH h
  rw [ref10_notice_2] at h
  rcases btf (v63) with hc41 | hc41
  · have h := bif_t hc41 h
    refine Run.condT' rfl hc41 ?_
    refine Run.seq (Run.region ?_)
    refine Run.opG wantS_none (ex_assign rfl) rfl ?_
    refine Run.opsEnd ?_
    cases h
    exact Run.ret Tryd.func59 rfl (res_tmp rfl res_nil) rfl
  · have h := bif_f hc41 h
    refine Run.condF' rfl hc41 ?_
    refine Run.skip (Run.inBlock (Run.region ?_))
    refine Run.opG wantS_none (ex_move rfl) rfl ?_
    refine Run.opG wantS_none (ex_add rfl rfl) rfl ?_
    refine Run.opG wantS_none (ex_assign rfl) rfl ?_
    refine Run.opsEnd (Run.inLoop ?_)
    exact Run.pick [2, 3, 6] (hhd1 (w64 (v6 + (1 : Int))) c22_0 c22_1 c25_0 c25_1 c25_2 c25_3 c25_4 c25_5 c25_6 c25_7 c25_8 c25_9 sc22_0 sc25_6 sc25_9 b22 b25 _ _ _ hc22_0 hc25_6 hc25_9 hH h)

def ref10_notice_1 (F : Nat) : Nat → Int → (List S_api_Key) → Int → (List UInt8) → Int → Int → Int → Int → Int → (List Int) → Bool → Int → (List S_api_Signature) → Option (Int)
  | 0, _, _, _, _, _, _, _, _, _, _, _, _, _ => none
  | N + 1, v6, c22_0, c22_1, c25_0, c25_1, c25_2, c25_3, c25_4, c25_5, c25_6, c25_7, c25_8, c25_9 =>
    bif (decide (v6 < (c25_9.length : Int))) then
      bnd (idx c25_9 v6) fun x33 =>
      bnd (ref00_In F x33.Signer (0 : Int) (w64 ((c22_0.length : Int) - (1 : Int)))) fun r38 =>
      bif (!r38) then
        ref10_notice_2 F (ref10_notice_1 F N) v6 true c22_0 c22_1 c25_0 c25_1 c25_2 c25_3 c25_4 c25_5 c25_6 c25_7 c25_8 c25_9
      else
        bif (decide ((0 : Int) < v6)) then
          bnd (idx c25_9 (w64 (v6 - (1 : Int)))) fun x43 =>
          bif (decide (x33.Signer ≤ x43.Signer)) then
            ref10_notice_2 F (ref10_notice_1 F N) v6 true c22_0 c22_1 c25_0 c25_1 c25_2 c25_3 c25_4 c25_5 c25_6 c25_7 c25_8 c25_9
          else
            bnd (idx c22_0 x33.Signer) fun x46 =>
            bnd (ref10_signed F x46 (S_api_Alert.mk c25_0 c25_1 c25_2 (S_api_Chance.mk c25_3 c25_4) c25_5 c25_6 c25_7 c25_8) x33.Number) fun r47 =>
            ref10_notice_2 F (ref10_notice_1 F N) v6 (!r47) c22_0 c22_1 c25_0 c25_1 c25_2 c25_3 c25_4 c25_5 c25_6 c25_7 c25_8 c25_9
        else
          bnd (idx c22_0 x33.Signer) fun x49 =>
          bnd (ref10_signed F x49 (S_api_Alert.mk c25_0 c25_1 c25_2 (S_api_Chance.mk c25_3 c25_4) c25_5 c25_6 c25_7 c25_8) x33.Number) fun r50 =>
          ref10_notice_2 F (ref10_notice_1 F N) v6 (!r50) c22_0 c22_1 c25_0 c25_1 c25_2 c25_3 c25_4 c25_5 c25_6 c25_7 c25_8 c25_9
    else
      bif (decide ((c25_9.length : Int) < c22_1)) then
        some (103 : Int)
      else
        some (0 : Int)

theorem ref10_notice_1_ok (F : Nat) : ∀ (N : Nat), ∀ (v6 : Int) (c22_0 : (List S_api_Key)) (c22_1 : Int) (c25_0 : (List UInt8)) (c25_1 c25_2 c25_3 c25_4 c25_5 : Int) (c25_6 : (List Int)) (c25_7 : Bool) (c25_8 : Int) (c25_9 : (List S_api_Signature)) (sc22_0 sc25_6 sc25_9 : SV) (b22 b25 : Pos) (Fr : Rd) (M : Mem) (r : Int) (hc22_0 : Slc Fr 2 (FlatR enc24) sc22_0 c22_0) (hc25_6 : Slc Fr 1 (FlatR enc3) sc25_6 c25_6) (hc25_9 : Slc Fr 2 (FlatR enc111) sc25_9 c25_9) (hH : Has Fr M [.obj b22 (.row 43 .whole [sc22_0, (.int .i64 c22_1)]), .obj b25 (.row 46 .whole [(.str c25_0), (.int .i64 c25_1), (.int .i64 c25_2), (.int .i64 c25_3), (.int .i64 c25_4), (.int .i64 c25_5), sc25_6, (.bool c25_7), (.int .i64 c25_8), sc25_9])]), ref10_notice_1 F N v6 c22_0 c22_1 c25_0 c25_1 c25_2 c25_3 c25_4 c25_5 c25_6 c25_7 c25_8 c25_9 = some r → Run Tryd.prog ⟨⟨59, [], none⟩, []⟩ 70 (ref10_notice_post r) [(2, (.ptr b22 0)), (3, (.ptr b25 0)), (6, (.int .i64 v6))] [codeC Tryd.prog 59 [1, 1, 0, 1, 0, 0], loopC Tryd.prog 59 [1, 1, 0, 1, 0, 0], .inBlock 0, codeC Tryd.prog 59 [1, 1, 1]] M := by
  intro N
  induction N with
  | zero =>
    intro v6 c22_0 c22_1 c25_0 c25_1 c25_2 c25_3 c25_4 c25_5 c25_6 c25_7 c25_8 c25_9 sc22_0 sc25_6 sc25_9 b22 b25 Fr M r hc22_0 hc25_6 hc25_9 hH h
    simp [ref10_notice_1] at h
  | succ N ih =>
    intro v6 c22_0 c22_1 c25_0 c25_1 c25_2 c25_3 c25_4 c25_5 c25_6 c25_7 c25_8 c25_9 sc22_0 sc25_6 sc25_9 b22 b25 Fr M r hc22_0 hc25_6 hc25_9 hH h
    rw [ref10_notice_1] at h
    refine Run.seq (Run.seq (Run.region ?_))
    refine Run.opG wantS_none (ex_move rfl) rfl ?_
    refine Run.opG wantS_none (ex_fieldAddr rfl off46_1) rfl ?_
    refine Run.opG wantS_none (ex_load1 rfl (hH.cells (i := 1) rfl 9 rfl) rdLe_rfl agg44) rfl ?_
    refine Run.opG wantS_none (ex_len' rfl hc25_9 lenk44) rfl ?_
    refine Run.opG wantS_none (ex_lss rfl rfl) rfl ?_
    refine Run.opsEnd ?_
    rcases btf ((decide (v6 < (c25_9.length : Int)))) with hc31 | hc31
    · have h := bif_t hc31 h
      refine Run.condT' rfl hc31 ?_
      refine Run.skip (Run.seq (Run.block (Run.seq (Run.region ?_))))
      refine Run.opG wantS_none (ex_fieldAddr rfl off46_1) rfl ?_
      refine Run.opG wantS_none (ex_load1 rfl (hH.cells (i := 1) rfl 9 rfl) rdLe_rfl agg44) rfl ?_
      refine Run.opG wantS_none (ex_move rfl) rfl ?_
      obtain ⟨x33, hx33, h⟩ := bnd_some h
      obtain ⟨p33, o33, _, hx33, hp33, rfl⟩ := sl_elem (P := Tryd.prog) (t := 44) (kk := .i64) hc25_9 hx33 els44
      refine Run.opG wantS_none (ex_elX rfl rfl hx33) rfl ?_
      refine Run.opG wantS_none (ex_loadA rfl (hH.ptrF hp33) rdLe_rfl agg111 rfl rfl rfl) rfl ?_
      refine Run.opX wantS_none rfl (ExG.new (v := fun b => .ptr b 0) (ex_alloc zer111) hH) ?_
      rintro _ M36 ⟨b35, rfl, hH36⟩
      refine Run.opX wantS_none rfl (ExG.storeC (c' := [(.int .i64 x33.Signer), (.int .i64 x33.Number)]) rfl rfl rfl hH36 (i := 0) rfl sz111 rfl rfl rfl rfl rfl) ?_
      rintro _ M37 ⟨rfl, (hH37 : Has Fr M37 [.obj b35 (.row 111 .whole [(.int .i64 x33.Signer), (.int .i64 x33.Number)]), .obj b22 (.row 43 .whole [sc22_0, (.int .i64 c22_1)]), .obj b25 (.row 46 .whole [(.str c25_0), (.int .i64 c25_1), (.int .i64 c25_2), (.int .i64 c25_3), (.int .i64 c25_4), (.int .i64 c25_5), sc25_6, (.bool c25_7), (.int .i64 c25_8), sc25_9])])⟩
      refine Run.opsEnd (Run.seq ?_)
      refine Run.drawG plan59_1_1_0_1_0_0_1_0_0_1_0 ?_
      refine DrawG.fl rfl (ev_ex wantS_none (ex_fieldAddr rfl off111_0)) rfl ?_
      refine DrawG.fl rfl (ev_ex wantS_none (ex_load1 rfl (hH37.cells (i := 0) rfl 0 rfl) rdLe_rfl agg3)) rfl ?_
      refine DrawG.fl rfl (ev_ex wantS_none (ex_fieldAddr rfl off43_0)) rfl ?_
      refine DrawG.fl rfl (ev_ex wantS_none (ex_load1 rfl (hH37.cells (i := 1) rfl 0 rfl) rdLe_rfl agg41)) rfl ?_
      refine DrawG.fl rfl (ev_ex wantS_none (ex_len' rfl hc22_0 lenk41)) rfl ?_
      refine DrawG.fl rfl (ev_ex wantS_none (ex_sub rfl rfl)) rfl ?_
      obtain ⟨r38, hr38, h⟩ := bnd_some h
      refine DrawG.callP rfl wantS_none (ex_call rfl mkk39 cal39) rfl (ref00_In_ok F x33.Signer (0 : Int) (w64 ((c22_0.length : Int) - (1 : Int))) _ _ hr38) st_nil ?_
      refine DrawG.fl rfl (ev_ex wantS_none (ex_not rfl)) rfl ?_
      refine DrawG.fl rfl (ev_ex wantS_none (ex_move rfl)) rfl ?_
      rcases btf ((!r38)) with hc40 | hc40
      · have h := bif_t hc40 h
        refine DrawG.fl rfl (ev_no (wantS_not' rfl rfl hc40)) rfl ?_
        refine DrawG.fl rfl (ev_no (wantS_not' rfl rfl hc40)) rfl ?_
        refine DrawG.fl rfl (ev_no (wantS_not' rfl rfl hc40)) rfl ?_
        refine DrawG.fl rfl (ev_no (wantS_skip rfl rfl)) rfl ?_
        refine DrawG.fl rfl (ev_no (wantS_skip rfl rfl)) rfl ?_
        refine DrawG.fl rfl (ev_no (wantS_skip rfl rfl)) rfl ?_
        refine DrawG.fl rfl (ev_no (wantS_skip rfl rfl)) rfl ?_
        refine DrawG.fl rfl (ev_no (wantS_skip rfl rfl)) rfl ?_
        refine DrawG.fl rfl (ev_no (wantS_skip rfl rfl)) rfl ?_
        refine DrawG.fl rfl (ev_no (wantS_skip rfl rfl)) rfl ?_
        refine DrawG.fl rfl (ev_no (wantS_skip rfl rfl)) rfl ?_
        refine DrawG.fl rfl (ev_no (wantS_skip rfl rfl)) rfl ?_
        refine DrawG.fl rfl (ev_no (wantS_skip rfl rfl)) rfl ?_
        refine DrawG.fl rfl (ev_no (wantS_not' rfl rfl hc40)) rfl ?_
        refine DrawG.fl rfl (ev_ex wantS_none (ex_pickT' rfl hc40 rfl rfl)) rfl ?_
        refine DrawG.fl rfl (ev_ex wantS_none (ex_move rfl)) rfl ?_
        refine DrawG.fl rfl (ev_no (wantS_not' rfl rfl rfl)) rfl ?_
        refine DrawG.fl rfl (ev_no (wantS_not' rfl rfl rfl)) rfl ?_
        refine DrawG.fl rfl (ev_no (wantS_not' rfl rfl rfl)) rfl ?_
        refine DrawG.fl rfl (ev_no (wantS_not' rfl rfl rfl)) rfl ?_
        refine DrawG.fl rfl (ev_no (wantS_not' rfl rfl rfl)) rfl ?_
        refine DrawG.fl rfl (ev_no (wantS_not' rfl rfl rfl)) rfl ?_
        refine DrawG.fl rfl (ev_no (wantS_not' rfl rfl rfl)) rfl ?_
        refine DrawG.fl rfl (ev_no (wantS_not' rfl rfl rfl)) rfl ?_
        refine DrawG.fl rfl (ev_no (wantS_not' rfl rfl rfl)) rfl ?_
        refine DrawG.fl rfl (ev_no (wantS_not' rfl rfl rfl)) rfl ?_
        refine DrawG.no rfl (wantS_not' rfl rfl rfl) rfl st_nil ?_
        refine DrawG.fl rfl (ev_no (wantS_not' rfl rfl rfl)) rfl ?_
        refine DrawG.fl rfl (ev_ex wantS_none (ex_pickT' rfl rfl rfl rfl)) rfl ?_
        refine DrawG.sync ?_
        refine DrawG.nil ?_
        exact Run.pick [2, 3, 6, 63] (ref10_notice_2_ok F (ref10_notice_1 F N) ih v6 true c22_0 c22_1 c25_0 c25_1 c25_2 c25_3 c25_4 c25_5 c25_6 c25_7 c25_8 c25_9 sc22_0 sc25_6 sc25_9 b22 b25 _ _ _ hc22_0 hc25_6 hc25_9 (hH37.pick [1, 2] rfl rfl) h)
      · have h := bif_f hc40 h
        refine DrawG.fl rfl (ev_ex (wantS_yes' rfl rfl hc40) (ex_move rfl)) rfl ?_
        refine DrawG.fl rfl (ev_ex (wantS_yes' rfl rfl hc40) (ex_gtr rfl rfl)) rfl ?_
        refine DrawG.fl rfl (ev_ex (wantS_yes' rfl rfl hc40) (ex_move rfl)) rfl ?_
        rcases btf ((decide ((0 : Int) < v6))) with hc42 | hc42
        · have h := bif_t hc42 h
          refine DrawG.fl rfl (ev_ex (wantS_yes' rfl rfl hc42) (ex_fieldAddr rfl off46_1)) rfl ?_
          refine DrawG.fl rfl (ev_ex (wantS_yes' rfl rfl hc42) (ex_load1 rfl (hH37.cells (i := 2) rfl 9 rfl) rdLe_rfl agg44)) rfl ?_
          refine DrawG.fl rfl (ev_ex (wantS_yes' rfl rfl hc42) (ex_move rfl)) rfl ?_
          refine DrawG.fl rfl (ev_ex (wantS_yes' rfl rfl hc42) (ex_sub rfl rfl)) rfl ?_
          obtain ⟨x43, hx43, h⟩ := bnd_some h
          obtain ⟨p43, o43, _, hx43, hp43, rfl⟩ := sl_elem (P := Tryd.prog) (t := 44) (kk := .i64) hc25_9 hx43 els44
          refine DrawG.fl rfl (ev_ex (wantS_yes' rfl rfl hc42) (ex_elX rfl rfl hx43)) rfl ?_
          have hp44 := (hp43.fld (o := 0) rfl)
          refine DrawG.fl rfl (ev_ex (wantS_yes' rfl rfl hc42) (ex_fieldAddr rfl off111_0)) rfl ?_
          refine DrawG.fl rfl (ev_ex (wantS_yes' rfl rfl hc42) (ex_load1 rfl (hH37.ptrF hp44) rdLe_rfl agg3)) rfl ?_
          refine DrawG.fl rfl (ev_ex (wantS_yes' rfl rfl hc42) (ex_fieldAddr rfl off111_0)) rfl ?_
          refine DrawG.fl rfl (ev_ex (wantS_yes' rfl rfl hc42) (ex_load1 rfl (hH37.cells (i := 0) rfl 0 rfl) rdLe_rfl agg3)) rfl ?_
          refine DrawG.fl rfl (ev_ex (wantS_yes' rfl rfl hc42) (ex_geq rfl rfl)) rfl ?_
          refine DrawG.fl rfl (ev_ex (wantS_yes' rfl rfl hc40) (ex_pickT' rfl hc42 rfl rfl)) rfl ?_
          refine DrawG.fl rfl (ev_ex wantS_none (ex_pickF' rfl hc40 rfl rfl)) rfl ?_
          refine DrawG.fl rfl (ev_ex wantS_none (ex_move rfl)) rfl ?_
          rcases btf ((decide (x33.Signer ≤ x43.Signer))) with hc45 | hc45
          · have h := bif_t hc45 h
            refine DrawG.fl rfl (ev_no (wantS_not' rfl rfl hc45)) rfl ?_
            refine DrawG.fl rfl (ev_no (wantS_not' rfl rfl hc45)) rfl ?_
            refine DrawG.fl rfl (ev_no (wantS_not' rfl rfl hc45)) rfl ?_
            refine DrawG.fl rfl (ev_no (wantS_not' rfl rfl hc45)) rfl ?_
            refine DrawG.fl rfl (ev_no (wantS_not' rfl rfl hc45)) rfl ?_
            refine DrawG.fl rfl (ev_no (wantS_not' rfl rfl hc45)) rfl ?_
            refine DrawG.fl rfl (ev_no (wantS_not' rfl rfl hc45)) rfl ?_
            refine DrawG.fl rfl (ev_no (wantS_not' rfl rfl hc45)) rfl ?_
            refine DrawG.fl rfl (ev_no (wantS_not' rfl rfl hc45)) rfl ?_
            refine DrawG.fl rfl (ev_no (wantS_not' rfl rfl hc45)) rfl ?_
            refine DrawG.no rfl (wantS_not' rfl rfl hc45) rfl st_nil ?_
            refine DrawG.fl rfl (ev_no (wantS_not' rfl rfl hc45)) rfl ?_
            refine DrawG.fl rfl (ev_ex wantS_none (ex_pickT' rfl hc45 rfl rfl)) rfl ?_
            refine DrawG.sync ?_
            refine DrawG.nil ?_
            exact Run.pick [2, 3, 6, 63] (ref10_notice_2_ok F (ref10_notice_1 F N) ih v6 true c22_0 c22_1 c25_0 c25_1 c25_2 c25_3 c25_4 c25_5 c25_6 c25_7 c25_8 c25_9 sc22_0 sc25_6 sc25_9 b22 b25 _ _ _ hc22_0 hc25_6 hc25_9 (hH37.pick [1, 2] rfl rfl) h)
          · have h := bif_f hc45 h
            refine DrawG.fl rfl (ev_ex (wantS_yes' rfl rfl hc45) (ex_fieldAddr rfl off43_0)) rfl ?_
            refine DrawG.fl rfl (ev_ex (wantS_yes' rfl rfl hc45) (ex_load1 rfl (hH37.cells (i := 1) rfl 0 rfl) rdLe_rfl agg41)) rfl ?_
            refine DrawG.fl rfl (ev_ex (wantS_yes' rfl rfl hc45) (ex_fieldAddr rfl off111_0)) rfl ?_
            refine DrawG.fl rfl (ev_ex (wantS_yes' rfl rfl hc45) (ex_load1 rfl (hH37.cells (i := 0) rfl 0 rfl) rdLe_rfl agg3)) rfl ?_
            obtain ⟨x46, hx46, h⟩ := bnd_some h
            obtain ⟨p46, o46, _, hx46, hp46, rfl⟩ := sl_elem (P := Tryd.prog) (t := 41) (kk := .i64) hc22_0 hx46 els41
            refine DrawG.fl rfl (ev_ex (wantS_yes' rfl rfl hc45) (ex_elX rfl rfl hx46)) rfl ?_
            refine DrawG.fl rfl (ev_ex (wantS_yes' rfl rfl hc45) (ex_loadA rfl (hH37.ptrF hp46) rdLe_rfl agg24 rfl rfl rfl)) rfl ?_
            refine DrawG.fl rfl (ev_ex (wantS_yes' rfl rfl hc45) (ex_fieldAddr rfl off46_0)) rfl ?_
            refine DrawG.fl rfl (ev_ex (wantS_yes' rfl rfl hc45) (ex_loadA rfl (hH37.cells (i := 2) rfl 0 rfl) rdLe_rfl agg29 rfl rfl rfl)) rfl ?_
            refine DrawG.fl rfl (ev_ex (wantS_yes' rfl rfl hc45) (ex_fieldAddr rfl off111_1)) rfl ?_
            refine DrawG.fl rfl (ev_ex (wantS_yes' rfl rfl hc45) (ex_load1 rfl (hH37.cells (i := 0) rfl 1 rfl) rdLe_rfl agg3)) rfl ?_
            obtain ⟨r47, hr47, h⟩ := bnd_some h
            refine DrawG.callP rfl (wantS_yes' rfl rfl hc45) (ex_call rfl mkk51 cal51) rfl (ref10_signed_ok F x46 (S_api_Alert.mk c25_0 c25_1 c25_2 (S_api_Chance.mk c25_3 c25_4) c25_5 c25_6 c25_7 c25_8) x33.Number sc25_6 _ _ (hH37.slcF hc25_6) hr47) st_nil ?_
            refine DrawG.fl rfl (ev_ex (wantS_yes' rfl rfl hc45) (ex_not rfl)) rfl ?_
            refine DrawG.fl rfl (ev_ex wantS_none (ex_pickF' rfl hc45 rfl rfl)) rfl ?_
            refine DrawG.sync ?_
            refine DrawG.nil ?_
            exact Run.pick [2, 3, 6, 63] (ref10_notice_2_ok F (ref10_notice_1 F N) ih v6 (!r47) c22_0 c22_1 c25_0 c25_1 c25_2 c25_3 c25_4 c25_5 c25_6 c25_7 c25_8 c25_9 sc22_0 sc25_6 sc25_9 b22 b25 _ _ _ hc22_0 hc25_6 hc25_9 (hH37.pick [1, 2] rfl rfl) h)
        · have h := bif_f hc42 h
          refine DrawG.fl rfl (ev_no (wantS_not' rfl rfl hc42)) rfl ?_
          refine DrawG.fl rfl (ev_no (wantS_not' rfl rfl hc42)) rfl ?_
          refine DrawG.fl rfl (ev_no (wantS_not' rfl rfl hc42)) rfl ?_
          refine DrawG.fl rfl (ev_no (wantS_not' rfl rfl hc42)) rfl ?_
          refine DrawG.fl rfl (ev_no (wantS_not' rfl rfl hc42)) rfl ?_
          refine DrawG.fl rfl (ev_no (wantS_not' rfl rfl hc42)) rfl ?_
          refine DrawG.fl rfl (ev_no (wantS_not' rfl rfl hc42)) rfl ?_
          refine DrawG.fl rfl (ev_no (wantS_not' rfl rfl hc42)) rfl ?_
          refine DrawG.fl rfl (ev_no (wantS_not' rfl rfl hc42)) rfl ?_
          refine DrawG.fl rfl (ev_no (wantS_not' rfl rfl hc42)) rfl ?_
          refine DrawG.fl rfl (ev_ex (wantS_yes' rfl rfl hc40) (ex_pickF' rfl hc42 rfl rfl)) rfl ?_
          refine DrawG.fl rfl (ev_ex wantS_none (ex_pickF' rfl hc40 rfl rfl)) rfl ?_
          refine DrawG.fl rfl (ev_ex wantS_none (ex_move rfl)) rfl ?_
          refine DrawG.fl rfl (ev_ex (wantS_yes' rfl rfl rfl) (ex_fieldAddr rfl off43_0)) rfl ?_
          refine DrawG.fl rfl (ev_ex (wantS_yes' rfl rfl rfl) (ex_load1 rfl (hH37.cells (i := 1) rfl 0 rfl) rdLe_rfl agg41)) rfl ?_
          refine DrawG.fl rfl (ev_ex (wantS_yes' rfl rfl rfl) (ex_fieldAddr rfl off111_0)) rfl ?_
          refine DrawG.fl rfl (ev_ex (wantS_yes' rfl rfl rfl) (ex_load1 rfl (hH37.cells (i := 0) rfl 0 rfl) rdLe_rfl agg3)) rfl ?_
          obtain ⟨x49, hx49, h⟩ := bnd_some h
          obtain ⟨p49, o49, _, hx49, hp49, rfl⟩ := sl_elem (P := Tryd.prog) (t := 41) (kk := .i64) hc22_0 hx49 els41
          refine DrawG.fl rfl (ev_ex (wantS_yes' rfl rfl rfl) (ex_elX rfl rfl hx49)) rfl ?_
          refine DrawG.fl rfl (ev_ex (wantS_yes' rfl rfl rfl) (ex_loadA rfl (hH37.ptrF hp49) rdLe_rfl agg24 rfl rfl rfl)) rfl ?_
          refine DrawG.fl rfl (ev_ex (wantS_yes' rfl rfl rfl) (ex_fieldAddr rfl off46_0)) rfl ?_
          refine DrawG.fl rfl (ev_ex (wantS_yes' rfl rfl rfl) (ex_loadA rfl (hH37.cells (i := 2) rfl 0 rfl) rdLe_rfl agg29 rfl rfl rfl)) rfl ?_
          refine DrawG.fl rfl (ev_ex (wantS_yes' rfl rfl rfl) (ex_fieldAddr rfl off111_1)) rfl ?_
          refine DrawG.fl rfl (ev_ex (wantS_yes' rfl rfl rfl) (ex_load1 rfl (hH37.cells (i := 0) rfl 1 rfl) rdLe_rfl agg3)) rfl ?_
          obtain ⟨r50, hr50, h⟩ := bnd_some h
          refine DrawG.callP rfl (wantS_yes' rfl rfl rfl) (ex_call rfl mkk51 cal51) rfl (ref10_signed_ok F x49 (S_api_Alert.mk c25_0 c25_1 c25_2 (S_api_Chance.mk c25_3 c25_4) c25_5 c25_6 c25_7 c25_8) x33.Number sc25_6 _ _ (hH37.slcF hc25_6) hr50) st_nil ?_
          refine DrawG.fl rfl (ev_ex (wantS_yes' rfl rfl rfl) (ex_not rfl)) rfl ?_
          refine DrawG.fl rfl (ev_ex wantS_none (ex_pickF' rfl rfl rfl rfl)) rfl ?_
          refine DrawG.sync ?_
          refine DrawG.nil ?_
          exact Run.pick [2, 3, 6, 63] (ref10_notice_2_ok F (ref10_notice_1 F N) ih v6 (!r50) c22_0 c22_1 c25_0 c25_1 c25_2 c25_3 c25_4 c25_5 c25_6 c25_7 c25_8 c25_9 sc22_0 sc25_6 sc25_9 b22 b25 _ _ _ hc22_0 hc25_6 hc25_9 (hH37.pick [1, 2] rfl rfl) h)
    · have h := bif_f hc31 h
      refine Run.condF' rfl hc31 ?_
      refine Run.exit rfl (Run.seq (Run.seq (Run.region ?_)))
      refine Run.opG wantS_none (ex_fieldAddr rfl off46_1) rfl ?_
      refine Run.opG wantS_none (ex_load1 rfl (hH.cells (i := 1) rfl 9 rfl) rdLe_rfl agg44) rfl ?_
      refine Run.opG wantS_none (ex_len' rfl hc25_9 lenk44) rfl ?_
      refine Run.opG wantS_none (ex_fieldAddr rfl off43_1) rfl ?_
      refine Run.opG wantS_none (ex_load1 rfl (hH.cells (i := 0) rfl 1 rfl) rdLe_rfl agg3) rfl ?_
      refine Run.opG wantS_none (ex_lss rfl rfl) rfl ?_
      refine Run.opsEnd ?_
      rcases btf ((decide ((c25_9.length : Int) < c22_1))) with hc52 | hc52
      · have h := bif_t hc52 h
        refine Run.condT' rfl hc52 ?_
        refine Run.seq (Run.region ?_)
        refine Run.opG wantS_none (ex_assign rfl) rfl ?_
        refine Run.opsEnd ?_
        cases h
        exact Run.ret Tryd.func59 rfl (res_tmp rfl res_nil) rfl
      · have h := bif_f hc52 h
        refine Run.condF' rfl hc52 ?_
        refine Run.skip (Run.seq (Run.region ?_))
        refine Run.opG wantS_none (ex_assign rfl) rfl ?_
        refine Run.opsEnd ?_
        cases h
        exact Run.ret Tryd.func59 rfl (res_tmp rfl res_nil) rfl

def ref10_notice (F : Nat) (a0 : S_api_Roll) (a1 : S_api_Notice) : Option (Int) :=
  bnd (ref10_CheckAlert F a1.Alert) fun r28 =>
  bif (!(r28 == (0 : Int))) then
    some r28
  else
    ref10_notice_1 F F (0 : Int) a0.Keys a0.Quorum a1.Alert.Event a1.Alert.Version a1.Alert.Time a1.Alert.Chance.N a1.Alert.Chance.Of a1.Alert.Grid a1.Alert.Cells a1.Alert.Withdrawn a1.Alert.Before a1.Signatures

theorem ref10_notice_ok (F : Nat) (a0 : S_api_Roll) (a1 : S_api_Notice) (s0 s1 s2 : SV) (r : Int) (M : Mem) (hs0 : Slc (rd M) 2 (FlatR enc24) s0 a0.Keys) (hs1 : Slc (rd M) 1 (FlatR enc3) s1 a1.Alert.Cells) (hs2 : Slc (rd M) 2 (FlatR enc111) s2 a1.Signatures) (h : ref10_notice F a0 a1 = some r) : CallsM Tryd.prog 59 [(.agg [s0, (.int .i64 a0.Quorum)]), (.agg [(.str a1.Alert.Event), (.int .i64 a1.Alert.Version), (.int .i64 a1.Alert.Time), (.int .i64 a1.Alert.Chance.N), (.int .i64 a1.Alert.Chance.Of), (.int .i64 a1.Alert.Grid), s1, (.bool a1.Alert.Withdrawn), (.int .i64 a1.Alert.Before), s2])] M (fun s M' => s = (.int .i64 r) ∧ M' = M) := by
  refine CallsM.plain Tryd.func59 rfl rfl rfl (show Run _ _ _ (ref10_notice_post r) _ _ _ from ?_)
  rw [ref10_notice] at h
  replace hs0 := hs0.mono (rdLe_frozen M) (fun _ _ h => h)
  replace hs1 := hs1.mono (rdLe_frozen M) (fun _ _ h => h)
  replace hs2 := hs2.mono (rdLe_frozen M) (fun _ _ h => h)
  have hH := Has.nil (frozen M)
  refine Run.seq (Run.region ?_)
  refine Run.opX wantS_none rfl (ExG.box rfl rfl hH) ?_
  rintro _ M23 ⟨b22, rfl, hH23⟩
  refine Run.opX wantS_none rfl (ExG.box rfl rfl hH23) ?_
  rintro _ M26 ⟨b25, rfl, hH26⟩
  refine Run.opG wantS_none (ex_assign rfl) rfl ?_
  refine Run.opsEnd (Run.seq (Run.seq (Run.region ?_)))
  refine Run.opG wantS_none (ex_fieldAddr rfl off46_0) rfl ?_
  refine Run.opG wantS_none (ex_loadA rfl (hH26.cells (i := 0) rfl 0 rfl) rdLe_rfl agg29 rfl rfl rfl) rfl ?_
  obtain ⟨r28, hr28, h⟩ := bnd_some h
  refine Run.callP wantS_none (ex_call rfl mkk47 cal47) rfl (ref10_CheckAlert_ok F a1.Alert s1 _ _ (hH26.slcF hs1) hr28) ?_
  refine Run.opG wantS_none (ex_assign rfl) rfl ?_
  refine Run.opsEnd (Run.seq (Run.region ?_))
  refine Run.opG wantS_none (ex_move rfl) rfl ?_
  refine Run.opG wantS_none (ex_neq rfl rfl) rfl ?_
  refine Run.opsEnd ?_
  rcases btf ((!(r28 == (0 : Int)))) with hc30 | hc30
  · have h := bif_t hc30 h
    refine Run.condT' rfl hc30 ?_
    refine Run.seq (Run.region ?_)
    refine Run.opG wantS_none (ex_move rfl) rfl ?_
    refine Run.opG wantS_none (ex_assign rfl) rfl ?_
    refine Run.opsEnd ?_
    cases h
    exact Run.ret Tryd.func59 rfl (res_tmp rfl res_nil) rfl
  · have h := bif_f hc30 h
    refine Run.condF' rfl hc30 ?_
    refine Run.skip (Run.seq (Run.seq (Run.region ?_)))
    refine Run.opG wantS_none (ex_assign rfl) rfl ?_
    refine Run.opsEnd (Run.block (Run.loop ?_))
    exact Run.pick [2, 3, 6] (ref10_notice_1_ok F F (0 : Int) a0.Keys a0.Quorum a1.Alert.Event a1.Alert.Version a1.Alert.Time a1.Alert.Chance.N a1.Alert.Chance.Of a1.Alert.Grid a1.Alert.Cells a1.Alert.Withdrawn a1.Alert.Before a1.Signatures s0 s1 s2 b22 b25 _ _ _ hs0 hs1 hs2 (hH26.pick [1, 0] rfl rfl) h)

theorem mkk59 : makeK Tryd.prog 59 = none := by kernel_rfl
theorem cal59 : callable Tryd.prog 59 = true := by kernel_rfl
abbrev ref10_CheckNotice_post (r : Int) : SV → Mem → Prop := fun s _ => s = (.int .i64 r)

def ref10_CheckNotice (F : Nat) (a0 : S_api_Roll) (a1 : S_api_Notice) : Option (Int) :=
  bnd (ref10_CheckRoll F a0) fun r28 =>
  bif (!(r28 == (0 : Int))) then
    some r28
  else
    bnd (ref10_notice F a0 (S_api_Notice.mk a1.Alert a1.Signatures)) fun r32 =>
    some r32

theorem ref10_CheckNotice_ok (F : Nat) (a0 : S_api_Roll) (a1 : S_api_Notice) (s0 s1 s2 : SV) (r : Int) (M : Mem) (hs0 : Slc (rd M) 2 (FlatR enc24) s0 a0.Keys) (hs1 : Slc (rd M) 1 (FlatR enc3) s1 a1.Alert.Cells) (hs2 : Slc (rd M) 2 (FlatR enc111) s2 a1.Signatures) (h : ref10_CheckNotice F a0 a1 = some r) : CallsM Tryd.prog 18 [(.agg [s0, (.int .i64 a0.Quorum)]), (.agg [(.str a1.Alert.Event), (.int .i64 a1.Alert.Version), (.int .i64 a1.Alert.Time), (.int .i64 a1.Alert.Chance.N), (.int .i64 a1.Alert.Chance.Of), (.int .i64 a1.Alert.Grid), s1, (.bool a1.Alert.Withdrawn), (.int .i64 a1.Alert.Before), s2])] M (fun s M' => s = (.int .i64 r) ∧ M' = M) := by
  refine CallsM.plain Tryd.func18 rfl rfl rfl (show Run _ _ _ (ref10_CheckNotice_post r) _ _ _ from ?_)
  rw [ref10_CheckNotice] at h
  replace hs0 := hs0.mono (rdLe_frozen M) (fun _ _ h => h)
  replace hs1 := hs1.mono (rdLe_frozen M) (fun _ _ h => h)
  replace hs2 := hs2.mono (rdLe_frozen M) (fun _ _ h => h)
  have hH := Has.nil (frozen M)
  refine Run.seq (Run.region ?_)
  refine Run.opX wantS_none rfl (ExG.box rfl rfl hH) ?_
  rintro _ M23 ⟨b22, rfl, hH23⟩
  refine Run.opX wantS_none rfl (ExG.box rfl rfl hH23) ?_
  rintro _ M26 ⟨b25, rfl, hH26⟩
  refine Run.opG wantS_none (ex_assign rfl) rfl ?_
  refine Run.opsEnd (Run.seq (Run.seq (Run.region ?_)))
  refine Run.opG wantS_none (ex_loadA rfl (hH26.cells (i := 1) rfl 0 rfl) rdLe_rfl agg43 rfl rfl rfl) rfl ?_
  obtain ⟨r28, hr28, h⟩ := bnd_some h
  refine Run.callP wantS_none (ex_call rfl mkk16 cal16) rfl (ref10_CheckRoll_ok F a0 s0 _ _ (hH26.slcF hs0) hr28) ?_
  refine Run.opG wantS_none (ex_assign rfl) rfl ?_
  refine Run.opsEnd (Run.seq (Run.region ?_))
  refine Run.opG wantS_none (ex_move rfl) rfl ?_
  refine Run.opG wantS_none (ex_neq rfl rfl) rfl ?_
  refine Run.opsEnd ?_
  rcases btf ((!(r28 == (0 : Int)))) with hc30 | hc30
  · have h := bif_t hc30 h
    refine Run.condT' rfl hc30 ?_
    refine Run.seq (Run.region ?_)
    refine Run.opG wantS_none (ex_move rfl) rfl ?_
    refine Run.opG wantS_none (ex_assign rfl) rfl ?_
    refine Run.opsEnd ?_
    cases h
    exact Run.ret Tryd.func18 rfl (res_tmp rfl res_nil) rfl
  · have h := bif_f hc30 h
    refine Run.condF' rfl hc30 ?_
    refine Run.skip (Run.seq (Run.region ?_))
    refine Run.opG wantS_none (ex_loadA rfl (hH26.cells (i := 1) rfl 0 rfl) rdLe_rfl agg43 rfl rfl rfl) rfl ?_
    refine Run.opG wantS_none (ex_loadA rfl (hH26.cells (i := 0) rfl 0 rfl) rdLe_rfl agg46 rfl rfl rfl) rfl ?_
    obtain ⟨r32, hr32, h⟩ := bnd_some h
    refine Run.callP wantS_none (ex_call rfl mkk59 cal59) rfl (ref10_notice_ok F a0 (S_api_Notice.mk a1.Alert a1.Signatures) s0 s1 s2 _ _ (hH26.slcF hs0) (hH26.slcF hs1) (hH26.slcF hs2) hr32) ?_
    refine Run.opG wantS_none (ex_assign rfl) rfl ?_
    refine Run.opsEnd ?_
    cases h
    exact Run.ret Tryd.func18 rfl (res_tmp rfl res_nil) rfl

theorem mkk18 : makeK Tryd.prog 18 = none := by kernel_rfl
theorem cal18 : callable Tryd.prog 18 = true := by kernel_rfl
theorem mkk14 : makeK Tryd.prog 14 = none := by kernel_rfl
theorem cal14 : callable Tryd.prog 14 = true := by kernel_rfl
theorem plan4_1_0 : planOf Tryd.prog (opsC (atC Tryd.prog 4 [1, 0])) = some [.fl 0, .fl 2, .an 1 [2], .an 3 [], .fl 4, .fl 5, .fl 6, .fl 7, .fl 9, .fl 10, .an 8 [10, 9], .an 11 [], .fl 12, .fl 13, .fl 14, .an 15 [], .fl 16, .fl 17, .sync] := by kernel_rfl
abbrev law10_AlertNotices_post (r : Bool) : SV → Mem → Prop := fun s _ => s = (.bool r)

def law10_AlertNotices_1 (F : Nat) (v4 : Bool) : Option (Bool) :=
  some v4

theorem law10_AlertNotices_1_ok (F : Nat) : ∀ (v4 : Bool) (Fr : Rd) (M : Mem) (r : Bool) (hH : Has Fr M [tb0, tb1, tb2]), law10_AlertNotices_1 F v4 = some r → Run Tryd.prog ⟨⟨4, [], none⟩, []⟩ 22 (law10_AlertNotices_post r) [(4, (.bool v4))] [codeC Tryd.prog 4 [1, 1]] M := by
  intro v4 Fr M r hH h
  rw [law10_AlertNotices_1] at h
  cases h
  exact Run.ret Tryd.func4 rfl (res_tmp rfl res_nil) rfl

def law10_AlertNotices (F : Nat) (a0 : S_api_Roll) (a1 : S_api_Notice) : Option (Bool) :=
  bnd (alert_CheckRoll F a0) fun r30 =>
  bnd (ref10_CheckRoll F a0) fun r32 =>
  bif (r30 == r32) then
    bnd (alert_CheckNotice F a0 (S_api_Notice.mk a1.Alert a1.Signatures)) fun r35 =>
    bnd (ref10_CheckNotice F a0 (S_api_Notice.mk a1.Alert a1.Signatures)) fun r37 =>
    bif (r35 == r37) then
      bnd (works F) fun r40 =>
      law10_AlertNotices_1 F r40
    else
      law10_AlertNotices_1 F false
  else
    law10_AlertNotices_1 F false

theorem law10_AlertNotices_run (F : Nat) (a0 : S_api_Roll) (a1 : S_api_Notice) (s0 s1 s2 : SV) (r : Bool) (M : Mem) (hs0 : Slc (rd M) 2 (FlatR enc24) s0 a0.Keys) (hs1 : Slc (rd M) 1 (FlatR enc3) s1 a1.Alert.Cells) (hs2 : Slc (rd M) 2 (FlatR enc111) s2 a1.Signatures) (hfx : FixIn M fixes) (h : law10_AlertNotices F a0 a1 = some r) : Run Tryd.prog (fx0 4) 22 (law10_AlertNotices_post r) [(0, (.agg [s0, (.int .i64 a0.Quorum)])), (1, (.agg [(.str a1.Alert.Event), (.int .i64 a1.Alert.Version), (.int .i64 a1.Alert.Time), (.int .i64 a1.Alert.Chance.N), (.int .i64 a1.Alert.Chance.Of), (.int .i64 a1.Alert.Grid), s1, (.bool a1.Alert.Withdrawn), (.int .i64 a1.Alert.Before), s2]))] [codeC Tryd.prog 4 []] (frozen M) := by
  rw [law10_AlertNotices] at h
  replace hs0 := hs0.mono (rdLe_frozen M) (fun _ _ h => h)
  replace hs1 := hs1.mono (rdLe_frozen M) (fun _ _ h => h)
  replace hs2 := hs2.mono (rdLe_frozen M) (fun _ _ h => h)
  have hH : Has (ro (frozen M)) (frozen M) [tb0, tb1, tb2] := Has.ofFix hfx.frozen
  refine Run.seq (Run.region ?_)
  refine Run.opX wantS_none rfl (ExG.box rfl rfl hH) ?_
  rintro _ M26 ⟨b25, rfl, hH26⟩
  refine Run.opX wantS_none rfl (ExG.box rfl rfl hH26) ?_
  rintro _ M29 ⟨b28, rfl, hH29⟩
  refine Run.opG wantS_none (ex_assign rfl) rfl ?_
  refine Run.opsEnd (Run.seq ?_)
  refine Run.drawG plan4_1_0 ?_
  refine DrawG.fl rfl (ev_ex wantS_none (ex_loadA rfl (hH29.cells (i := 1) rfl 0 rfl) rdLe_rfl agg43 rfl rfl rfl)) rfl ?_
  refine DrawG.fl rfl (ev_ex wantS_none (ex_loadA rfl (hH29.cells (i := 1) rfl 0 rfl) rdLe_rfl agg43 rfl rfl rfl)) rfl ?_
  obtain ⟨r30, hr30, h⟩ := bnd_some h
  refine DrawG.callP rfl wantS_none (ex_call rfl mkk15 cal15) rfl (alert_CheckRoll_ok F a0 s0 _ _ (hH29.slcF hs0) hr30) (st_cons rfl (ev_ex wantS_none (ex_loadA rfl (hH29.cells (i := 1) rfl 0 rfl) rdLe_rfl agg43 rfl rfl rfl)) rfl rfl (self_agg (self_cons (slc_self hs0) (self_cons rfl self_nil))) st_nil) ?_
  obtain ⟨r32, hr32, h⟩ := bnd_some h
  refine DrawG.callP rfl wantS_none (ex_call rfl mkk16 cal16) rfl (ref10_CheckRoll_ok F a0 s0 _ _ (hH29.slcF hs0) hr32) st_nil ?_
  refine DrawG.fl rfl (ev_ex wantS_none (ex_eql rfl rfl)) rfl ?_
  refine DrawG.fl rfl (ev_ex wantS_none (ex_move rfl)) rfl ?_
  rcases btf ((r30 == r32)) with hc34 | hc34
  · have h := bif_t hc34 h
    refine DrawG.fl rfl (ev_ex (wantS_yes' rfl rfl hc34) (ex_loadA rfl (hH29.cells (i := 1) rfl 0 rfl) rdLe_rfl agg43 rfl rfl rfl)) rfl ?_
    refine DrawG.fl rfl (ev_ex (wantS_yes' rfl rfl hc34) (ex_loadA rfl (hH29.cells (i := 0) rfl 0 rfl) rdLe_rfl agg46 rfl rfl rfl)) rfl ?_
    refine DrawG.fl rfl (ev_ex (wantS_yes' rfl rfl hc34) (ex_loadA rfl (hH29.cells (i := 1) rfl 0 rfl) rdLe_rfl agg43 rfl rfl rfl)) rfl ?_
    refine DrawG.fl rfl (ev_ex (wantS_yes' rfl rfl hc34) (ex_loadA rfl (hH29.cells (i := 0) rfl 0 rfl) rdLe_rfl agg46 rfl rfl rfl)) rfl ?_
    obtain ⟨r35, hr35, h⟩ := bnd_some h
    refine DrawG.callP rfl (wantS_yes' rfl rfl hc34) (ex_call rfl mkk17 cal17) rfl (alert_CheckNotice_ok F a0 (S_api_Notice.mk a1.Alert a1.Signatures) s0 s1 s2 _ _ (hH29.slcF hs0) (hH29.slcF hs1) (hH29.slcF hs2) (fixH hH29 (List.mem_of_getElem? (i := 2) rfl) (List.mem_of_getElem? (i := 3) rfl) (List.mem_of_getElem? (i := 4) rfl)) hr35) (st_cons rfl (ev_ex (wantS_yes' rfl rfl hc34) (ex_loadA rfl (hH29.cells (i := 0) rfl 0 rfl) rdLe_rfl agg46 rfl rfl rfl)) rfl rfl (self_agg (self_cons rfl (self_cons rfl (self_cons rfl (self_cons rfl (self_cons rfl (self_cons rfl (self_cons (slc_self hs1) (self_cons rfl (self_cons rfl (self_cons (slc_self hs2) self_nil))))))))))) (st_cons rfl (ev_ex (wantS_yes' rfl rfl hc34) (ex_loadA rfl (hH29.cells (i := 1) rfl 0 rfl) rdLe_rfl agg43 rfl rfl rfl)) rfl rfl (self_agg (self_cons (slc_self hs0) (self_cons rfl self_nil))) st_nil)) ?_
    obtain ⟨r37, hr37, h⟩ := bnd_some h
    refine DrawG.callP rfl (wantS_yes' rfl rfl hc34) (ex_call rfl mkk18 cal18) rfl (ref10_CheckNotice_ok F a0 (S_api_Notice.mk a1.Alert a1.Signatures) s0 s1 s2 _ _ (hH29.slcF hs0) (hH29.slcF hs1) (hH29.slcF hs2) hr37) st_nil ?_
    refine DrawG.fl rfl (ev_ex (wantS_yes' rfl rfl hc34) (ex_eql rfl rfl)) rfl ?_
    refine DrawG.fl rfl (ev_ex wantS_none (ex_pickT' rfl hc34 rfl rfl)) rfl ?_
    refine DrawG.fl rfl (ev_ex wantS_none (ex_move rfl)) rfl ?_
    rcases btf ((r35 == r37)) with hc39 | hc39
    · have h := bif_t hc39 h
      obtain ⟨r40, hr40, h⟩ := bnd_some h
      refine DrawG.callP rfl (wantS_yes' rfl rfl hc39) (ex_call rfl mkk14 cal14) rfl (works_ok F r40 _ hH29 (List.mem_of_getElem? (i := 2) rfl) (List.mem_of_getElem? (i := 3) rfl) (List.mem_of_getElem? (i := 4) rfl) hr40) st_nil ?_
      refine DrawG.fl rfl (ev_ex wantS_none (ex_pickT' rfl hc39 rfl rfl)) rfl ?_
      refine DrawG.fl rfl (ev_ex wantS_none (ex_assign rfl)) rfl ?_
      refine DrawG.sync ?_
      refine DrawG.nil ?_
      exact Run.pick [4] (law10_AlertNotices_1_ok F r40 _ _ _ (hH29.pick [2, 3, 4] rfl rfl) h)
    · have h := bif_f hc39 h
      refine DrawG.no rfl (wantS_not' rfl rfl hc39) rfl st_nil ?_
      refine DrawG.fl rfl (ev_ex wantS_none (ex_pickF' rfl hc39 rfl rfl)) rfl ?_
      refine DrawG.fl rfl (ev_ex wantS_none (ex_assign rfl)) rfl ?_
      refine DrawG.sync ?_
      refine DrawG.nil ?_
      exact Run.pick [4] (law10_AlertNotices_1_ok F false _ _ _ (hH29.pick [2, 3, 4] rfl rfl) h)
  · have h := bif_f hc34 h
    refine DrawG.fl rfl (ev_no (wantS_not' rfl rfl hc34)) rfl ?_
    refine DrawG.fl rfl (ev_no (wantS_not' rfl rfl hc34)) rfl ?_
    refine DrawG.fl rfl (ev_no (wantS_not' rfl rfl hc34)) rfl ?_
    refine DrawG.fl rfl (ev_no (wantS_not' rfl rfl hc34)) rfl ?_
    refine DrawG.no rfl (wantS_not' rfl rfl hc34) rfl (st_cons rfl (ev_no (wantS_not' rfl rfl hc34)) rfl rfl rfl (st_cons rfl (ev_no (wantS_not' rfl rfl hc34)) rfl rfl rfl st_nil)) ?_
    refine DrawG.no rfl (wantS_not' rfl rfl hc34) rfl st_nil ?_
    refine DrawG.fl rfl (ev_no (wantS_not' rfl rfl hc34)) rfl ?_
    refine DrawG.fl rfl (ev_ex wantS_none (ex_pickF' rfl hc34 rfl rfl)) rfl ?_
    refine DrawG.fl rfl (ev_ex wantS_none (ex_move rfl)) rfl ?_
    refine DrawG.no rfl (wantS_not' rfl rfl rfl) rfl st_nil ?_
    refine DrawG.fl rfl (ev_ex wantS_none (ex_pickF' rfl rfl rfl rfl)) rfl ?_
    refine DrawG.fl rfl (ev_ex wantS_none (ex_assign rfl)) rfl ?_
    refine DrawG.sync ?_
    refine DrawG.nil ?_
    exact Run.pick [4] (law10_AlertNotices_1_ok F false _ _ _ (hH29.pick [2, 3, 4] rfl rfl) h)

end Go.Ev.AlertNotices
