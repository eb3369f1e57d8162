/- Plain functions that say what functions of the program come to, and proofs of it, written by a program of the verifier's own. -/
import Derived.Test.YtoobfmfgbcohcaaDoorShelf
import Derived.Test.YtoobfmfgbcohcaaDoorAlertDraftsPlain
namespace Go.Ev.AlertDrafts
open Go Go.Ev Go.Proofs
set_option maxRecDepth 100000
set_option linter.unusedVariables false

abbrev alert_sheet_time_post (r : (List UInt8)) : SV → Mem → Prop := fun s _ => s = (.str r)

def alert_sheet_time (F : Nat) (a0 : S_api_Alert) : Option ((List UInt8)) :=
  bnd (alert_line F [116, 105, 109, 101] ([a0.Time] : List Int)) fun r31 =>
  some r31

theorem alert_sheet_time_ok (F : Nat) (a0 : S_api_Alert) (s0 : SV) (r : (List UInt8)) (M : Mem) (hs0 : Slc (rd M) 1 (FlatR enc3) s0 a0.Cells) (hfx : FixIn M fixes) (h : alert_sheet_time F a0 = some r) : CallsM Tryd.prog 88 [(.agg [(.str a0.Event), (.int .i64 a0.Version), (.int .i64 a0.Time), (.int .i64 a0.Chance.N), (.int .i64 a0.Chance.Of), (.int .i64 a0.Grid), s0, (.bool a0.Withdrawn), (.int .i64 a0.Before)])] M (fun s M' => s = (.str r) ∧ M' = M) := by
  refine CallsM.plain Tryd.func88 rfl rfl rfl (show Run _ _ _ (alert_sheet_time_post r) _ _ _ from ?_)
  rw [alert_sheet_time] at h
  replace hs0 := hs0.mono (rdLe_frozen M) (fun _ _ h => h)
  have hH : Has (ro (frozen M)) (frozen M) [tb0, tb1, tb2] := Has.ofFix hfx.frozen
  refine Run.seq (Run.region ?_)
  refine Run.opX wantS_none rfl (ExG.box rfl rfl hH) ?_
  rintro _ M26 ⟨b25, rfl, hH26⟩
  refine Run.opG wantS_none (ex_assign rfl) rfl ?_
  refine Run.opsEnd (Run.seq (Run.region ?_))
  refine Run.opG wantS_none (ex_fieldAddr rfl off119_2) rfl ?_
  refine Run.opG wantS_none (ex_load1 rfl (hH26.cells (i := 0) rfl 2 rfl) rdLe_rfl agg3) rfl ?_
  refine Run.opX wantS_none rfl (ExG.built (enc := enc3) (l := ([a0.Time] : List Int)) (z := 1) rfl elt27 rfl rfl rfl enc3_len hH26) ?_
  rintro s28 M29 (hH29 : Has (ro (frozen M)) M29 [.vec 3 1 ([a0.Time] : List Int).length s28 (([a0.Time] : List Int).flatMap enc3), .obj b25 (.row 119 .whole [(.str a0.Event), (.int .i64 a0.Version), (.int .i64 a0.Time), (.int .i64 a0.Chance.N), (.int .i64 a0.Chance.Of), (.int .i64 a0.Grid), s0, (.bool a0.Withdrawn), (.int .i64 a0.Before)]), tb0, tb1, tb2])
  obtain ⟨r31, hr31, h⟩ := bnd_some h
  refine Run.callP wantS_none (ex_call rfl mkk101 cal101) rfl (alert_line_ok F [116, 105, 109, 101] ([a0.Time] : List Int) s28 _ _ (hH29.slc (i := 0) rfl enc3_len) (fixH hH29 (List.mem_of_getElem? (i := 2) rfl) (List.mem_of_getElem? (i := 3) rfl) (List.mem_of_getElem? (i := 4) rfl)) hr31) ?_
  refine Run.opG wantS_none (ex_assign rfl) rfl ?_
  refine Run.opsEnd ?_
  cases h
  exact Run.ret Tryd.func88 rfl (res_tmp rfl res_nil) rfl

theorem mkk89 : makeK Tryd.prog 89 = none := by kernel_rfl
theorem cal89 : callable Tryd.prog 89 = true := by kernel_rfl
theorem off119_3 : fieldOff Tryd.prog 119 3 = some 3 := by kernel_rfl
abbrev alert_sheet_chance_post (r : (List UInt8)) : SV → Mem → Prop := fun s _ => s = (.str r)

def alert_sheet_chance (F : Nat) (a0 : S_api_Alert) : Option ((List UInt8)) :=
  bnd (alert_line F [99, 104, 97, 110, 99, 101] ([a0.Chance.N, a0.Chance.Of] : List Int)) fun r31 =>
  some r31

theorem alert_sheet_chance_ok (F : Nat) (a0 : S_api_Alert) (s0 : SV) (r : (List UInt8)) (M : Mem) (hs0 : Slc (rd M) 1 (FlatR enc3) s0 a0.Cells) (hfx : FixIn M fixes) (h : alert_sheet_chance F a0 = some r) : CallsM Tryd.prog 89 [(.agg [(.str a0.Event), (.int .i64 a0.Version), (.int .i64 a0.Time), (.int .i64 a0.Chance.N), (.int .i64 a0.Chance.Of), (.int .i64 a0.Grid), s0, (.bool a0.Withdrawn), (.int .i64 a0.Before)])] M (fun s M' => s = (.str r) ∧ M' = M) := by
  refine CallsM.plain Tryd.func89 rfl rfl rfl (show Run _ _ _ (alert_sheet_chance_post r) _ _ _ from ?_)
  rw [alert_sheet_chance] at h
  replace hs0 := hs0.mono (rdLe_frozen M) (fun _ _ h => h)
  have hH : Has (ro (frozen M)) (frozen M) [tb0, tb1, tb2] := Has.ofFix hfx.frozen
  refine Run.seq (Run.region ?_)
  refine Run.opX wantS_none rfl (ExG.box rfl rfl hH) ?_
  rintro _ M26 ⟨b25, rfl, hH26⟩
  refine Run.opG wantS_none (ex_assign rfl) rfl ?_
  refine Run.opsEnd (Run.seq (Run.region ?_))
  refine Run.opG wantS_none (ex_fieldAddr rfl off119_3) rfl ?_
  refine Run.opG wantS_none (ex_fieldAddr rfl off26_0) rfl ?_
  refine Run.opG wantS_none (ex_load1 rfl (hH26.cells (i := 0) rfl 3 rfl) rdLe_rfl agg3) rfl ?_
  refine Run.opG wantS_none (ex_fieldAddr rfl off119_3) rfl ?_
  refine Run.opG wantS_none (ex_fieldAddr rfl off26_1) rfl ?_
  refine Run.opG wantS_none (ex_load1 rfl (hH26.cells (i := 0) rfl 4 rfl) rdLe_rfl agg3) rfl ?_
  refine Run.opX wantS_none rfl (ExG.built (enc := enc3) (l := ([a0.Chance.N, a0.Chance.Of] : List Int)) (z := 1) rfl elt27 rfl rfl rfl enc3_len hH26) ?_
  rintro s28 M29 (hH29 : Has (ro (frozen M)) M29 [.vec 3 1 ([a0.Chance.N, a0.Chance.Of] : List Int).length s28 (([a0.Chance.N, a0.Chance.Of] : List Int).flatMap enc3), .obj b25 (.row 119 .whole [(.str a0.Event), (.int .i64 a0.Version), (.int .i64 a0.Time), (.int .i64 a0.Chance.N), (.int .i64 a0.Chance.Of), (.int .i64 a0.Grid), s0, (.bool a0.Withdrawn), (.int .i64 a0.Before)]), tb0, tb1, tb2])
  obtain ⟨r31, hr31, h⟩ := bnd_some h
  refine Run.callP wantS_none (ex_call rfl mkk101 cal101) rfl (alert_line_ok F [99, 104, 97, 110, 99, 101] ([a0.Chance.N, a0.Chance.Of] : List Int) s28 _ _ (hH29.slc (i := 0) rfl enc3_len) (fixH hH29 (List.mem_of_getElem? (i := 2) rfl) (List.mem_of_getElem? (i := 3) rfl) (List.mem_of_getElem? (i := 4) rfl)) hr31) ?_
  refine Run.opG wantS_none (ex_assign rfl) rfl ?_
  refine Run.opsEnd ?_
  cases h
  exact Run.ret Tryd.func89 rfl (res_tmp rfl res_nil) rfl

theorem mkk90 : makeK Tryd.prog 90 = none := by kernel_rfl
theorem cal90 : callable Tryd.prog 90 = true := by kernel_rfl
theorem off119_4 : fieldOff Tryd.prog 119 4 = some 5 := by kernel_rfl
abbrev alert_sheet_grid_post (r : (List UInt8)) : SV → Mem → Prop := fun s _ => s = (.str r)

def alert_sheet_grid (F : Nat) (a0 : S_api_Alert) : Option ((List UInt8)) :=
  bnd (alert_line F [103, 114, 105, 100] ([a0.Grid] : List Int)) fun r31 =>
  some r31

theorem alert_sheet_grid_ok (F : Nat) (a0 : S_api_Alert) (s0 : SV) (r : (List UInt8)) (M : Mem) (hs0 : Slc (rd M) 1 (FlatR enc3) s0 a0.Cells) (hfx : FixIn M fixes) (h : alert_sheet_grid F a0 = some r) : CallsM Tryd.prog 90 [(.agg [(.str a0.Event), (.int .i64 a0.Version), (.int .i64 a0.Time), (.int .i64 a0.Chance.N), (.int .i64 a0.Chance.Of), (.int .i64 a0.Grid), s0, (.bool a0.Withdrawn), (.int .i64 a0.Before)])] M (fun s M' => s = (.str r) ∧ M' = M) := by
  refine CallsM.plain Tryd.func90 rfl rfl rfl (show Run _ _ _ (alert_sheet_grid_post r) _ _ _ from ?_)
  rw [alert_sheet_grid] at h
  replace hs0 := hs0.mono (rdLe_frozen M) (fun _ _ h => h)
  have hH : Has (ro (frozen M)) (frozen M) [tb0, tb1, tb2] := Has.ofFix hfx.frozen
  refine Run.seq (Run.region ?_)
  refine Run.opX wantS_none rfl (ExG.box rfl rfl hH) ?_
  rintro _ M26 ⟨b25, rfl, hH26⟩
  refine Run.opG wantS_none (ex_assign rfl) rfl ?_
  refine Run.opsEnd (Run.seq (Run.region ?_))
  refine Run.opG wantS_none (ex_fieldAddr rfl off119_4) rfl ?_
  refine Run.opG wantS_none (ex_load1 rfl (hH26.cells (i := 0) rfl 5 rfl) rdLe_rfl agg3) rfl ?_
  refine Run.opX wantS_none rfl (ExG.built (enc := enc3) (l := ([a0.Grid] : List Int)) (z := 1) rfl elt27 rfl rfl rfl enc3_len hH26) ?_
  rintro s28 M29 (hH29 : Has (ro (frozen M)) M29 [.vec 3 1 ([a0.Grid] : List Int).length s28 (([a0.Grid] : List Int).flatMap enc3), .obj b25 (.row 119 .whole [(.str a0.Event), (.int .i64 a0.Version), (.int .i64 a0.Time), (.int .i64 a0.Chance.N), (.int .i64 a0.Chance.Of), (.int .i64 a0.Grid), s0, (.bool a0.Withdrawn), (.int .i64 a0.Before)]), tb0, tb1, tb2])
  obtain ⟨r31, hr31, h⟩ := bnd_some h
  refine Run.callP wantS_none (ex_call rfl mkk101 cal101) rfl (alert_line_ok F [103, 114, 105, 100] ([a0.Grid] : List Int) s28 _ _ (hH29.slc (i := 0) rfl enc3_len) (fixH hH29 (List.mem_of_getElem? (i := 2) rfl) (List.mem_of_getElem? (i := 3) rfl) (List.mem_of_getElem? (i := 4) rfl)) hr31) ?_
  refine Run.opG wantS_none (ex_assign rfl) rfl ?_
  refine Run.opsEnd ?_
  cases h
  exact Run.ret Tryd.func90 rfl (res_tmp rfl res_nil) rfl

theorem mkk91 : makeK Tryd.prog 91 = none := by kernel_rfl
theorem cal91 : callable Tryd.prog 91 = true := by kernel_rfl
theorem off119_6 : fieldOff Tryd.prog 119 6 = some 7 := by kernel_rfl
theorem off119_5 : fieldOff Tryd.prog 119 5 = some 6 := by kernel_rfl
abbrev alert_sheet_where_post (r : (List UInt8)) : SV → Mem → Prop := fun s _ => s = (.str r)

def alert_sheet_where (F : Nat) (a0 : S_api_Alert) : Option ((List UInt8)) :=
  bif a0.Withdrawn then
    bnd (alert_line F [119, 105, 116, 104, 100, 114, 97, 119, 110] []) fun r29 =>
    some r29
  else
    bnd (alert_line F [99, 101, 108, 108, 115] a0.Cells) fun r32 =>
    some r32

theorem alert_sheet_where_ok (F : Nat) (a0 : S_api_Alert) (s0 : SV) (r : (List UInt8)) (M : Mem) (hs0 : Slc (rd M) 1 (FlatR enc3) s0 a0.Cells) (hfx : FixIn M fixes) (h : alert_sheet_where F a0 = some r) : CallsM Tryd.prog 91 [(.agg [(.str a0.Event), (.int .i64 a0.Version), (.int .i64 a0.Time), (.int .i64 a0.Chance.N), (.int .i64 a0.Chance.Of), (.int .i64 a0.Grid), s0, (.bool a0.Withdrawn), (.int .i64 a0.Before)])] M (fun s M' => s = (.str r) ∧ M' = M) := by
  refine CallsM.plain Tryd.func91 rfl rfl rfl (show Run _ _ _ (alert_sheet_where_post r) _ _ _ from ?_)
  rw [alert_sheet_where] at h
  replace hs0 := hs0.mono (rdLe_frozen M) (fun _ _ h => h)
  have hH : Has (ro (frozen M)) (frozen M) [tb0, tb1, tb2] := Has.ofFix hfx.frozen
  refine Run.seq (Run.region ?_)
  refine Run.opX wantS_none rfl (ExG.box rfl rfl hH) ?_
  rintro _ M26 ⟨b25, rfl, hH26⟩
  refine Run.opG wantS_none (ex_assign rfl) rfl ?_
  refine Run.opsEnd (Run.seq (Run.seq (Run.region ?_)))
  refine Run.opG wantS_none (ex_fieldAddr rfl off119_6) rfl ?_
  refine Run.opG wantS_none (ex_load1 rfl (hH26.cells (i := 0) rfl 7 rfl) rdLe_rfl agg4) rfl ?_
  refine Run.opsEnd ?_
  rcases btf (a0.Withdrawn) with hc27 | hc27
  · have h := bif_t hc27 h
    refine Run.condT' rfl hc27 ?_
    refine Run.seq (Run.region ?_)
    obtain ⟨r29, hr29, h⟩ := bnd_some h
    refine Run.callP wantS_none (ex_call rfl mkk101 cal101) rfl (alert_line_ok F [119, 105, 116, 104, 100, 114, 97, 119, 110] [] .nils _ _ slc_nil (fixH hH26 (List.mem_of_getElem? (i := 1) rfl) (List.mem_of_getElem? (i := 2) rfl) (List.mem_of_getElem? (i := 3) rfl)) hr29) ?_
    refine Run.opG wantS_none (ex_assign rfl) rfl ?_
    refine Run.opsEnd ?_
    cases h
    exact Run.ret Tryd.func91 rfl (res_tmp rfl res_nil) rfl
  · have h := bif_f hc27 h
    refine Run.condF' rfl hc27 ?_
    refine Run.skip (Run.seq (Run.region ?_))
    refine Run.opG wantS_none (ex_fieldAddr rfl off119_5) rfl ?_
    refine Run.opG wantS_none (ex_load1 rfl (hH26.cells (i := 0) rfl 6 rfl) rdLe_rfl agg27) rfl ?_
    obtain ⟨r32, hr32, h⟩ := bnd_some h
    refine Run.callP wantS_none (ex_call rfl mkk101 cal101) rfl (alert_line_ok F [99, 101, 108, 108, 115] a0.Cells s0 _ _ (hH26.slcF hs0) (fixH hH26 (List.mem_of_getElem? (i := 1) rfl) (List.mem_of_getElem? (i := 2) rfl) (List.mem_of_getElem? (i := 3) rfl)) hr32) ?_
    refine Run.opG wantS_none (ex_assign rfl) rfl ?_
    refine Run.opsEnd ?_
    cases h
    exact Run.ret Tryd.func91 rfl (res_tmp rfl res_nil) rfl

theorem mkk92 : makeK Tryd.prog 92 = none := by kernel_rfl
theorem cal92 : callable Tryd.prog 92 = true := by kernel_rfl
theorem off119_7 : fieldOff Tryd.prog 119 7 = some 8 := by kernel_rfl
abbrev alert_sheet_before_post (r : (List UInt8)) : SV → Mem → Prop := fun s _ => s = (.str r)

def alert_sheet_before (F : Nat) (a0 : S_api_Alert) : Option ((List UInt8)) :=
  bnd (alert_line F [98, 101, 102, 111, 114, 101] ([a0.Before] : List Int)) fun r31 =>
  some r31

theorem alert_sheet_before_ok (F : Nat) (a0 : S_api_Alert) (s0 : SV) (r : (List UInt8)) (M : Mem) (hs0 : Slc (rd M) 1 (FlatR enc3) s0 a0.Cells) (hfx : FixIn M fixes) (h : alert_sheet_before F a0 = some r) : CallsM Tryd.prog 92 [(.agg [(.str a0.Event), (.int .i64 a0.Version), (.int .i64 a0.Time), (.int .i64 a0.Chance.N), (.int .i64 a0.Chance.Of), (.int .i64 a0.Grid), s0, (.bool a0.Withdrawn), (.int .i64 a0.Before)])] M (fun s M' => s = (.str r) ∧ M' = M) := by
  refine CallsM.plain Tryd.func92 rfl rfl rfl (show Run _ _ _ (alert_sheet_before_post r) _ _ _ from ?_)
  rw [alert_sheet_before] at h
  replace hs0 := hs0.mono (rdLe_frozen M) (fun _ _ h => h)
  have hH : Has (ro (frozen M)) (frozen M) [tb0, tb1, tb2] := Has.ofFix hfx.frozen
  refine Run.seq (Run.region ?_)
  refine Run.opX wantS_none rfl (ExG.box rfl rfl hH) ?_
  rintro _ M26 ⟨b25, rfl, hH26⟩
  refine Run.opG wantS_none (ex_assign rfl) rfl ?_
  refine Run.opsEnd (Run.seq (Run.region ?_))
  refine Run.opG wantS_none (ex_fieldAddr rfl off119_7) rfl ?_
  refine Run.opG wantS_none (ex_load1 rfl (hH26.cells (i := 0) rfl 8 rfl) rdLe_rfl agg3) rfl ?_
  refine Run.opX wantS_none rfl (ExG.built (enc := enc3) (l := ([a0.Before] : List Int)) (z := 1) rfl elt27 rfl rfl rfl enc3_len hH26) ?_
  rintro s28 M29 (hH29 : Has (ro (frozen M)) M29 [.vec 3 1 ([a0.Before] : List Int).length s28 (([a0.Before] : List Int).flatMap enc3), .obj b25 (.row 119 .whole [(.str a0.Event), (.int .i64 a0.Version), (.int .i64 a0.Time), (.int .i64 a0.Chance.N), (.int .i64 a0.Chance.Of), (.int .i64 a0.Grid), s0, (.bool a0.Withdrawn), (.int .i64 a0.Before)]), tb0, tb1, tb2])
  obtain ⟨r31, hr31, h⟩ := bnd_some h
  refine Run.callP wantS_none (ex_call rfl mkk101 cal101) rfl (alert_line_ok F [98, 101, 102, 111, 114, 101] ([a0.Before] : List Int) s28 _ _ (hH29.slc (i := 0) rfl enc3_len) (fixH hH29 (List.mem_of_getElem? (i := 2) rfl) (List.mem_of_getElem? (i := 3) rfl) (List.mem_of_getElem? (i := 4) rfl)) hr31) ?_
  refine Run.opG wantS_none (ex_assign rfl) rfl ?_
  refine Run.opsEnd ?_
  cases h
  exact Run.ret Tryd.func92 rfl (res_tmp rfl res_nil) rfl

theorem mkk93 : makeK Tryd.prog 93 = none := by kernel_rfl
theorem cal93 : callable Tryd.prog 93 = true := by kernel_rfl
abbrev alert_sheet_end_post (r : (List UInt8)) : SV → Mem → Prop := fun s _ => s = (.str r)

def alert_sheet_end (F : Nat) (a0 : S_api_Alert) : Option ((List UInt8)) :=
  bnd (alert_line F [101, 110, 100] []) fun r28 =>
  some r28

theorem alert_sheet_end_ok (F : Nat) (a0 : S_api_Alert) (s0 : SV) (r : (List UInt8)) (M : Mem) (hs0 : Slc (rd M) 1 (FlatR enc3) s0 a0.Cells) (hfx : FixIn M fixes) (h : alert_sheet_end F a0 = some r) : CallsM Tryd.prog 93 [(.agg [(.str a0.Event), (.int .i64 a0.Version), (.int .i64 a0.Time), (.int .i64 a0.Chance.N), (.int .i64 a0.Chance.Of), (.int .i64 a0.Grid), s0, (.bool a0.Withdrawn), (.int .i64 a0.Before)])] M (fun s M' => s = (.str r) ∧ M' = M) := by
  refine CallsM.plain Tryd.func93 rfl rfl rfl (show Run _ _ _ (alert_sheet_end_post r) _ _ _ from ?_)
  rw [alert_sheet_end] at h
  replace hs0 := hs0.mono (rdLe_frozen M) (fun _ _ h => h)
  have hH : Has (ro (frozen M)) (frozen M) [tb0, tb1, tb2] := Has.ofFix hfx.frozen
  refine Run.seq (Run.region ?_)
  refine Run.opX wantS_none rfl (ExG.box rfl rfl hH) ?_
  rintro _ M26 ⟨b25, rfl, hH26⟩
  refine Run.opG wantS_none (ex_assign rfl) rfl ?_
  refine Run.opsEnd (Run.seq (Run.region ?_))
  obtain ⟨r28, hr28, h⟩ := bnd_some h
  refine Run.callP wantS_none (ex_call rfl mkk101 cal101) rfl (alert_line_ok F [101, 110, 100] [] .nils _ _ slc_nil (fixH hH26 (List.mem_of_getElem? (i := 1) rfl) (List.mem_of_getElem? (i := 2) rfl) (List.mem_of_getElem? (i := 3) rfl)) hr28) ?_
  refine Run.opG wantS_none (ex_assign rfl) rfl ?_
  refine Run.opsEnd ?_
  cases h
  exact Run.ret Tryd.func93 rfl (res_tmp rfl res_nil) rfl

abbrev alert_textOf_post (r : (List UInt8)) : SV → Mem → Prop := fun s _ => s = (.str r)

def alert_textOf_8 (F : Nat) : Nat → (List UInt8) → Int → Int → Int → Int → Int → (List Int) → Bool → Int → (List Int) → Option ((List UInt8))
  | 0, _, _, _, _, _, _, _, _, _, _ => none
  | N + 1, v24_0_x0_0, v24_0_x0_1, v24_0_x0_2, v24_0_x0_3, v24_0_x0_4, v24_0_x0_5, v24_0_x0_6, v24_0_x0_7, v24_0_x0_8, l102 =>
    bnd (neB l102) fun u105 =>
    bnd (strOf l102) fun z106 =>
    some z106

theorem alert_textOf_8_ok (F : Nat) : ∀ (N : Nat), ∀ (v24_0_x0_0 : (List UInt8)) (v24_0_x0_1 v24_0_x0_2 v24_0_x0_3 v24_0_x0_4 v24_0_x0_5 : Int) (v24_0_x0_6 : (List Int)) (v24_0_x0_7 : Bool) (v24_0_x0_8 : Int) (l102 : (List Int)) (sv24_0_x0_6 : SV) (b36 : Pos) (s102 : SV) (Fr : Rd) (M : Mem) (r : (List UInt8)) (hv24_0_x0_6 : Slc Fr 1 (FlatR enc3) sv24_0_x0_6 v24_0_x0_6) (hH : Has Fr M [.obj b36 (.row 124 .whole [(.ptr b36 0), s102]), .vec 5 1 l102.length s102 (l102.flatMap enc5), tb0, tb1, tb2]), alert_textOf_8 F N v24_0_x0_0 v24_0_x0_1 v24_0_x0_2 v24_0_x0_3 v24_0_x0_4 v24_0_x0_5 v24_0_x0_6 v24_0_x0_7 v24_0_x0_8 l102 = some r → Run Tryd.prog ⟨⟨75, [], none⟩, []⟩ 33 (alert_textOf_post r) [(5, (.ptr b36 0)), (24, (.agg [(.fn (.func 87) [(.agg [(.str v24_0_x0_0), (.int .i64 v24_0_x0_1), (.int .i64 v24_0_x0_2), (.int .i64 v24_0_x0_3), (.int .i64 v24_0_x0_4), (.int .i64 v24_0_x0_5), sv24_0_x0_6, (.bool v24_0_x0_7), (.int .i64 v24_0_x0_8)])] []), (.fn (.func 88) [(.agg [(.str v24_0_x0_0), (.int .i64 v24_0_x0_1), (.int .i64 v24_0_x0_2), (.int .i64 v24_0_x0_3), (.int .i64 v24_0_x0_4), (.int .i64 v24_0_x0_5), sv24_0_x0_6, (.bool v24_0_x0_7), (.int .i64 v24_0_x0_8)])] []), (.fn (.func 89) [(.agg [(.str v24_0_x0_0), (.int .i64 v24_0_x0_1), (.int .i64 v24_0_x0_2), (.int .i64 v24_0_x0_3), (.int .i64 v24_0_x0_4), (.int .i64 v24_0_x0_5), sv24_0_x0_6, (.bool v24_0_x0_7), (.int .i64 v24_0_x0_8)])] []), (.fn (.func 90) [(.agg [(.str v24_0_x0_0), (.int .i64 v24_0_x0_1), (.int .i64 v24_0_x0_2), (.int .i64 v24_0_x0_3), (.int .i64 v24_0_x0_4), (.int .i64 v24_0_x0_5), sv24_0_x0_6, (.bool v24_0_x0_7), (.int .i64 v24_0_x0_8)])] []), (.fn (.func 91) [(.agg [(.str v24_0_x0_0), (.int .i64 v24_0_x0_1), (.int .i64 v24_0_x0_2), (.int .i64 v24_0_x0_3), (.int .i64 v24_0_x0_4), (.int .i64 v24_0_x0_5), sv24_0_x0_6, (.bool v24_0_x0_7), (.int .i64 v24_0_x0_8)])] []), (.fn (.func 92) [(.agg [(.str v24_0_x0_0), (.int .i64 v24_0_x0_1), (.int .i64 v24_0_x0_2), (.int .i64 v24_0_x0_3), (.int .i64 v24_0_x0_4), (.int .i64 v24_0_x0_5), sv24_0_x0_6, (.bool v24_0_x0_7), (.int .i64 v24_0_x0_8)])] []), (.fn (.func 93) [(.agg [(.str v24_0_x0_0), (.int .i64 v24_0_x0_1), (.int .i64 v24_0_x0_2), (.int .i64 v24_0_x0_3), (.int .i64 v24_0_x0_4), (.int .i64 v24_0_x0_5), sv24_0_x0_6, (.bool v24_0_x0_7), (.int .i64 v24_0_x0_8)])] [])])), (25, (.int .i64 7))] [codeC Tryd.prog 75 [1, 1, 1, 1, 0, 1, 0, 0], loopC Tryd.prog 75 [1, 1, 1, 1, 0, 1, 0, 0], .inBlock 0, codeC Tryd.prog 75 [1, 1, 1, 1, 1]] M := by
  intro N
  induction N with
  | zero =>
    intro v24_0_x0_0 v24_0_x0_1 v24_0_x0_2 v24_0_x0_3 v24_0_x0_4 v24_0_x0_5 v24_0_x0_6 v24_0_x0_7 v24_0_x0_8 l102 sv24_0_x0_6 b36 s102 Fr M r hv24_0_x0_6 hH h
    simp [alert_textOf_8] at h
  | succ N ih =>
    intro v24_0_x0_0 v24_0_x0_1 v24_0_x0_2 v24_0_x0_3 v24_0_x0_4 v24_0_x0_5 v24_0_x0_6 v24_0_x0_7 v24_0_x0_8 l102 sv24_0_x0_6 b36 s102 Fr M r hv24_0_x0_6 hH h
    rw [alert_textOf_8] at h
    refine Run.seq (Run.region ?_)
    refine Run.opG wantS_none (ex_lss rfl rfl) rfl ?_
    refine Run.opsEnd (Run.seq ?_)
    refine Run.condF' rfl rfl ?_
    refine Run.exit rfl (Run.seq (Run.region ?_))
    refine Run.enter wantS_none (ex_call rfl mkk95 cal95) Tryd.func95 rfl rfl ?_
    refine Run.seq (Run.region ?_)
    refine Run.opG wantS_none (ex_assign rfl) rfl ?_
    refine Run.opsEnd (Run.seq ?_)
    refine Run.drawG plan95_1_0 ?_
    refine DrawG.fl rfl (ev_ex wantS_none (ex_move rfl)) rfl ?_
    refine DrawG.fl rfl (ev_ex wantS_none (ex_nilP rfl)) rfl ?_
    refine DrawG.fl rfl (ev_ex wantS_none (ex_fieldAddr rfl off124_1)) rfl ?_
    refine DrawG.fl rfl (ev_ex wantS_none (ex_load1 rfl (hH.cells (i := 0) rfl 1 rfl) rdLe_rfl agg108)) rfl ?_
    obtain ⟨u105, hu105, h⟩ := bnd_some h
    obtain ⟨p105, hb105, hx105⟩ := vec_data (P := Tryd.prog) hH (i := 1) rfl (neB_some hu105)
    refine DrawG.fl rfl (ev_ex wantS_none (hx105 _ _ _ _ rfl)) rfl ?_
    refine DrawG.fl rfl (ev_ex wantS_none (ex_move rfl)) rfl ?_
    refine DrawG.fl rfl (ev_ex wantS_none (ex_nilP rfl)) rfl ?_
    refine DrawG.fl rfl (ev_ex wantS_none (ex_fieldAddr rfl off124_1)) rfl ?_
    refine DrawG.fl rfl (ev_ex wantS_none (ex_load1 rfl (hH.cells (i := 0) rfl 1 rfl) rdLe_rfl agg108)) rfl ?_
    refine DrawG.fl rfl (ev_ex wantS_none (ex_len' rfl (hH.slc (i := 1) rfl enc5_len) lenk108)) rfl ?_
    obtain ⟨z106, hz106, h⟩ := bnd_some h
    refine DrawG.opX rfl wantS_none rfl (ExG.uString (enc := enc5) (fun _ => rfl) rfl rfl hH (i := 1) rfl hb105 pte135 clo5 hz106) ?_
    rintro _ M107 ⟨rfl, (hH107 : Has Fr M107 [.obj b36 (.row 124 .whole [(.ptr b36 0), s102]), .vec 0 0 0 .nils [], tb0, tb1, tb2])⟩
    refine ⟨st_nil, ?_⟩
    refine DrawG.fl rfl (ev_ex wantS_none (ex_assign rfl)) rfl ?_
    refine DrawG.sync ?_
    refine DrawG.nil ?_
    refine Run.retTo Tryd.func95 rfl (res_tmp rfl res_nil) rfl ?_
    refine Run.opG wantS_none (ex_assign rfl) rfl ?_
    refine Run.opsEnd ?_
    cases h
    exact Run.ret Tryd.func75 rfl (res_tmp rfl res_nil) rfl

def alert_textOf_7 (F : Nat) : Nat → (List UInt8) → Int → Int → Int → Int → Int → (List Int) → Bool → Int → (List Int) → Option ((List UInt8))
  | 0, _, _, _, _, _, _, _, _, _, _ => none
  | N + 1, v24_0_x0_0, v24_0_x0_1, v24_0_x0_2, v24_0_x0_3, v24_0_x0_4, v24_0_x0_5, v24_0_x0_6, v24_0_x0_7, v24_0_x0_8, l93 =>
    bnd (alert_sheet_end F (S_api_Alert.mk v24_0_x0_0 v24_0_x0_1 v24_0_x0_2 (S_api_Chance.mk v24_0_x0_3 v24_0_x0_4) v24_0_x0_5 v24_0_x0_6 v24_0_x0_7 v24_0_x0_8)) fun r97 =>
    bnd (apd 1 l93 (bytesI r97)) fun l101 =>
    alert_textOf_8 F F v24_0_x0_0 v24_0_x0_1 v24_0_x0_2 v24_0_x0_3 v24_0_x0_4 v24_0_x0_5 v24_0_x0_6 v24_0_x0_7 v24_0_x0_8 l101

theorem alert_textOf_7_ok (F : Nat) : ∀ (N : Nat), ∀ (v24_0_x0_0 : (List UInt8)) (v24_0_x0_1 v24_0_x0_2 v24_0_x0_3 v24_0_x0_4 v24_0_x0_5 : Int) (v24_0_x0_6 : (List Int)) (v24_0_x0_7 : Bool) (v24_0_x0_8 : Int) (l93 : (List Int)) (sv24_0_x0_6 : SV) (b36 : Pos) (s93 : SV) (Fr : Rd) (M : Mem) (r : (List UInt8)) (hv24_0_x0_6 : Slc Fr 1 (FlatR enc3) sv24_0_x0_6 v24_0_x0_6) (hH : Has Fr M [.obj b36 (.row 124 .whole [(.ptr b36 0), s93]), .vec 5 1 l93.length s93 (l93.flatMap enc5), tb0, tb1, tb2]), alert_textOf_7 F N v24_0_x0_0 v24_0_x0_1 v24_0_x0_2 v24_0_x0_3 v24_0_x0_4 v24_0_x0_5 v24_0_x0_6 v24_0_x0_7 v24_0_x0_8 l93 = some r → Run Tryd.prog ⟨⟨75, [], none⟩, []⟩ 33 (alert_textOf_post r) [(5, (.ptr b36 0)), (24, (.agg [(.fn (.func 87) [(.agg [(.str v24_0_x0_0), (.int .i64 v24_0_x0_1), (.int .i64 v24_0_x0_2), (.int .i64 v24_0_x0_3), (.int .i64 v24_0_x0_4), (.int .i64 v24_0_x0_5), sv24_0_x0_6, (.bool v24_0_x0_7), (.int .i64 v24_0_x0_8)])] []), (.fn (.func 88) [(.agg [(.str v24_0_x0_0), (.int .i64 v24_0_x0_1), (.int .i64 v24_0_x0_2), (.int .i64 v24_0_x0_3), (.int .i64 v24_0_x0_4), (.int .i64 v24_0_x0_5), sv24_0_x0_6, (.bool v24_0_x0_7), (.int .i64 v24_0_x0_8)])] []), (.fn (.func 89) [(.agg [(.str v24_0_x0_0), (.int .i64 v24_0_x0_1), (.int .i64 v24_0_x0_2), (.int .i64 v24_0_x0_3), (.int .i64 v24_0_x0_4), (.int .i64 v24_0_x0_5), sv24_0_x0_6, (.bool v24_0_x0_7), (.int .i64 v24_0_x0_8)])] []), (.fn (.func 90) [(.agg [(.str v24_0_x0_0), (.int .i64 v24_0_x0_1), (.int .i64 v24_0_x0_2), (.int .i64 v24_0_x0_3), (.int .i64 v24_0_x0_4), (.int .i64 v24_0_x0_5), sv24_0_x0_6, (.bool v24_0_x0_7), (.int .i64 v24_0_x0_8)])] []), (.fn (.func 91) [(.agg [(.str v24_0_x0_0), (.int .i64 v24_0_x0_1), (.int .i64 v24_0_x0_2), (.int .i64 v24_0_x0_3), (.int .i64 v24_0_x0_4), (.int .i64 v24_0_x0_5), sv24_0_x0_6, (.bool v24_0_x0_7), (.int .i64 v24_0_x0_8)])] []), (.fn (.func 92) [(.agg [(.str v24_0_x0_0), (.int .i64 v24_0_x0_1), (.int .i64 v24_0_x0_2), (.int .i64 v24_0_x0_3), (.int .i64 v24_0_x0_4), (.int .i64 v24_0_x0_5), sv24_0_x0_6, (.bool v24_0_x0_7), (.int .i64 v24_0_x0_8)])] []), (.fn (.func 93) [(.agg [(.str v24_0_x0_0), (.int .i64 v24_0_x0_1), (.int .i64 v24_0_x0_2), (.int .i64 v24_0_x0_3), (.int .i64 v24_0_x0_4), (.int .i64 v24_0_x0_5), sv24_0_x0_6, (.bool v24_0_x0_7), (.int .i64 v24_0_x0_8)])] [])])), (25, (.int .i64 6))] [codeC Tryd.prog 75 [1, 1, 1, 1, 0, 1, 0, 0], loopC Tryd.prog 75 [1, 1, 1, 1, 0, 1, 0, 0], .inBlock 0, codeC Tryd.prog 75 [1, 1, 1, 1, 1]] M := by
  intro N
  induction N with
  | zero =>
    intro v24_0_x0_0 v24_0_x0_1 v24_0_x0_2 v24_0_x0_3 v24_0_x0_4 v24_0_x0_5 v24_0_x0_6 v24_0_x0_7 v24_0_x0_8 l93 sv24_0_x0_6 b36 s93 Fr M r hv24_0_x0_6 hH h
    simp [alert_textOf_7] at h
  | succ N ih =>
    intro v24_0_x0_0 v24_0_x0_1 v24_0_x0_2 v24_0_x0_3 v24_0_x0_4 v24_0_x0_5 v24_0_x0_6 v24_0_x0_7 v24_0_x0_8 l93 sv24_0_x0_6 b36 s93 Fr M r hv24_0_x0_6 hH h
    rw [alert_textOf_7] at h
    refine Run.seq (Run.region ?_)
    refine Run.opG wantS_none (ex_lss rfl rfl) rfl ?_
    refine Run.opsEnd (Run.seq ?_)
    refine Run.condT' rfl rfl ?_
    refine Run.skip (Run.seq (Run.block (Run.seq (Run.region ?_))))
    refine Run.opG wantS_none (ex_idxA (j := 6) rfl rfl wha121 rfl (part_one agg120 rfl)) rfl ?_
    refine Run.opG wantS_none (ex_assign rfl) rfl ?_
    refine Run.opsEnd (Run.region ?_)
    refine Run.opG wantS_none (ex_move rfl) rfl ?_
    obtain ⟨r97, hr97, h⟩ := bnd_some h
    refine Run.callP wantS_none (ex_closure rfl rfl mkk93 cal93) rfl (alert_sheet_end_ok F (S_api_Alert.mk v24_0_x0_0 v24_0_x0_1 v24_0_x0_2 (S_api_Chance.mk v24_0_x0_3 v24_0_x0_4) v24_0_x0_5 v24_0_x0_6 v24_0_x0_7 v24_0_x0_8) sv24_0_x0_6 _ _ (hH.slcF hv24_0_x0_6) (fixH hH (List.mem_of_getElem? (i := 2) rfl) (List.mem_of_getElem? (i := 3) rfl) (List.mem_of_getElem? (i := 4) rfl)) hr97) ?_
    refine Run.enter wantS_none (ex_call rfl mkk94 cal94) Tryd.func94 rfl rfl ?_
    refine Run.seq (Run.region ?_)
    refine Run.opG wantS_none (ex_assign rfl) rfl ?_
    refine Run.opG wantS_none (ex_assign rfl) rfl ?_
    refine Run.opsEnd (Run.seq (Run.region ?_))
    refine Run.opG wantS_none (ex_move rfl) rfl ?_
    refine Run.enter wantS_none (ex_call rfl mkk102 cal102) Tryd.func102 rfl rfl ?_
    refine Run.seq (Run.region ?_)
    refine Run.opG wantS_none (ex_move rfl) rfl ?_
    refine Run.opG wantS_none (ex_nilP rfl) rfl ?_
    refine Run.opG wantS_none (ex_fieldAddr rfl off124_0) rfl ?_
    refine Run.opG wantS_none (ex_load1 rfl (hH.cells (i := 0) rfl 0 rfl) rdLe_rfl agg122) rfl ?_
    refine Run.opG wantS_none (ex_ptrPN rfl rfl eqk122) rfl ?_
    refine Run.opsEnd ?_
    refine Run.condF' rfl rfl ?_
    refine Run.seq (Run.region ?_)
    refine Run.opG wantS_none (ex_move rfl) rfl ?_
    refine Run.opG wantS_none (ex_nilP rfl) rfl ?_
    refine Run.opG wantS_none (ex_fieldAddr rfl off124_0) rfl ?_
    refine Run.opG wantS_none (ex_load1 rfl (hH.cells (i := 0) rfl 0 rfl) rdLe_rfl agg122) rfl ?_
    refine Run.opG wantS_none (ex_move rfl) rfl ?_
    refine Run.opG wantS_none (ex_ptrSamen rfl rfl pte122 inf124) rfl ?_
    refine Run.opsEnd ?_
    refine Run.condF' rfl rfl ?_
    refine Run.skip ?_
    refine Run.fallTo Tryd.func102 rfl res_nil rfl ?_
    refine Run.opsEnd (Run.seq (Run.region ?_))
    refine Run.opG wantS_none (ex_move rfl) rfl ?_
    refine Run.opG wantS_none (ex_move rfl) rfl ?_
    refine Run.opG wantS_none (ex_nilP rfl) rfl ?_
    refine Run.opG wantS_none (ex_fieldAddr rfl off124_1) rfl ?_
    refine Run.opG wantS_none (ex_load1 rfl (hH.cells (i := 0) rfl 1 rfl) rdLe_rfl agg108) rfl ?_
    refine Run.opG wantS_none (ex_move rfl) rfl ?_
    obtain ⟨l101, hl101, h⟩ := bnd_some h
    refine Run.opX wantS_none rfl (ExG.append rfl rfl hH (i := 1) rfl enc5_len rfl enc5_ones appt108_9 rfl (str_lenZ rfl _) (str_first (fun _ => rfl) _) hl101) ?_
    rintro s101 M103 (hH103 : Has Fr M103 [.obj b36 (.row 124 .whole [(.ptr b36 0), s93]), .vec 5 1 l101.length s101 (l101.flatMap enc5), tb0, tb1, tb2])
    refine Run.opG wantS_none (ex_nilP rfl) rfl ?_
    refine Run.opG wantS_none (ex_fieldAddr rfl off124_1) rfl ?_
    refine Run.opX wantS_none rfl (ExG.storeC (c' := [(.ptr b36 0), s101]) rfl rfl (cells_one (vec_one hH103 (i := 1) rfl)) hH103 (i := 0) rfl sz108 rfl rfl rfl (ones_cons (vec_one hH103 (i := 1) rfl) ones_nil) rfl) ?_
    rintro _ M104 ⟨rfl, (hH104 : Has Fr M104 [.obj b36 (.row 124 .whole [(.ptr b36 0), s101]), .vec 5 1 l101.length s101 (l101.flatMap enc5), tb0, tb1, tb2])⟩
    refine Run.opsEnd (Run.seq (Run.region ?_))
    refine Run.opG wantS_none (ex_move rfl) rfl ?_
    refine Run.opG wantS_none (ex_lenS rfl lenk9) rfl ?_
    refine Run.opG wantS_none (ex_assign rfl) rfl ?_
    refine Run.opG wantS_none (ex_assign rfl) rfl ?_
    refine Run.opsEnd ?_
    refine Run.retTo Tryd.func94 rfl (res_tmp rfl (res_tmp rfl res_nil)) rfl ?_
    refine Run.opsEnd (Run.inBlock (Run.region ?_))
    refine Run.opG wantS_none (ex_add rfl rfl) rfl ?_
    refine Run.opG wantS_none (ex_move rfl) rfl ?_
    refine Run.opsEnd (Run.inLoop ?_)
    exact Run.pick [5, 24, 25] (alert_textOf_8_ok F F v24_0_x0_0 v24_0_x0_1 v24_0_x0_2 v24_0_x0_3 v24_0_x0_4 v24_0_x0_5 v24_0_x0_6 v24_0_x0_7 v24_0_x0_8 l101 sv24_0_x0_6 b36 s101 _ _ _ hv24_0_x0_6 hH104 h)

def alert_textOf_6 (F : Nat) : Nat → (List UInt8) → Int → Int → Int → Int → Int → (List Int) → Bool → Int → (List Int) → Option ((List UInt8))
  | 0, _, _, _, _, _, _, _, _, _, _ => none
  | N + 1, v24_0_x0_0, v24_0_x0_1, v24_0_x0_2, v24_0_x0_3, v24_0_x0_4, v24_0_x0_5, v24_0_x0_6, v24_0_x0_7, v24_0_x0_8, l84 =>
    bnd (alert_sheet_before F (S_api_Alert.mk v24_0_x0_0 v24_0_x0_1 v24_0_x0_2 (S_api_Chance.mk v24_0_x0_3 v24_0_x0_4) v24_0_x0_5 v24_0_x0_6 v24_0_x0_7 v24_0_x0_8)) fun r88 =>
    bnd (apd 1 l84 (bytesI r88)) fun l92 =>
    alert_textOf_7 F F v24_0_x0_0 v24_0_x0_1 v24_0_x0_2 v24_0_x0_3 v24_0_x0_4 v24_0_x0_5 v24_0_x0_6 v24_0_x0_7 v24_0_x0_8 l92

theorem alert_textOf_6_ok (F : Nat) : ∀ (N : Nat), ∀ (v24_0_x0_0 : (List UInt8)) (v24_0_x0_1 v24_0_x0_2 v24_0_x0_3 v24_0_x0_4 v24_0_x0_5 : Int) (v24_0_x0_6 : (List Int)) (v24_0_x0_7 : Bool) (v24_0_x0_8 : Int) (l84 : (List Int)) (sv24_0_x0_6 : SV) (b36 : Pos) (s84 : SV) (Fr : Rd) (M : Mem) (r : (List UInt8)) (hv24_0_x0_6 : Slc Fr 1 (FlatR enc3) sv24_0_x0_6 v24_0_x0_6) (hH : Has Fr M [.obj b36 (.row 124 .whole [(.ptr b36 0), s84]), .vec 5 1 l84.length s84 (l84.flatMap enc5), tb0, tb1, tb2]), alert_textOf_6 F N v24_0_x0_0 v24_0_x0_1 v24_0_x0_2 v24_0_x0_3 v24_0_x0_4 v24_0_x0_5 v24_0_x0_6 v24_0_x0_7 v24_0_x0_8 l84 = some r → Run Tryd.prog ⟨⟨75, [], none⟩, []⟩ 33 (alert_textOf_post r) [(5, (.ptr b36 0)), (24, (.agg [(.fn (.func 87) [(.agg [(.str v24_0_x0_0), (.int .i64 v24_0_x0_1), (.int .i64 v24_0_x0_2), (.int .i64 v24_0_x0_3), (.int .i64 v24_0_x0_4), (.int .i64 v24_0_x0_5), sv24_0_x0_6, (.bool v24_0_x0_7), (.int .i64 v24_0_x0_8)])] []), (.fn (.func 88) [(.agg [(.str v24_0_x0_0), (.int .i64 v24_0_x0_1), (.int .i64 v24_0_x0_2), (.int .i64 v24_0_x0_3), (.int .i64 v24_0_x0_4), (.int .i64 v24_0_x0_5), sv24_0_x0_6, (.bool v24_0_x0_7), (.int .i64 v24_0_x0_8)])] []), (.fn (.func 89) [(.agg [(.str v24_0_x0_0), (.int .i64 v24_0_x0_1), (.int .i64 v24_0_x0_2), (.int .i64 v24_0_x0_3), (.int .i64 v24_0_x0_4), (.int .i64 v24_0_x0_5), sv24_0_x0_6, (.bool v24_0_x0_7), (.int .i64 v24_0_x0_8)])] []), (.fn (.func 90) [(.agg [(.str v24_0_x0_0), (.int .i64 v24_0_x0_1), (.int .i64 v24_0_x0_2), (.int .i64 v24_0_x0_3), (.int .i64 v24_0_x0_4), (.int .i64 v24_0_x0_5), sv24_0_x0_6, (.bool v24_0_x0_7), (.int .i64 v24_0_x0_8)])] []), (.fn (.func 91) [(.agg [(.str v24_0_x0_0), (.int .i64 v24_0_x0_1), (.int .i64 v24_0_x0_2), (.int .i64 v24_0_x0_3), (.int .i64 v24_0_x0_4), (.int .i64 v24_0_x0_5), sv24_0_x0_6, (.bool v24_0_x0_7), (.int .i64 v24_0_x0_8)])] []), (.fn (.func 92) [(.agg [(.str v24_0_x0_0), (.int .i64 v24_0_x0_1), (.int .i64 v24_0_x0_2), (.int .i64 v24_0_x0_3), (.int .i64 v24_0_x0_4), (.int .i64 v24_0_x0_5), sv24_0_x0_6, (.bool v24_0_x0_7), (.int .i64 v24_0_x0_8)])] []), (.fn (.func 93) [(.agg [(.str v24_0_x0_0), (.int .i64 v24_0_x0_1), (.int .i64 v24_0_x0_2), (.int .i64 v24_0_x0_3), (.int .i64 v24_0_x0_4), (.int .i64 v24_0_x0_5), sv24_0_x0_6, (.bool v24_0_x0_7), (.int .i64 v24_0_x0_8)])] [])])), (25, (.int .i64 5))] [codeC Tryd.prog 75 [1, 1, 1, 1, 0, 1, 0, 0], loopC Tryd.prog 75 [1, 1, 1, 1, 0, 1, 0, 0], .inBlock 0, codeC Tryd.prog 75 [1, 1, 1, 1, 1]] M := by
  intro N
  induction N with
  | zero =>
    intro v24_0_x0_0 v24_0_x0_1 v24_0_x0_2 v24_0_x0_3 v24_0_x0_4 v24_0_x0_5 v24_0_x0_6 v24_0_x0_7 v24_0_x0_8 l84 sv24_0_x0_6 b36 s84 Fr M r hv24_0_x0_6 hH h
    simp [alert_textOf_6] at h
  | succ N ih =>
    intro v24_0_x0_0 v24_0_x0_1 v24_0_x0_2 v24_0_x0_3 v24_0_x0_4 v24_0_x0_5 v24_0_x0_6 v24_0_x0_7 v24_0_x0_8 l84 sv24_0_x0_6 b36 s84 Fr M r hv24_0_x0_6 hH h
    rw [alert_textOf_6] at h
    refine Run.seq (Run.region ?_)
    refine Run.opG wantS_none (ex_lss rfl rfl) rfl ?_
    refine Run.opsEnd (Run.seq ?_)
    refine Run.condT' rfl rfl ?_
    refine Run.skip (Run.seq (Run.block (Run.seq (Run.region ?_))))
    refine Run.opG wantS_none (ex_idxA (j := 5) rfl rfl wha121 rfl (part_one agg120 rfl)) rfl ?_
    refine Run.opG wantS_none (ex_assign rfl) rfl ?_
    refine Run.opsEnd (Run.region ?_)
    refine Run.opG wantS_none (ex_move rfl) rfl ?_
    obtain ⟨r88, hr88, h⟩ := bnd_some h
    refine Run.callP wantS_none (ex_closure rfl rfl mkk92 cal92) rfl (alert_sheet_before_ok F (S_api_Alert.mk v24_0_x0_0 v24_0_x0_1 v24_0_x0_2 (S_api_Chance.mk v24_0_x0_3 v24_0_x0_4) v24_0_x0_5 v24_0_x0_6 v24_0_x0_7 v24_0_x0_8) sv24_0_x0_6 _ _ (hH.slcF hv24_0_x0_6) (fixH hH (List.mem_of_getElem? (i := 2) rfl) (List.mem_of_getElem? (i := 3) rfl) (List.mem_of_getElem? (i := 4) rfl)) hr88) ?_
    refine Run.enter wantS_none (ex_call rfl mkk94 cal94) Tryd.func94 rfl rfl ?_
    refine Run.seq (Run.region ?_)
    refine Run.opG wantS_none (ex_assign rfl) rfl ?_
    refine Run.opG wantS_none (ex_assign rfl) rfl ?_
    refine Run.opsEnd (Run.seq (Run.region ?_))
    refine Run.opG wantS_none (ex_move rfl) rfl ?_
    refine Run.enter wantS_none (ex_call rfl mkk102 cal102) Tryd.func102 rfl rfl ?_
    refine Run.seq (Run.region ?_)
    refine Run.opG wantS_none (ex_move rfl) rfl ?_
    refine Run.opG wantS_none (ex_nilP rfl) rfl ?_
    refine Run.opG wantS_none (ex_fieldAddr rfl off124_0) rfl ?_
    refine Run.opG wantS_none (ex_load1 rfl (hH.cells (i := 0) rfl 0 rfl) rdLe_rfl agg122) rfl ?_
    refine Run.opG wantS_none (ex_ptrPN rfl rfl eqk122) rfl ?_
    refine Run.opsEnd ?_
    refine Run.condF' rfl rfl ?_
    refine Run.seq (Run.region ?_)
    refine Run.opG wantS_none (ex_move rfl) rfl ?_
    refine Run.opG wantS_none (ex_nilP rfl) rfl ?_
    refine Run.opG wantS_none (ex_fieldAddr rfl off124_0) rfl ?_
    refine Run.opG wantS_none (ex_load1 rfl (hH.cells (i := 0) rfl 0 rfl) rdLe_rfl agg122) rfl ?_
    refine Run.opG wantS_none (ex_move rfl) rfl ?_
    refine Run.opG wantS_none (ex_ptrSamen rfl rfl pte122 inf124) rfl ?_
    refine Run.opsEnd ?_
    refine Run.condF' rfl rfl ?_
    refine Run.skip ?_
    refine Run.fallTo Tryd.func102 rfl res_nil rfl ?_
    refine Run.opsEnd (Run.seq (Run.region ?_))
    refine Run.opG wantS_none (ex_move rfl) rfl ?_
    refine Run.opG wantS_none (ex_move rfl) rfl ?_
    refine Run.opG wantS_none (ex_nilP rfl) rfl ?_
    refine Run.opG wantS_none (ex_fieldAddr rfl off124_1) rfl ?_
    refine Run.opG wantS_none (ex_load1 rfl (hH.cells (i := 0) rfl 1 rfl) rdLe_rfl agg108) rfl ?_
    refine Run.opG wantS_none (ex_move rfl) rfl ?_
    obtain ⟨l92, hl92, h⟩ := bnd_some h
    refine Run.opX wantS_none rfl (ExG.append rfl rfl hH (i := 1) rfl enc5_len rfl enc5_ones appt108_9 rfl (str_lenZ rfl _) (str_first (fun _ => rfl) _) hl92) ?_
    rintro s92 M94 (hH94 : Has Fr M94 [.obj b36 (.row 124 .whole [(.ptr b36 0), s84]), .vec 5 1 l92.length s92 (l92.flatMap enc5), tb0, tb1, tb2])
    refine Run.opG wantS_none (ex_nilP rfl) rfl ?_
    refine Run.opG wantS_none (ex_fieldAddr rfl off124_1) rfl ?_
    refine Run.opX wantS_none rfl (ExG.storeC (c' := [(.ptr b36 0), s92]) rfl rfl (cells_one (vec_one hH94 (i := 1) rfl)) hH94 (i := 0) rfl sz108 rfl rfl rfl (ones_cons (vec_one hH94 (i := 1) rfl) ones_nil) rfl) ?_
    rintro _ M95 ⟨rfl, (hH95 : Has Fr M95 [.obj b36 (.row 124 .whole [(.ptr b36 0), s92]), .vec 5 1 l92.length s92 (l92.flatMap enc5), tb0, tb1, tb2])⟩
    refine Run.opsEnd (Run.seq (Run.region ?_))
    refine Run.opG wantS_none (ex_move rfl) rfl ?_
    refine Run.opG wantS_none (ex_lenS rfl lenk9) rfl ?_
    refine Run.opG wantS_none (ex_assign rfl) rfl ?_
    refine Run.opG wantS_none (ex_assign rfl) rfl ?_
    refine Run.opsEnd ?_
    refine Run.retTo Tryd.func94 rfl (res_tmp rfl (res_tmp rfl res_nil)) rfl ?_
    refine Run.opsEnd (Run.inBlock (Run.region ?_))
    refine Run.opG wantS_none (ex_add rfl rfl) rfl ?_
    refine Run.opG wantS_none (ex_move rfl) rfl ?_
    refine Run.opsEnd (Run.inLoop ?_)
    exact Run.pick [5, 24, 25] (alert_textOf_7_ok F F v24_0_x0_0 v24_0_x0_1 v24_0_x0_2 v24_0_x0_3 v24_0_x0_4 v24_0_x0_5 v24_0_x0_6 v24_0_x0_7 v24_0_x0_8 l92 sv24_0_x0_6 b36 s92 _ _ _ hv24_0_x0_6 hH95 h)

def alert_textOf_5 (F : Nat) : Nat → (List UInt8) → Int → Int → Int → Int → Int → (List Int) → Bool → Int → (List Int) → Option ((List UInt8))
  | 0, _, _, _, _, _, _, _, _, _, _ => none
  | N + 1, v24_0_x0_0, v24_0_x0_1, v24_0_x0_2, v24_0_x0_3, v24_0_x0_4, v24_0_x0_5, v24_0_x0_6, v24_0_x0_7, v24_0_x0_8, l75 =>
    bnd (alert_sheet_where F (S_api_Alert.mk v24_0_x0_0 v24_0_x0_1 v24_0_x0_2 (S_api_Chance.mk v24_0_x0_3 v24_0_x0_4) v24_0_x0_5 v24_0_x0_6 v24_0_x0_7 v24_0_x0_8)) fun r79 =>
    bnd (apd 1 l75 (bytesI r79)) fun l83 =>
    alert_textOf_6 F F v24_0_x0_0 v24_0_x0_1 v24_0_x0_2 v24_0_x0_3 v24_0_x0_4 v24_0_x0_5 v24_0_x0_6 v24_0_x0_7 v24_0_x0_8 l83

theorem alert_textOf_5_ok (F : Nat) : ∀ (N : Nat), ∀ (v24_0_x0_0 : (List UInt8)) (v24_0_x0_1 v24_0_x0_2 v24_0_x0_3 v24_0_x0_4 v24_0_x0_5 : Int) (v24_0_x0_6 : (List Int)) (v24_0_x0_7 : Bool) (v24_0_x0_8 : Int) (l75 : (List Int)) (sv24_0_x0_6 : SV) (b36 : Pos) (s75 : SV) (Fr : Rd) (M : Mem) (r : (List UInt8)) (hv24_0_x0_6 : Slc Fr 1 (FlatR enc3) sv24_0_x0_6 v24_0_x0_6) (hH : Has Fr M [.obj b36 (.row 124 .whole [(.ptr b36 0), s75]), .vec 5 1 l75.length s75 (l75.flatMap enc5), tb0, tb1, tb2]), alert_textOf_5 F N v24_0_x0_0 v24_0_x0_1 v24_0_x0_2 v24_0_x0_3 v24_0_x0_4 v24_0_x0_5 v24_0_x0_6 v24_0_x0_7 v24_0_x0_8 l75 = some r → Run Tryd.prog ⟨⟨75, [], none⟩, []⟩ 33 (alert_textOf_post r) [(5, (.ptr b36 0)), (24, (.agg [(.fn (.func 87) [(.agg [(.str v24_0_x0_0), (.int .i64 v24_0_x0_1), (.int .i64 v24_0_x0_2), (.int .i64 v24_0_x0_3), (.int .i64 v24_0_x0_4), (.int .i64 v24_0_x0_5), sv24_0_x0_6, (.bool v24_0_x0_7), (.int .i64 v24_0_x0_8)])] []), (.fn (.func 88) [(.agg [(.str v24_0_x0_0), (.int .i64 v24_0_x0_1), (.int .i64 v24_0_x0_2), (.int .i64 v24_0_x0_3), (.int .i64 v24_0_x0_4), (.int .i64 v24_0_x0_5), sv24_0_x0_6, (.bool v24_0_x0_7), (.int .i64 v24_0_x0_8)])] []), (.fn (.func 89) [(.agg [(.str v24_0_x0_0), (.int .i64 v24_0_x0_1), (.int .i64 v24_0_x0_2), (.int .i64 v24_0_x0_3), (.int .i64 v24_0_x0_4), (.int .i64 v24_0_x0_5), sv24_0_x0_6, (.bool v24_0_x0_7), (.int .i64 v24_0_x0_8)])] []), (.fn (.func 90) [(.agg [(.str v24_0_x0_0), (.int .i64 v24_0_x0_1), (.int .i64 v24_0_x0_2), (.int .i64 v24_0_x0_3), (.int .i64 v24_0_x0_4), (.int .i64 v24_0_x0_5), sv24_0_x0_6, (.bool v24_0_x0_7), (.int .i64 v24_0_x0_8)])] []), (.fn (.func 91) [(.agg [(.str v24_0_x0_0), (.int .i64 v24_0_x0_1), (.int .i64 v24_0_x0_2), (.int .i64 v24_0_x0_3), (.int .i64 v24_0_x0_4), (.int .i64 v24_0_x0_5), sv24_0_x0_6, (.bool v24_0_x0_7), (.int .i64 v24_0_x0_8)])] []), (.fn (.func 92) [(.agg [(.str v24_0_x0_0), (.int .i64 v24_0_x0_1), (.int .i64 v24_0_x0_2), (.int .i64 v24_0_x0_3), (.int .i64 v24_0_x0_4), (.int .i64 v24_0_x0_5), sv24_0_x0_6, (.bool v24_0_x0_7), (.int .i64 v24_0_x0_8)])] []), (.fn (.func 93) [(.agg [(.str v24_0_x0_0), (.int .i64 v24_0_x0_1), (.int .i64 v24_0_x0_2), (.int .i64 v24_0_x0_3), (.int .i64 v24_0_x0_4), (.int .i64 v24_0_x0_5), sv24_0_x0_6, (.bool v24_0_x0_7), (.int .i64 v24_0_x0_8)])] [])])), (25, (.int .i64 4))] [codeC Tryd.prog 75 [1, 1, 1, 1, 0, 1, 0, 0], loopC Tryd.prog 75 [1, 1, 1, 1, 0, 1, 0, 0], .inBlock 0, codeC Tryd.prog 75 [1, 1, 1, 1, 1]] M := by
  intro N
  induction N with
  | zero =>
    intro v24_0_x0_0 v24_0_x0_1 v24_0_x0_2 v24_0_x0_3 v24_0_x0_4 v24_0_x0_5 v24_0_x0_6 v24_0_x0_7 v24_0_x0_8 l75 sv24_0_x0_6 b36 s75 Fr M r hv24_0_x0_6 hH h
    simp [alert_textOf_5] at h
  | succ N ih =>
    intro v24_0_x0_0 v24_0_x0_1 v24_0_x0_2 v24_0_x0_3 v24_0_x0_4 v24_0_x0_5 v24_0_x0_6 v24_0_x0_7 v24_0_x0_8 l75 sv24_0_x0_6 b36 s75 Fr M r hv24_0_x0_6 hH h
    rw [alert_textOf_5] at h
    refine Run.seq (Run.region ?_)
    refine Run.opG wantS_none (ex_lss rfl rfl) rfl ?_
    refine Run.opsEnd (Run.seq ?_)
    refine Run.condT' rfl rfl ?_
    refine Run.skip (Run.seq (Run.block (Run.seq (Run.region ?_))))
    refine Run.opG wantS_none (ex_idxA (j := 4) rfl rfl wha121 rfl (part_one agg120 rfl)) rfl ?_
    refine Run.opG wantS_none (ex_assign rfl) rfl ?_
    refine Run.opsEnd (Run.region ?_)
    refine Run.opG wantS_none (ex_move rfl) rfl ?_
    obtain ⟨r79, hr79, h⟩ := bnd_some h
    refine Run.callP wantS_none (ex_closure rfl rfl mkk91 cal91) rfl (alert_sheet_where_ok F (S_api_Alert.mk v24_0_x0_0 v24_0_x0_1 v24_0_x0_2 (S_api_Chance.mk v24_0_x0_3 v24_0_x0_4) v24_0_x0_5 v24_0_x0_6 v24_0_x0_7 v24_0_x0_8) sv24_0_x0_6 _ _ (hH.slcF hv24_0_x0_6) (fixH hH (List.mem_of_getElem? (i := 2) rfl) (List.mem_of_getElem? (i := 3) rfl) (List.mem_of_getElem? (i := 4) rfl)) hr79) ?_
    refine Run.enter wantS_none (ex_call rfl mkk94 cal94) Tryd.func94 rfl rfl ?_
    refine Run.seq (Run.region ?_)
    refine Run.opG wantS_none (ex_assign rfl) rfl ?_
    refine Run.opG wantS_none (ex_assign rfl) rfl ?_
    refine Run.opsEnd (Run.seq (Run.region ?_))
    refine Run.opG wantS_none (ex_move rfl) rfl ?_
    refine Run.enter wantS_none (ex_call rfl mkk102 cal102) Tryd.func102 rfl rfl ?_
    refine Run.seq (Run.region ?_)
    refine Run.opG wantS_none (ex_move rfl) rfl ?_
    refine Run.opG wantS_none (ex_nilP rfl) rfl ?_
    refine Run.opG wantS_none (ex_fieldAddr rfl off124_0) rfl ?_
    refine Run.opG wantS_none (ex_load1 rfl (hH.cells (i := 0) rfl 0 rfl) rdLe_rfl agg122) rfl ?_
    refine Run.opG wantS_none (ex_ptrPN rfl rfl eqk122) rfl ?_
    refine Run.opsEnd ?_
    refine Run.condF' rfl rfl ?_
    refine Run.seq (Run.region ?_)
    refine Run.opG wantS_none (ex_move rfl) rfl ?_
    refine Run.opG wantS_none (ex_nilP rfl) rfl ?_
    refine Run.opG wantS_none (ex_fieldAddr rfl off124_0) rfl ?_
    refine Run.opG wantS_none (ex_load1 rfl (hH.cells (i := 0) rfl 0 rfl) rdLe_rfl agg122) rfl ?_
    refine Run.opG wantS_none (ex_move rfl) rfl ?_
    refine Run.opG wantS_none (ex_ptrSamen rfl rfl pte122 inf124) rfl ?_
    refine Run.opsEnd ?_
    refine Run.condF' rfl rfl ?_
    refine Run.skip ?_
    refine Run.fallTo Tryd.func102 rfl res_nil rfl ?_
    refine Run.opsEnd (Run.seq (Run.region ?_))
    refine Run.opG wantS_none (ex_move rfl) rfl ?_
    refine Run.opG wantS_none (ex_move rfl) rfl ?_
    refine Run.opG wantS_none (ex_nilP rfl) rfl ?_
    refine Run.opG wantS_none (ex_fieldAddr rfl off124_1) rfl ?_
    refine Run.opG wantS_none (ex_load1 rfl (hH.cells (i := 0) rfl 1 rfl) rdLe_rfl agg108) rfl ?_
    refine Run.opG wantS_none (ex_move rfl) rfl ?_
    obtain ⟨l83, hl83, h⟩ := bnd_some h
    refine Run.opX wantS_none rfl (ExG.append rfl rfl hH (i := 1) rfl enc5_len rfl enc5_ones appt108_9 rfl (str_lenZ rfl _) (str_first (fun _ => rfl) _) hl83) ?_
    rintro s83 M85 (hH85 : Has Fr M85 [.obj b36 (.row 124 .whole [(.ptr b36 0), s75]), .vec 5 1 l83.length s83 (l83.flatMap enc5), tb0, tb1, tb2])
    refine Run.opG wantS_none (ex_nilP rfl) rfl ?_
    refine Run.opG wantS_none (ex_fieldAddr rfl off124_1) rfl ?_
    refine Run.opX wantS_none rfl (ExG.storeC (c' := [(.ptr b36 0), s83]) rfl rfl (cells_one (vec_one hH85 (i := 1) rfl)) hH85 (i := 0) rfl sz108 rfl rfl rfl (ones_cons (vec_one hH85 (i := 1) rfl) ones_nil) rfl) ?_
    rintro _ M86 ⟨rfl, (hH86 : Has Fr M86 [.obj b36 (.row 124 .whole [(.ptr b36 0), s83]), .vec 5 1 l83.length s83 (l83.flatMap enc5), tb0, tb1, tb2])⟩
    refine Run.opsEnd (Run.seq (Run.region ?_))
    refine Run.opG wantS_none (ex_move rfl) rfl ?_
    refine Run.opG wantS_none (ex_lenS rfl lenk9) rfl ?_
    refine Run.opG wantS_none (ex_assign rfl) rfl ?_
    refine Run.opG wantS_none (ex_assign rfl) rfl ?_
    refine Run.opsEnd ?_
    refine Run.retTo Tryd.func94 rfl (res_tmp rfl (res_tmp rfl res_nil)) rfl ?_
    refine Run.opsEnd (Run.inBlock (Run.region ?_))
    refine Run.opG wantS_none (ex_add rfl rfl) rfl ?_
    refine Run.opG wantS_none (ex_move rfl) rfl ?_
    refine Run.opsEnd (Run.inLoop ?_)
    exact Run.pick [5, 24, 25] (alert_textOf_6_ok F F v24_0_x0_0 v24_0_x0_1 v24_0_x0_2 v24_0_x0_3 v24_0_x0_4 v24_0_x0_5 v24_0_x0_6 v24_0_x0_7 v24_0_x0_8 l83 sv24_0_x0_6 b36 s83 _ _ _ hv24_0_x0_6 hH86 h)

def alert_textOf_4 (F : Nat) : Nat → (List UInt8) → Int → Int → Int → Int → Int → (List Int) → Bool → Int → (List Int) → Option ((List UInt8))
  | 0, _, _, _, _, _, _, _, _, _, _ => none
  | N + 1, v24_0_x0_0, v24_0_x0_1, v24_0_x0_2, v24_0_x0_3, v24_0_x0_4, v24_0_x0_5, v24_0_x0_6, v24_0_x0_7, v24_0_x0_8, l66 =>
    bnd (alert_sheet_grid F (S_api_Alert.mk v24_0_x0_0 v24_0_x0_1 v24_0_x0_2 (S_api_Chance.mk v24_0_x0_3 v24_0_x0_4) v24_0_x0_5 v24_0_x0_6 v24_0_x0_7 v24_0_x0_8)) fun r70 =>
    bnd (apd 1 l66 (bytesI r70)) fun l74 =>
    alert_textOf_5 F F v24_0_x0_0 v24_0_x0_1 v24_0_x0_2 v24_0_x0_3 v24_0_x0_4 v24_0_x0_5 v24_0_x0_6 v24_0_x0_7 v24_0_x0_8 l74

theorem alert_textOf_4_ok (F : Nat) : ∀ (N : Nat), ∀ (v24_0_x0_0 : (List UInt8)) (v24_0_x0_1 v24_0_x0_2 v24_0_x0_3 v24_0_x0_4 v24_0_x0_5 : Int) (v24_0_x0_6 : (List Int)) (v24_0_x0_7 : Bool) (v24_0_x0_8 : Int) (l66 : (List Int)) (sv24_0_x0_6 : SV) (b36 : Pos) (s66 : SV) (Fr : Rd) (M : Mem) (r : (List UInt8)) (hv24_0_x0_6 : Slc Fr 1 (FlatR enc3) sv24_0_x0_6 v24_0_x0_6) (hH : Has Fr M [.obj b36 (.row 124 .whole [(.ptr b36 0), s66]), .vec 5 1 l66.length s66 (l66.flatMap enc5), tb0, tb1, tb2]), alert_textOf_4 F N v24_0_x0_0 v24_0_x0_1 v24_0_x0_2 v24_0_x0_3 v24_0_x0_4 v24_0_x0_5 v24_0_x0_6 v24_0_x0_7 v24_0_x0_8 l66 = some r → Run Tryd.prog ⟨⟨75, [], none⟩, []⟩ 33 (alert_textOf_post r) [(5, (.ptr b36 0)), (24, (.agg [(.fn (.func 87) [(.agg [(.str v24_0_x0_0), (.int .i64 v24_0_x0_1), (.int .i64 v24_0_x0_2), (.int .i64 v24_0_x0_3), (.int .i64 v24_0_x0_4), (.int .i64 v24_0_x0_5), sv24_0_x0_6, (.bool v24_0_x0_7), (.int .i64 v24_0_x0_8)])] []), (.fn (.func 88) [(.agg [(.str v24_0_x0_0), (.int .i64 v24_0_x0_1), (.int .i64 v24_0_x0_2), (.int .i64 v24_0_x0_3), (.int .i64 v24_0_x0_4), (.int .i64 v24_0_x0_5), sv24_0_x0_6, (.bool v24_0_x0_7), (.int .i64 v24_0_x0_8)])] []), (.fn (.func 89) [(.agg [(.str v24_0_x0_0), (.int .i64 v24_0_x0_1), (.int .i64 v24_0_x0_2), (.int .i64 v24_0_x0_3), (.int .i64 v24_0_x0_4), (.int .i64 v24_0_x0_5), sv24_0_x0_6, (.bool v24_0_x0_7), (.int .i64 v24_0_x0_8)])] []), (.fn (.func 90) [(.agg [(.str v24_0_x0_0), (.int .i64 v24_0_x0_1), (.int .i64 v24_0_x0_2), (.int .i64 v24_0_x0_3), (.int .i64 v24_0_x0_4), (.int .i64 v24_0_x0_5), sv24_0_x0_6, (.bool v24_0_x0_7), (.int .i64 v24_0_x0_8)])] []), (.fn (.func 91) [(.agg [(.str v24_0_x0_0), (.int .i64 v24_0_x0_1), (.int .i64 v24_0_x0_2), (.int .i64 v24_0_x0_3), (.int .i64 v24_0_x0_4), (.int .i64 v24_0_x0_5), sv24_0_x0_6, (.bool v24_0_x0_7), (.int .i64 v24_0_x0_8)])] []), (.fn (.func 92) [(.agg [(.str v24_0_x0_0), (.int .i64 v24_0_x0_1), (.int .i64 v24_0_x0_2), (.int .i64 v24_0_x0_3), (.int .i64 v24_0_x0_4), (.int .i64 v24_0_x0_5), sv24_0_x0_6, (.bool v24_0_x0_7), (.int .i64 v24_0_x0_8)])] []), (.fn (.func 93) [(.agg [(.str v24_0_x0_0), (.int .i64 v24_0_x0_1), (.int .i64 v24_0_x0_2), (.int .i64 v24_0_x0_3), (.int .i64 v24_0_x0_4), (.int .i64 v24_0_x0_5), sv24_0_x0_6, (.bool v24_0_x0_7), (.int .i64 v24_0_x0_8)])] [])])), (25, (.int .i64 3))] [codeC Tryd.prog 75 [1, 1, 1, 1, 0, 1, 0, 0], loopC Tryd.prog 75 [1, 1, 1, 1, 0, 1, 0, 0], .inBlock 0, codeC Tryd.prog 75 [1, 1, 1, 1, 1]] M := by
  intro N
  induction N with
  | zero =>
    intro v24_0_x0_0 v24_0_x0_1 v24_0_x0_2 v24_0_x0_3 v24_0_x0_4 v24_0_x0_5 v24_0_x0_6 v24_0_x0_7 v24_0_x0_8 l66 sv24_0_x0_6 b36 s66 Fr M r hv24_0_x0_6 hH h
    simp [alert_textOf_4] at h
  | succ N ih =>
    intro v24_0_x0_0 v24_0_x0_1 v24_0_x0_2 v24_0_x0_3 v24_0_x0_4 v24_0_x0_5 v24_0_x0_6 v24_0_x0_7 v24_0_x0_8 l66 sv24_0_x0_6 b36 s66 Fr M r hv24_0_x0_6 hH h
    rw [alert_textOf_4] at h
    refine Run.seq (Run.region ?_)
    refine Run.opG wantS_none (ex_lss rfl rfl) rfl ?_
    refine Run.opsEnd (Run.seq ?_)
    refine Run.condT' rfl rfl ?_
    refine Run.skip (Run.seq (Run.block (Run.seq (Run.region ?_))))
    refine Run.opG wantS_none (ex_idxA (j := 3) rfl rfl wha121 rfl (part_one agg120 rfl)) rfl ?_
    refine Run.opG wantS_none (ex_assign rfl) rfl ?_
    refine Run.opsEnd (Run.region ?_)
    refine Run.opG wantS_none (ex_move rfl) rfl ?_
    obtain ⟨r70, hr70, h⟩ := bnd_some h
    refine Run.callP wantS_none (ex_closure rfl rfl mkk90 cal90) rfl (alert_sheet_grid_ok F (S_api_Alert.mk v24_0_x0_0 v24_0_x0_1 v24_0_x0_2 (S_api_Chance.mk v24_0_x0_3 v24_0_x0_4) v24_0_x0_5 v24_0_x0_6 v24_0_x0_7 v24_0_x0_8) sv24_0_x0_6 _ _ (hH.slcF hv24_0_x0_6) (fixH hH (List.mem_of_getElem? (i := 2) rfl) (List.mem_of_getElem? (i := 3) rfl) (List.mem_of_getElem? (i := 4) rfl)) hr70) ?_
    refine Run.enter wantS_none (ex_call rfl mkk94 cal94) Tryd.func94 rfl rfl ?_
    refine Run.seq (Run.region ?_)
    refine Run.opG wantS_none (ex_assign rfl) rfl ?_
    refine Run.opG wantS_none (ex_assign rfl) rfl ?_
    refine Run.opsEnd (Run.seq (Run.region ?_))
    refine Run.opG wantS_none (ex_move rfl) rfl ?_
    refine Run.enter wantS_none (ex_call rfl mkk102 cal102) Tryd.func102 rfl rfl ?_
    refine Run.seq (Run.region ?_)
    refine Run.opG wantS_none (ex_move rfl) rfl ?_
    refine Run.opG wantS_none (ex_nilP rfl) rfl ?_
    refine Run.opG wantS_none (ex_fieldAddr rfl off124_0) rfl ?_
    refine Run.opG wantS_none (ex_load1 rfl (hH.cells (i := 0) rfl 0 rfl) rdLe_rfl agg122) rfl ?_
    refine Run.opG wantS_none (ex_ptrPN rfl rfl eqk122) rfl ?_
    refine Run.opsEnd ?_
    refine Run.condF' rfl rfl ?_
    refine Run.seq (Run.region ?_)
    refine Run.opG wantS_none (ex_move rfl) rfl ?_
    refine Run.opG wantS_none (ex_nilP rfl) rfl ?_
    refine Run.opG wantS_none (ex_fieldAddr rfl off124_0) rfl ?_
    refine Run.opG wantS_none (ex_load1 rfl (hH.cells (i := 0) rfl 0 rfl) rdLe_rfl agg122) rfl ?_
    refine Run.opG wantS_none (ex_move rfl) rfl ?_
    refine Run.opG wantS_none (ex_ptrSamen rfl rfl pte122 inf124) rfl ?_
    refine Run.opsEnd ?_
    refine Run.condF' rfl rfl ?_
    refine Run.skip ?_
    refine Run.fallTo Tryd.func102 rfl res_nil rfl ?_
    refine Run.opsEnd (Run.seq (Run.region ?_))
    refine Run.opG wantS_none (ex_move rfl) rfl ?_
    refine Run.opG wantS_none (ex_move rfl) rfl ?_
    refine Run.opG wantS_none (ex_nilP rfl) rfl ?_
    refine Run.opG wantS_none (ex_fieldAddr rfl off124_1) rfl ?_
    refine Run.opG wantS_none (ex_load1 rfl (hH.cells (i := 0) rfl 1 rfl) rdLe_rfl agg108) rfl ?_
    refine Run.opG wantS_none (ex_move rfl) rfl ?_
    obtain ⟨l74, hl74, h⟩ := bnd_some h
    refine Run.opX wantS_none rfl (ExG.append rfl rfl hH (i := 1) rfl enc5_len rfl enc5_ones appt108_9 rfl (str_lenZ rfl _) (str_first (fun _ => rfl) _) hl74) ?_
    rintro s74 M76 (hH76 : Has Fr M76 [.obj b36 (.row 124 .whole [(.ptr b36 0), s66]), .vec 5 1 l74.length s74 (l74.flatMap enc5), tb0, tb1, tb2])
    refine Run.opG wantS_none (ex_nilP rfl) rfl ?_
    refine Run.opG wantS_none (ex_fieldAddr rfl off124_1) rfl ?_
    refine Run.opX wantS_none rfl (ExG.storeC (c' := [(.ptr b36 0), s74]) rfl rfl (cells_one (vec_one hH76 (i := 1) rfl)) hH76 (i := 0) rfl sz108 rfl rfl rfl (ones_cons (vec_one hH76 (i := 1) rfl) ones_nil) rfl) ?_
    rintro _ M77 ⟨rfl, (hH77 : Has Fr M77 [.obj b36 (.row 124 .whole [(.ptr b36 0), s74]), .vec 5 1 l74.length s74 (l74.flatMap enc5), tb0, tb1, tb2])⟩
    refine Run.opsEnd (Run.seq (Run.region ?_))
    refine Run.opG wantS_none (ex_move rfl) rfl ?_
    refine Run.opG wantS_none (ex_lenS rfl lenk9) rfl ?_
    refine Run.opG wantS_none (ex_assign rfl) rfl ?_
    refine Run.opG wantS_none (ex_assign rfl) rfl ?_
    refine Run.opsEnd ?_
    refine Run.retTo Tryd.func94 rfl (res_tmp rfl (res_tmp rfl res_nil)) rfl ?_
    refine Run.opsEnd (Run.inBlock (Run.region ?_))
    refine Run.opG wantS_none (ex_add rfl rfl) rfl ?_
    refine Run.opG wantS_none (ex_move rfl) rfl ?_
    refine Run.opsEnd (Run.inLoop ?_)
    exact Run.pick [5, 24, 25] (alert_textOf_5_ok F F v24_0_x0_0 v24_0_x0_1 v24_0_x0_2 v24_0_x0_3 v24_0_x0_4 v24_0_x0_5 v24_0_x0_6 v24_0_x0_7 v24_0_x0_8 l74 sv24_0_x0_6 b36 s74 _ _ _ hv24_0_x0_6 hH77 h)

def alert_textOf_3 (F : Nat) : Nat → (List UInt8) → Int → Int → Int → Int → Int → (List Int) → Bool → Int → (List Int) → Option ((List UInt8))
  | 0, _, _, _, _, _, _, _, _, _, _ => none
  | N + 1, v24_0_x0_0, v24_0_x0_1, v24_0_x0_2, v24_0_x0_3, v24_0_x0_4, v24_0_x0_5, v24_0_x0_6, v24_0_x0_7, v24_0_x0_8, l57 =>
    bnd (alert_sheet_chance F (S_api_Alert.mk v24_0_x0_0 v24_0_x0_1 v24_0_x0_2 (S_api_Chance.mk v24_0_x0_3 v24_0_x0_4) v24_0_x0_5 v24_0_x0_6 v24_0_x0_7 v24_0_x0_8)) fun r61 =>
    bnd (apd 1 l57 (bytesI r61)) fun l65 =>
    alert_textOf_4 F F v24_0_x0_0 v24_0_x0_1 v24_0_x0_2 v24_0_x0_3 v24_0_x0_4 v24_0_x0_5 v24_0_x0_6 v24_0_x0_7 v24_0_x0_8 l65

theorem alert_textOf_3_ok (F : Nat) : ∀ (N : Nat), ∀ (v24_0_x0_0 : (List UInt8)) (v24_0_x0_1 v24_0_x0_2 v24_0_x0_3 v24_0_x0_4 v24_0_x0_5 : Int) (v24_0_x0_6 : (List Int)) (v24_0_x0_7 : Bool) (v24_0_x0_8 : Int) (l57 : (List Int)) (sv24_0_x0_6 : SV) (b36 : Pos) (s57 : SV) (Fr : Rd) (M : Mem) (r : (List UInt8)) (hv24_0_x0_6 : Slc Fr 1 (FlatR enc3) sv24_0_x0_6 v24_0_x0_6) (hH : Has Fr M [.obj b36 (.row 124 .whole [(.ptr b36 0), s57]), .vec 5 1 l57.length s57 (l57.flatMap enc5), tb0, tb1, tb2]), alert_textOf_3 F N v24_0_x0_0 v24_0_x0_1 v24_0_x0_2 v24_0_x0_3 v24_0_x0_4 v24_0_x0_5 v24_0_x0_6 v24_0_x0_7 v24_0_x0_8 l57 = some r → Run Tryd.prog ⟨⟨75, [], none⟩, []⟩ 33 (alert_textOf_post r) [(5, (.ptr b36 0)), (24, (.agg [(.fn (.func 87) [(.agg [(.str v24_0_x0_0), (.int .i64 v24_0_x0_1), (.int .i64 v24_0_x0_2), (.int .i64 v24_0_x0_3), (.int .i64 v24_0_x0_4), (.int .i64 v24_0_x0_5), sv24_0_x0_6, (.bool v24_0_x0_7), (.int .i64 v24_0_x0_8)])] []), (.fn (.func 88) [(.agg [(.str v24_0_x0_0), (.int .i64 v24_0_x0_1), (.int .i64 v24_0_x0_2), (.int .i64 v24_0_x0_3), (.int .i64 v24_0_x0_4), (.int .i64 v24_0_x0_5), sv24_0_x0_6, (.bool v24_0_x0_7), (.int .i64 v24_0_x0_8)])] []), (.fn (.func 89) [(.agg [(.str v24_0_x0_0), (.int .i64 v24_0_x0_1), (.int .i64 v24_0_x0_2), (.int .i64 v24_0_x0_3), (.int .i64 v24_0_x0_4), (.int .i64 v24_0_x0_5), sv24_0_x0_6, (.bool v24_0_x0_7), (.int .i64 v24_0_x0_8)])] []), (.fn (.func 90) [(.agg [(.str v24_0_x0_0), (.int .i64 v24_0_x0_1), (.int .i64 v24_0_x0_2), (.int .i64 v24_0_x0_3), (.int .i64 v24_0_x0_4), (.int .i64 v24_0_x0_5), sv24_0_x0_6, (.bool v24_0_x0_7), (.int .i64 v24_0_x0_8)])] []), (.fn (.func 91) [(.agg [(.str v24_0_x0_0), (.int .i64 v24_0_x0_1), (.int .i64 v24_0_x0_2), (.int .i64 v24_0_x0_3), (.int .i64 v24_0_x0_4), (.int .i64 v24_0_x0_5), sv24_0_x0_6, (.bool v24_0_x0_7), (.int .i64 v24_0_x0_8)])] []), (.fn (.func 92) [(.agg [(.str v24_0_x0_0), (.int .i64 v24_0_x0_1), (.int .i64 v24_0_x0_2), (.int .i64 v24_0_x0_3), (.int .i64 v24_0_x0_4), (.int .i64 v24_0_x0_5), sv24_0_x0_6, (.bool v24_0_x0_7), (.int .i64 v24_0_x0_8)])] []), (.fn (.func 93) [(.agg [(.str v24_0_x0_0), (.int .i64 v24_0_x0_1), (.int .i64 v24_0_x0_2), (.int .i64 v24_0_x0_3), (.int .i64 v24_0_x0_4), (.int .i64 v24_0_x0_5), sv24_0_x0_6, (.bool v24_0_x0_7), (.int .i64 v24_0_x0_8)])] [])])), (25, (.int .i64 2))] [codeC Tryd.prog 75 [1, 1, 1, 1, 0, 1, 0, 0], loopC Tryd.prog 75 [1, 1, 1, 1, 0, 1, 0, 0], .inBlock 0, codeC Tryd.prog 75 [1, 1, 1, 1, 1]] M := by
  intro N
  induction N with
  | zero =>
    intro v24_0_x0_0 v24_0_x0_1 v24_0_x0_2 v24_0_x0_3 v24_0_x0_4 v24_0_x0_5 v24_0_x0_6 v24_0_x0_7 v24_0_x0_8 l57 sv24_0_x0_6 b36 s57 Fr M r hv24_0_x0_6 hH h
    simp [alert_textOf_3] at h
  | succ N ih =>
    intro v24_0_x0_0 v24_0_x0_1 v24_0_x0_2 v24_0_x0_3 v24_0_x0_4 v24_0_x0_5 v24_0_x0_6 v24_0_x0_7 v24_0_x0_8 l57 sv24_0_x0_6 b36 s57 Fr M r hv24_0_x0_6 hH h
    rw [alert_textOf_3] at h
    refine Run.seq (Run.region ?_)
    refine Run.opG wantS_none (ex_lss rfl rfl) rfl ?_
    refine Run.opsEnd (Run.seq ?_)
    refine Run.condT' rfl rfl ?_
    refine Run.skip (Run.seq (Run.block (Run.seq (Run.region ?_))))
    refine Run.opG wantS_none (ex_idxA (j := 2) rfl rfl wha121 rfl (part_one agg120 rfl)) rfl ?_
    refine Run.opG wantS_none (ex_assign rfl) rfl ?_
    refine Run.opsEnd (Run.region ?_)
    refine Run.opG wantS_none (ex_move rfl) rfl ?_
    obtain ⟨r61, hr61, h⟩ := bnd_some h
    refine Run.callP wantS_none (ex_closure rfl rfl mkk89 cal89) rfl (alert_sheet_chance_ok F (S_api_Alert.mk v24_0_x0_0 v24_0_x0_1 v24_0_x0_2 (S_api_Chance.mk v24_0_x0_3 v24_0_x0_4) v24_0_x0_5 v24_0_x0_6 v24_0_x0_7 v24_0_x0_8) sv24_0_x0_6 _ _ (hH.slcF hv24_0_x0_6) (fixH hH (List.mem_of_getElem? (i := 2) rfl) (List.mem_of_getElem? (i := 3) rfl) (List.mem_of_getElem? (i := 4) rfl)) hr61) ?_
    refine Run.enter wantS_none (ex_call rfl mkk94 cal94) Tryd.func94 rfl rfl ?_
    refine Run.seq (Run.region ?_)
    refine Run.opG wantS_none (ex_assign rfl) rfl ?_
    refine Run.opG wantS_none (ex_assign rfl) rfl ?_
    refine Run.opsEnd (Run.seq (Run.region ?_))
    refine Run.opG wantS_none (ex_move rfl) rfl ?_
    refine Run.enter wantS_none (ex_call rfl mkk102 cal102) Tryd.func102 rfl rfl ?_
    refine Run.seq (Run.region ?_)
    refine Run.opG wantS_none (ex_move rfl) rfl ?_
    refine Run.opG wantS_none (ex_nilP rfl) rfl ?_
    refine Run.opG wantS_none (ex_fieldAddr rfl off124_0) rfl ?_
    refine Run.opG wantS_none (ex_load1 rfl (hH.cells (i := 0) rfl 0 rfl) rdLe_rfl agg122) rfl ?_
    refine Run.opG wantS_none (ex_ptrPN rfl rfl eqk122) rfl ?_
    refine Run.opsEnd ?_
    refine Run.condF' rfl rfl ?_
    refine Run.seq (Run.region ?_)
    refine Run.opG wantS_none (ex_move rfl) rfl ?_
    refine Run.opG wantS_none (ex_nilP rfl) rfl ?_
    refine Run.opG wantS_none (ex_fieldAddr rfl off124_0) rfl ?_
    refine Run.opG wantS_none (ex_load1 rfl (hH.cells (i := 0) rfl 0 rfl) rdLe_rfl agg122) rfl ?_
    refine Run.opG wantS_none (ex_move rfl) rfl ?_
    refine Run.opG wantS_none (ex_ptrSamen rfl rfl pte122 inf124) rfl ?_
    refine Run.opsEnd ?_
    refine Run.condF' rfl rfl ?_
    refine Run.skip ?_
    refine Run.fallTo Tryd.func102 rfl res_nil rfl ?_
    refine Run.opsEnd (Run.seq (Run.region ?_))
    refine Run.opG wantS_none (ex_move rfl) rfl ?_
    refine Run.opG wantS_none (ex_move rfl) rfl ?_
    refine Run.opG wantS_none (ex_nilP rfl) rfl ?_
    refine Run.opG wantS_none (ex_fieldAddr rfl off124_1) rfl ?_
    refine Run.opG wantS_none (ex_load1 rfl (hH.cells (i := 0) rfl 1 rfl) rdLe_rfl agg108) rfl ?_
    refine Run.opG wantS_none (ex_move rfl) rfl ?_
    obtain ⟨l65, hl65, h⟩ := bnd_some h
    refine Run.opX wantS_none rfl (ExG.append rfl rfl hH (i := 1) rfl enc5_len rfl enc5_ones appt108_9 rfl (str_lenZ rfl _) (str_first (fun _ => rfl) _) hl65) ?_
    rintro s65 M67 (hH67 : Has Fr M67 [.obj b36 (.row 124 .whole [(.ptr b36 0), s57]), .vec 5 1 l65.length s65 (l65.flatMap enc5), tb0, tb1, tb2])
    refine Run.opG wantS_none (ex_nilP rfl) rfl ?_
    refine Run.opG wantS_none (ex_fieldAddr rfl off124_1) rfl ?_
    refine Run.opX wantS_none rfl (ExG.storeC (c' := [(.ptr b36 0), s65]) rfl rfl (cells_one (vec_one hH67 (i := 1) rfl)) hH67 (i := 0) rfl sz108 rfl rfl rfl (ones_cons (vec_one hH67 (i := 1) rfl) ones_nil) rfl) ?_
    rintro _ M68 ⟨rfl, (hH68 : Has Fr M68 [.obj b36 (.row 124 .whole [(.ptr b36 0), s65]), .vec 5 1 l65.length s65 (l65.flatMap enc5), tb0, tb1, tb2])⟩
    refine Run.opsEnd (Run.seq (Run.region ?_))
    refine Run.opG wantS_none (ex_move rfl) rfl ?_
    refine Run.opG wantS_none (ex_lenS rfl lenk9) rfl ?_
    refine Run.opG wantS_none (ex_assign rfl) rfl ?_
    refine Run.opG wantS_none (ex_assign rfl) rfl ?_
    refine Run.opsEnd ?_
    refine Run.retTo Tryd.func94 rfl (res_tmp rfl (res_tmp rfl res_nil)) rfl ?_
    refine Run.opsEnd (Run.inBlock (Run.region ?_))
    refine Run.opG wantS_none (ex_add rfl rfl) rfl ?_
    refine Run.opG wantS_none (ex_move rfl) rfl ?_
    refine Run.opsEnd (Run.inLoop ?_)
    exact Run.pick [5, 24, 25] (alert_textOf_4_ok F F v24_0_x0_0 v24_0_x0_1 v24_0_x0_2 v24_0_x0_3 v24_0_x0_4 v24_0_x0_5 v24_0_x0_6 v24_0_x0_7 v24_0_x0_8 l65 sv24_0_x0_6 b36 s65 _ _ _ hv24_0_x0_6 hH68 h)

def alert_textOf_2 (F : Nat) : Nat → (List UInt8) → Int → Int → Int → Int → Int → (List Int) → Bool → Int → (List Int) → Option ((List UInt8))
  | 0, _, _, _, _, _, _, _, _, _, _ => none
  | N + 1, v24_0_x0_0, v24_0_x0_1, v24_0_x0_2, v24_0_x0_3, v24_0_x0_4, v24_0_x0_5, v24_0_x0_6, v24_0_x0_7, v24_0_x0_8, l47 =>
    bnd (alert_sheet_time F (S_api_Alert.mk v24_0_x0_0 v24_0_x0_1 v24_0_x0_2 (S_api_Chance.mk v24_0_x0_3 v24_0_x0_4) v24_0_x0_5 v24_0_x0_6 v24_0_x0_7 v24_0_x0_8)) fun r52 =>
    bnd (apd 1 l47 (bytesI r52)) fun l56 =>
    alert_textOf_3 F F v24_0_x0_0 v24_0_x0_1 v24_0_x0_2 v24_0_x0_3 v24_0_x0_4 v24_0_x0_5 v24_0_x0_6 v24_0_x0_7 v24_0_x0_8 l56

theorem alert_textOf_2_ok (F : Nat) : ∀ (N : Nat), ∀ (v24_0_x0_0 : (List UInt8)) (v24_0_x0_1 v24_0_x0_2 v24_0_x0_3 v24_0_x0_4 v24_0_x0_5 : Int) (v24_0_x0_6 : (List Int)) (v24_0_x0_7 : Bool) (v24_0_x0_8 : Int) (l47 : (List Int)) (sv24_0_x0_6 : SV) (b36 : Pos) (s47 : SV) (Fr : Rd) (M : Mem) (r : (List UInt8)) (hv24_0_x0_6 : Slc Fr 1 (FlatR enc3) sv24_0_x0_6 v24_0_x0_6) (hH : Has Fr M [.obj b36 (.row 124 .whole [(.ptr b36 0), s47]), .vec 5 1 l47.length s47 (l47.flatMap enc5), tb0, tb1, tb2]), alert_textOf_2 F N v24_0_x0_0 v24_0_x0_1 v24_0_x0_2 v24_0_x0_3 v24_0_x0_4 v24_0_x0_5 v24_0_x0_6 v24_0_x0_7 v24_0_x0_8 l47 = some r → Run Tryd.prog ⟨⟨75, [], none⟩, []⟩ 33 (alert_textOf_post r) [(5, (.ptr b36 0)), (24, (.agg [(.fn (.func 87) [(.agg [(.str v24_0_x0_0), (.int .i64 v24_0_x0_1), (.int .i64 v24_0_x0_2), (.int .i64 v24_0_x0_3), (.int .i64 v24_0_x0_4), (.int .i64 v24_0_x0_5), sv24_0_x0_6, (.bool v24_0_x0_7), (.int .i64 v24_0_x0_8)])] []), (.fn (.func 88) [(.agg [(.str v24_0_x0_0), (.int .i64 v24_0_x0_1), (.int .i64 v24_0_x0_2), (.int .i64 v24_0_x0_3), (.int .i64 v24_0_x0_4), (.int .i64 v24_0_x0_5), sv24_0_x0_6, (.bool v24_0_x0_7), (.int .i64 v24_0_x0_8)])] []), (.fn (.func 89) [(.agg [(.str v24_0_x0_0), (.int .i64 v24_0_x0_1), (.int .i64 v24_0_x0_2), (.int .i64 v24_0_x0_3), (.int .i64 v24_0_x0_4), (.int .i64 v24_0_x0_5), sv24_0_x0_6, (.bool v24_0_x0_7), (.int .i64 v24_0_x0_8)])] []), (.fn (.func 90) [(.agg [(.str v24_0_x0_0), (.int .i64 v24_0_x0_1), (.int .i64 v24_0_x0_2), (.int .i64 v24_0_x0_3), (.int .i64 v24_0_x0_4), (.int .i64 v24_0_x0_5), sv24_0_x0_6, (.bool v24_0_x0_7), (.int .i64 v24_0_x0_8)])] []), (.fn (.func 91) [(.agg [(.str v24_0_x0_0), (.int .i64 v24_0_x0_1), (.int .i64 v24_0_x0_2), (.int .i64 v24_0_x0_3), (.int .i64 v24_0_x0_4), (.int .i64 v24_0_x0_5), sv24_0_x0_6, (.bool v24_0_x0_7), (.int .i64 v24_0_x0_8)])] []), (.fn (.func 92) [(.agg [(.str v24_0_x0_0), (.int .i64 v24_0_x0_1), (.int .i64 v24_0_x0_2), (.int .i64 v24_0_x0_3), (.int .i64 v24_0_x0_4), (.int .i64 v24_0_x0_5), sv24_0_x0_6, (.bool v24_0_x0_7), (.int .i64 v24_0_x0_8)])] []), (.fn (.func 93) [(.agg [(.str v24_0_x0_0), (.int .i64 v24_0_x0_1), (.int .i64 v24_0_x0_2), (.int .i64 v24_0_x0_3), (.int .i64 v24_0_x0_4), (.int .i64 v24_0_x0_5), sv24_0_x0_6, (.bool v24_0_x0_7), (.int .i64 v24_0_x0_8)])] [])])), (25, (.int .i64 1))] [codeC Tryd.prog 75 [1, 1, 1, 1, 0, 1, 0, 0], loopC Tryd.prog 75 [1, 1, 1, 1, 0, 1, 0, 0], .inBlock 0, codeC Tryd.prog 75 [1, 1, 1, 1, 1]] M := by
  intro N
  induction N with
  | zero =>
    intro v24_0_x0_0 v24_0_x0_1 v24_0_x0_2 v24_0_x0_3 v24_0_x0_4 v24_0_x0_5 v24_0_x0_6 v24_0_x0_7 v24_0_x0_8 l47 sv24_0_x0_6 b36 s47 Fr M r hv24_0_x0_6 hH h
    simp [alert_textOf_2] at h
  | succ N ih =>
    intro v24_0_x0_0 v24_0_x0_1 v24_0_x0_2 v24_0_x0_3 v24_0_x0_4 v24_0_x0_5 v24_0_x0_6 v24_0_x0_7 v24_0_x0_8 l47 sv24_0_x0_6 b36 s47 Fr M r hv24_0_x0_6 hH h
    rw [alert_textOf_2] at h
    refine Run.seq (Run.region ?_)
    refine Run.opG wantS_none (ex_lss rfl rfl) rfl ?_
    refine Run.opsEnd (Run.seq ?_)
    refine Run.condT' rfl rfl ?_
    refine Run.skip (Run.seq (Run.block (Run.seq (Run.region ?_))))
    refine Run.opG wantS_none (ex_idxA (j := 1) rfl rfl wha121 rfl (part_one agg120 rfl)) rfl ?_
    refine Run.opG wantS_none (ex_assign rfl) rfl ?_
    refine Run.opsEnd (Run.region ?_)
    refine Run.opG wantS_none (ex_move rfl) rfl ?_
    obtain ⟨r52, hr52, h⟩ := bnd_some h
    refine Run.callP wantS_none (ex_closure rfl rfl mkk88 cal88) rfl (alert_sheet_time_ok F (S_api_Alert.mk v24_0_x0_0 v24_0_x0_1 v24_0_x0_2 (S_api_Chance.mk v24_0_x0_3 v24_0_x0_4) v24_0_x0_5 v24_0_x0_6 v24_0_x0_7 v24_0_x0_8) sv24_0_x0_6 _ _ (hH.slcF hv24_0_x0_6) (fixH hH (List.mem_of_getElem? (i := 2) rfl) (List.mem_of_getElem? (i := 3) rfl) (List.mem_of_getElem? (i := 4) rfl)) hr52) ?_
    refine Run.enter wantS_none (ex_call rfl mkk94 cal94) Tryd.func94 rfl rfl ?_
    refine Run.seq (Run.region ?_)
    refine Run.opG wantS_none (ex_assign rfl) rfl ?_
    refine Run.opG wantS_none (ex_assign rfl) rfl ?_
    refine Run.opsEnd (Run.seq (Run.region ?_))
    refine Run.opG wantS_none (ex_move rfl) rfl ?_
    refine Run.enter wantS_none (ex_call rfl mkk102 cal102) Tryd.func102 rfl rfl ?_
    refine Run.seq (Run.region ?_)
    refine Run.opG wantS_none (ex_move rfl) rfl ?_
    refine Run.opG wantS_none (ex_nilP rfl) rfl ?_
    refine Run.opG wantS_none (ex_fieldAddr rfl off124_0) rfl ?_
    refine Run.opG wantS_none (ex_load1 rfl (hH.cells (i := 0) rfl 0 rfl) rdLe_rfl agg122) rfl ?_
    refine Run.opG wantS_none (ex_ptrPN rfl rfl eqk122) rfl ?_
    refine Run.opsEnd ?_
    refine Run.condF' rfl rfl ?_
    refine Run.seq (Run.region ?_)
    refine Run.opG wantS_none (ex_move rfl) rfl ?_
    refine Run.opG wantS_none (ex_nilP rfl) rfl ?_
    refine Run.opG wantS_none (ex_fieldAddr rfl off124_0) rfl ?_
    refine Run.opG wantS_none (ex_load1 rfl (hH.cells (i := 0) rfl 0 rfl) rdLe_rfl agg122) rfl ?_
    refine Run.opG wantS_none (ex_move rfl) rfl ?_
    refine Run.opG wantS_none (ex_ptrSamen rfl rfl pte122 inf124) rfl ?_
    refine Run.opsEnd ?_
    refine Run.condF' rfl rfl ?_
    refine Run.skip ?_
    refine Run.fallTo Tryd.func102 rfl res_nil rfl ?_
    refine Run.opsEnd (Run.seq (Run.region ?_))
    refine Run.opG wantS_none (ex_move rfl) rfl ?_
    refine Run.opG wantS_none (ex_move rfl) rfl ?_
    refine Run.opG wantS_none (ex_nilP rfl) rfl ?_
    refine Run.opG wantS_none (ex_fieldAddr rfl off124_1) rfl ?_
    refine Run.opG wantS_none (ex_load1 rfl (hH.cells (i := 0) rfl 1 rfl) rdLe_rfl agg108) rfl ?_
    refine Run.opG wantS_none (ex_move rfl) rfl ?_
    obtain ⟨l56, hl56, h⟩ := bnd_some h
    refine Run.opX wantS_none rfl (ExG.append rfl rfl hH (i := 1) rfl enc5_len rfl enc5_ones appt108_9 rfl (str_lenZ rfl _) (str_first (fun _ => rfl) _) hl56) ?_
    rintro s56 M58 (hH58 : Has Fr M58 [.obj b36 (.row 124 .whole [(.ptr b36 0), s47]), .vec 5 1 l56.length s56 (l56.flatMap enc5), tb0, tb1, tb2])
    refine Run.opG wantS_none (ex_nilP rfl) rfl ?_
    refine Run.opG wantS_none (ex_fieldAddr rfl off124_1) rfl ?_
    refine Run.opX wantS_none rfl (ExG.storeC (c' := [(.ptr b36 0), s56]) rfl rfl (cells_one (vec_one hH58 (i := 1) rfl)) hH58 (i := 0) rfl sz108 rfl rfl rfl (ones_cons (vec_one hH58 (i := 1) rfl) ones_nil) rfl) ?_
    rintro _ M59 ⟨rfl, (hH59 : Has Fr M59 [.obj b36 (.row 124 .whole [(.ptr b36 0), s56]), .vec 5 1 l56.length s56 (l56.flatMap enc5), tb0, tb1, tb2])⟩
    refine Run.opsEnd (Run.seq (Run.region ?_))
    refine Run.opG wantS_none (ex_move rfl) rfl ?_
    refine Run.opG wantS_none (ex_lenS rfl lenk9) rfl ?_
    refine Run.opG wantS_none (ex_assign rfl) rfl ?_
    refine Run.opG wantS_none (ex_assign rfl) rfl ?_
    refine Run.opsEnd ?_
    refine Run.retTo Tryd.func94 rfl (res_tmp rfl (res_tmp rfl res_nil)) rfl ?_
    refine Run.opsEnd (Run.inBlock (Run.region ?_))
    refine Run.opG wantS_none (ex_add rfl rfl) rfl ?_
    refine Run.opG wantS_none (ex_move rfl) rfl ?_
    refine Run.opsEnd (Run.inLoop ?_)
    exact Run.pick [5, 24, 25] (alert_textOf_3_ok F F v24_0_x0_0 v24_0_x0_1 v24_0_x0_2 v24_0_x0_3 v24_0_x0_4 v24_0_x0_5 v24_0_x0_6 v24_0_x0_7 v24_0_x0_8 l56 sv24_0_x0_6 b36 s56 _ _ _ hv24_0_x0_6 hH59 h)

def alert_textOf_1 (F : Nat) : Nat → (List UInt8) → Int → Int → Int → Int → Int → (List Int) → Bool → Int → Option ((List UInt8))
  | 0, _, _, _, _, _, _, _, _, _ => none
  | N + 1, v24_0_x0_0, v24_0_x0_1, v24_0_x0_2, v24_0_x0_3, v24_0_x0_4, v24_0_x0_5, v24_0_x0_6, v24_0_x0_7, v24_0_x0_8 =>
    bnd (alert_sheet_head F (S_api_Alert.mk v24_0_x0_0 v24_0_x0_1 v24_0_x0_2 (S_api_Chance.mk v24_0_x0_3 v24_0_x0_4) v24_0_x0_5 v24_0_x0_6 v24_0_x0_7 v24_0_x0_8)) fun r39 =>
    bnd (apd 1 ([] : List Int) (bytesI r39)) fun l45 =>
    alert_textOf_2 F F v24_0_x0_0 v24_0_x0_1 v24_0_x0_2 v24_0_x0_3 v24_0_x0_4 v24_0_x0_5 v24_0_x0_6 v24_0_x0_7 v24_0_x0_8 l45

theorem alert_textOf_1_ok (F : Nat) : ∀ (N : Nat), ∀ (v24_0_x0_0 : (List UInt8)) (v24_0_x0_1 v24_0_x0_2 v24_0_x0_3 v24_0_x0_4 v24_0_x0_5 : Int) (v24_0_x0_6 : (List Int)) (v24_0_x0_7 : Bool) (v24_0_x0_8 : Int) (sv24_0_x0_6 : SV) (b36 : Pos) (Fr : Rd) (M : Mem) (r : (List UInt8)) (hv24_0_x0_6 : Slc Fr 1 (FlatR enc3) sv24_0_x0_6 v24_0_x0_6) (hH : Has Fr M [.obj b36 (.row 124 .whole [.nilp, .nils]), tb0, tb1, tb2]), alert_textOf_1 F N v24_0_x0_0 v24_0_x0_1 v24_0_x0_2 v24_0_x0_3 v24_0_x0_4 v24_0_x0_5 v24_0_x0_6 v24_0_x0_7 v24_0_x0_8 = some r → Run Tryd.prog ⟨⟨75, [], none⟩, []⟩ 33 (alert_textOf_post r) [(5, (.ptr b36 0)), (24, (.agg [(.fn (.func 87) [(.agg [(.str v24_0_x0_0), (.int .i64 v24_0_x0_1), (.int .i64 v24_0_x0_2), (.int .i64 v24_0_x0_3), (.int .i64 v24_0_x0_4), (.int .i64 v24_0_x0_5), sv24_0_x0_6, (.bool v24_0_x0_7), (.int .i64 v24_0_x0_8)])] []), (.fn (.func 88) [(.agg [(.str v24_0_x0_0), (.int .i64 v24_0_x0_1), (.int .i64 v24_0_x0_2), (.int .i64 v24_0_x0_3), (.int .i64 v24_0_x0_4), (.int .i64 v24_0_x0_5), sv24_0_x0_6, (.bool v24_0_x0_7), (.int .i64 v24_0_x0_8)])] []), (.fn (.func 89) [(.agg [(.str v24_0_x0_0), (.int .i64 v24_0_x0_1), (.int .i64 v24_0_x0_2), (.int .i64 v24_0_x0_3), (.int .i64 v24_0_x0_4), (.int .i64 v24_0_x0_5), sv24_0_x0_6, (.bool v24_0_x0_7), (.int .i64 v24_0_x0_8)])] []), (.fn (.func 90) [(.agg [(.str v24_0_x0_0), (.int .i64 v24_0_x0_1), (.int .i64 v24_0_x0_2), (.int .i64 v24_0_x0_3), (.int .i64 v24_0_x0_4), (.int .i64 v24_0_x0_5), sv24_0_x0_6, (.bool v24_0_x0_7), (.int .i64 v24_0_x0_8)])] []), (.fn (.func 91) [(.agg [(.str v24_0_x0_0), (.int .i64 v24_0_x0_1), (.int .i64 v24_0_x0_2), (.int .i64 v24_0_x0_3), (.int .i64 v24_0_x0_4), (.int .i64 v24_0_x0_5), sv24_0_x0_6, (.bool v24_0_x0_7), (.int .i64 v24_0_x0_8)])] []), (.fn (.func 92) [(.agg [(.str v24_0_x0_0), (.int .i64 v24_0_x0_1), (.int .i64 v24_0_x0_2), (.int .i64 v24_0_x0_3), (.int .i64 v24_0_x0_4), (.int .i64 v24_0_x0_5), sv24_0_x0_6, (.bool v24_0_x0_7), (.int .i64 v24_0_x0_8)])] []), (.fn (.func 93) [(.agg [(.str v24_0_x0_0), (.int .i64 v24_0_x0_1), (.int .i64 v24_0_x0_2), (.int .i64 v24_0_x0_3), (.int .i64 v24_0_x0_4), (.int .i64 v24_0_x0_5), sv24_0_x0_6, (.bool v24_0_x0_7), (.int .i64 v24_0_x0_8)])] [])])), (25, (.int .i64 0))] [codeC Tryd.prog 75 [1, 1, 1, 1, 0, 1, 0, 0], loopC Tryd.prog 75 [1, 1, 1, 1, 0, 1, 0, 0], .inBlock 0, codeC Tryd.prog 75 [1, 1, 1, 1, 1]] M := by
  intro N
  induction N with
  | zero =>
    intro v24_0_x0_0 v24_0_x0_1 v24_0_x0_2 v24_0_x0_3 v24_0_x0_4 v24_0_x0_5 v24_0_x0_6 v24_0_x0_7 v24_0_x0_8 sv24_0_x0_6 b36 Fr M r hv24_0_x0_6 hH h
    simp [alert_textOf_1] at h
  | succ N ih =>
    intro v24_0_x0_0 v24_0_x0_1 v24_0_x0_2 v24_0_x0_3 v24_0_x0_4 v24_0_x0_5 v24_0_x0_6 v24_0_x0_7 v24_0_x0_8 sv24_0_x0_6 b36 Fr M r hv24_0_x0_6 hH h
    rw [alert_textOf_1] at h
    refine Run.seq (Run.region ?_)
    refine Run.opG wantS_none (ex_lss rfl rfl) rfl ?_
    refine Run.opsEnd (Run.seq ?_)
    refine Run.condT' rfl rfl ?_
    refine Run.skip (Run.seq (Run.block (Run.seq (Run.region ?_))))
    refine Run.opG wantS_none (ex_idxA (j := 0) rfl rfl wha121 rfl (part_one agg120 rfl)) rfl ?_
    refine Run.opG wantS_none (ex_assign rfl) rfl ?_
    refine Run.opsEnd (Run.region ?_)
    refine Run.opG wantS_none (ex_move rfl) rfl ?_
    obtain ⟨r39, hr39, h⟩ := bnd_some h
    refine Run.callP wantS_none (ex_closure rfl rfl mkk87 cal87) rfl (alert_sheet_head_ok F (S_api_Alert.mk v24_0_x0_0 v24_0_x0_1 v24_0_x0_2 (S_api_Chance.mk v24_0_x0_3 v24_0_x0_4) v24_0_x0_5 v24_0_x0_6 v24_0_x0_7 v24_0_x0_8) sv24_0_x0_6 _ _ (hH.slcF hv24_0_x0_6) (fixH hH (List.mem_of_getElem? (i := 1) rfl) (List.mem_of_getElem? (i := 2) rfl) (List.mem_of_getElem? (i := 3) rfl)) hr39) ?_
    refine Run.enter wantS_none (ex_call rfl mkk94 cal94) Tryd.func94 rfl rfl ?_
    refine Run.seq (Run.region ?_)
    refine Run.opG wantS_none (ex_assign rfl) rfl ?_
    refine Run.opG wantS_none (ex_assign rfl) rfl ?_
    refine Run.opsEnd (Run.seq (Run.region ?_))
    refine Run.opG wantS_none (ex_move rfl) rfl ?_
    refine Run.enter wantS_none (ex_call rfl mkk102 cal102) Tryd.func102 rfl rfl ?_
    refine Run.seq (Run.region ?_)
    refine Run.opG wantS_none (ex_move rfl) rfl ?_
    refine Run.opG wantS_none (ex_nilP rfl) rfl ?_
    refine Run.opG wantS_none (ex_fieldAddr rfl off124_0) rfl ?_
    refine Run.opG wantS_none (ex_load1 rfl (hH.cells (i := 0) rfl 0 rfl) rdLe_rfl agg122) rfl ?_
    refine Run.opG wantS_none (ex_ptrNN rfl rfl eqk122) rfl ?_
    refine Run.opsEnd ?_
    refine Run.condT' rfl rfl ?_
    refine Run.region ?_
    refine Run.opG wantS_none (ex_move rfl) rfl ?_
    refine Run.opG wantS_none (ex_move rfl) rfl ?_
    refine Run.opG wantS_none (ex_toU rfl uvk122_137 rfl hH (i := 0) rfl rfl) rfl ?_
    refine Run.opG wantS_none (ex_noEsc rfl mkk106 ncal106 ext106) rfl ?_
    refine Run.opG wantS_none (ex_backU rfl uvk137_122 hH (i := 0) rfl rfl clo124) rfl ?_
    refine Run.opG wantS_none (ex_nilP rfl) rfl ?_
    refine Run.opG wantS_none (ex_fieldAddr rfl off124_0) rfl ?_
    refine Run.opX wantS_none rfl (ExG.storeC (c' := [(.ptr b36 0), .nils]) rfl rfl rfl hH (i := 0) rfl sz122 rfl rfl rfl rfl rfl) ?_
    rintro _ M41 ⟨rfl, (hH41 : Has Fr M41 [.obj b36 (.row 124 .whole [(.ptr b36 0), .nils]), tb0, tb1, tb2])⟩
    refine Run.opsEnd ?_
    refine Run.fallTo Tryd.func102 rfl res_nil rfl ?_
    refine Run.opsEnd (Run.seq (Run.region ?_))
    refine Run.opG wantS_none (ex_move rfl) rfl ?_
    refine Run.opG wantS_none (ex_move rfl) rfl ?_
    refine Run.opG wantS_none (ex_nilP rfl) rfl ?_
    refine Run.opG wantS_none (ex_fieldAddr rfl off124_1) rfl ?_
    refine Run.opG wantS_none (ex_load1 rfl (hH41.cells (i := 0) rfl 1 rfl) rdLe_rfl agg108) rfl ?_
    refine Run.opG wantS_none (ex_move rfl) rfl ?_
    obtain ⟨l45, hl45, h⟩ := bnd_some h
    have hH48 : Has Fr M41 [.vec 5 1 ([] : List Int).length .nils (([] : List Int).flatMap enc5), .obj b36 (.row 124 .whole [(.ptr b36 0), .nils]), tb0, tb1, tb2] := hH41.nils 5 1
    refine Run.opX wantS_none rfl (ExG.append rfl rfl hH48 (i := 0) rfl enc5_len rfl enc5_ones appt108_9 rfl (str_lenZ rfl _) (str_first (fun _ => rfl) _) hl45) ?_
    rintro s45 M49 (hH49 : Has Fr M49 [.vec 5 1 l45.length s45 (l45.flatMap enc5), .obj b36 (.row 124 .whole [(.ptr b36 0), .nils]), tb0, tb1, tb2])
    refine Run.opG wantS_none (ex_nilP rfl) rfl ?_
    refine Run.opG wantS_none (ex_fieldAddr rfl off124_1) rfl ?_
    refine Run.opX wantS_none rfl (ExG.storeC (c' := [(.ptr b36 0), s45]) rfl rfl (cells_one (vec_one hH49 (i := 0) rfl)) hH49 (i := 1) rfl sz108 rfl rfl rfl (ones_cons (vec_one hH49 (i := 0) rfl) ones_nil) rfl) ?_
    rintro _ M50 ⟨rfl, (hH50 : Has Fr M50 [.vec 5 1 l45.length s45 (l45.flatMap enc5), .obj b36 (.row 124 .whole [(.ptr b36 0), s45]), tb0, tb1, tb2])⟩
    refine Run.opsEnd (Run.seq (Run.region ?_))
    refine Run.opG wantS_none (ex_move rfl) rfl ?_
    refine Run.opG wantS_none (ex_lenS rfl lenk9) rfl ?_
    refine Run.opG wantS_none (ex_assign rfl) rfl ?_
    refine Run.opG wantS_none (ex_assign rfl) rfl ?_
    refine Run.opsEnd ?_
    refine Run.retTo Tryd.func94 rfl (res_tmp rfl (res_tmp rfl res_nil)) rfl ?_
    refine Run.opsEnd (Run.inBlock (Run.region ?_))
    refine Run.opG wantS_none (ex_add rfl rfl) rfl ?_
    refine Run.opG wantS_none (ex_move rfl) rfl ?_
    refine Run.opsEnd (Run.inLoop ?_)
    exact Run.pick [5, 24, 25] (alert_textOf_2_ok F F v24_0_x0_0 v24_0_x0_1 v24_0_x0_2 v24_0_x0_3 v24_0_x0_4 v24_0_x0_5 v24_0_x0_6 v24_0_x0_7 v24_0_x0_8 l45 sv24_0_x0_6 b36 s45 _ _ _ hv24_0_x0_6 (hH50.pick [1, 0, 2, 3, 4] rfl rfl) h)

def alert_textOf (F : Nat) (a0 : S_api_Alert) : Option ((List UInt8)) :=
  alert_textOf_1 F F a0.Event a0.Version a0.Time a0.Chance.N a0.Chance.Of a0.Grid a0.Cells a0.Withdrawn a0.Before

theorem alert_textOf_ok (F : Nat) (a0 : S_api_Alert) (s0 : SV) (r : (List UInt8)) (M : Mem) (hs0 : Slc (rd M) 1 (FlatR enc3) s0 a0.Cells) (hfx : FixIn M fixes) (h : alert_textOf F a0 = some r) : CallsM Tryd.prog 75 [(.agg [(.str a0.Event), (.int .i64 a0.Version), (.int .i64 a0.Time), (.int .i64 a0.Chance.N), (.int .i64 a0.Chance.Of), (.int .i64 a0.Grid), s0, (.bool a0.Withdrawn), (.int .i64 a0.Before)])] M (fun s M' => s = (.str r) ∧ M' = M) := by
  refine CallsM.plain Tryd.func75 rfl rfl rfl (show Run _ _ _ (alert_textOf_post r) _ _ _ from ?_)
  rw [alert_textOf] at h
  replace hs0 := hs0.mono (rdLe_frozen M) (fun _ _ h => h)
  have hH : Has (ro (frozen M)) (frozen M) [tb0, tb1, tb2] := Has.ofFix hfx.frozen
  refine Run.seq (Run.region ?_)
  refine Run.opX wantS_none rfl (ExG.box rfl rfl hH) ?_
  rintro _ M26 ⟨b25, rfl, hH26⟩
  refine Run.opG wantS_none (ex_assign rfl) rfl ?_
  refine Run.opsEnd (Run.seq (Run.region ?_))
  refine Run.opG wantS_none (ex_loadA rfl (hH26.cells (i := 0) rfl 0 rfl) rdLe_rfl agg29 rfl rfl rfl) rfl ?_
  refine Run.opX wantS_none rfl (ExG.new (v := fun b => .ptr b 0) (ex_alloc zer119) hH26) ?_
  rintro _ M29 ⟨b28, rfl, hH29⟩
  refine Run.opX wantS_none rfl (ExG.storeC (c' := [(.str a0.Event), (.int .i64 a0.Version), (.int .i64 a0.Time), (.int .i64 a0.Chance.N), (.int .i64 a0.Chance.Of), (.int .i64 a0.Grid), s0, (.bool a0.Withdrawn), (.int .i64 a0.Before)]) rfl rfl rfl hH29 (i := 0) rfl sz119 rfl rfl rfl (ones_cons rfl (ones_cons rfl (ones_cons rfl (ones_cons rfl (ones_cons rfl (ones_cons rfl (ones_cons (slc_one hs0) (ones_cons rfl (ones_cons rfl ones_nil))))))))) rfl) ?_
  rintro _ M30 ⟨rfl, (hH30 : Has (ro (frozen M)) M30 [.obj b28 (.row 119 .whole [(.str a0.Event), (.int .i64 a0.Version), (.int .i64 a0.Time), (.int .i64 a0.Chance.N), (.int .i64 a0.Chance.Of), (.int .i64 a0.Grid), s0, (.bool a0.Withdrawn), (.int .i64 a0.Before)]), .obj b25 (.row 29 .whole [(.str a0.Event), (.int .i64 a0.Version), (.int .i64 a0.Time), (.int .i64 a0.Chance.N), (.int .i64 a0.Chance.Of), (.int .i64 a0.Grid), s0, (.bool a0.Withdrawn), (.int .i64 a0.Before)]), tb0, tb1, tb2])⟩
  refine Run.opsEnd (Run.seq (Run.region ?_))
  refine Run.opG wantS_none (ex_loadA rfl (hH30.cells (i := 0) rfl 0 rfl) rdLe_rfl agg119 rfl rfl rfl) rfl ?_
  refine Run.opG wantS_none (ex_makeFunc rfl rfl) rfl ?_
  refine Run.opG wantS_none (ex_loadA rfl (hH30.cells (i := 0) rfl 0 rfl) rdLe_rfl agg119 rfl rfl rfl) rfl ?_
  refine Run.opG wantS_none (ex_makeFunc rfl rfl) rfl ?_
  refine Run.opG wantS_none (ex_loadA rfl (hH30.cells (i := 0) rfl 0 rfl) rdLe_rfl agg119 rfl rfl rfl) rfl ?_
  refine Run.opG wantS_none (ex_makeFunc rfl rfl) rfl ?_
  refine Run.opG wantS_none (ex_loadA rfl (hH30.cells (i := 0) rfl 0 rfl) rdLe_rfl agg119 rfl rfl rfl) rfl ?_
  refine Run.opG wantS_none (ex_makeFunc rfl rfl) rfl ?_
  refine Run.opG wantS_none (ex_loadA rfl (hH30.cells (i := 0) rfl 0 rfl) rdLe_rfl agg119 rfl rfl rfl) rfl ?_
  refine Run.opG wantS_none (ex_makeFunc rfl rfl) rfl ?_
  refine Run.opG wantS_none (ex_loadA rfl (hH30.cells (i := 0) rfl 0 rfl) rdLe_rfl agg119 rfl rfl rfl) rfl ?_
  refine Run.opG wantS_none (ex_makeFunc rfl rfl) rfl ?_
  refine Run.opG wantS_none (ex_loadA rfl (hH30.cells (i := 0) rfl 0 rfl) rdLe_rfl agg119 rfl rfl rfl) rfl ?_
  refine Run.opG wantS_none (ex_makeFunc rfl rfl) rfl ?_
  refine Run.opG wantS_none (ex_buildA (r := [(.fn (.func 87) [(.agg [(.str a0.Event), (.int .i64 a0.Version), (.int .i64 a0.Time), (.int .i64 a0.Chance.N), (.int .i64 a0.Chance.Of), (.int .i64 a0.Grid), s0, (.bool a0.Withdrawn), (.int .i64 a0.Before)])] []), (.fn (.func 88) [(.agg [(.str a0.Event), (.int .i64 a0.Version), (.int .i64 a0.Time), (.int .i64 a0.Chance.N), (.int .i64 a0.Chance.Of), (.int .i64 a0.Grid), s0, (.bool a0.Withdrawn), (.int .i64 a0.Before)])] []), (.fn (.func 89) [(.agg [(.str a0.Event), (.int .i64 a0.Version), (.int .i64 a0.Time), (.int .i64 a0.Chance.N), (.int .i64 a0.Chance.Of), (.int .i64 a0.Grid), s0, (.bool a0.Withdrawn), (.int .i64 a0.Before)])] []), (.fn (.func 90) [(.agg [(.str a0.Event), (.int .i64 a0.Version), (.int .i64 a0.Time), (.int .i64 a0.Chance.N), (.int .i64 a0.Chance.Of), (.int .i64 a0.Grid), s0, (.bool a0.Withdrawn), (.int .i64 a0.Before)])] []), (.fn (.func 91) [(.agg [(.str a0.Event), (.int .i64 a0.Version), (.int .i64 a0.Time), (.int .i64 a0.Chance.N), (.int .i64 a0.Chance.Of), (.int .i64 a0.Grid), s0, (.bool a0.Withdrawn), (.int .i64 a0.Before)])] []), (.fn (.func 92) [(.agg [(.str a0.Event), (.int .i64 a0.Version), (.int .i64 a0.Time), (.int .i64 a0.Chance.N), (.int .i64 a0.Chance.Of), (.int .i64 a0.Grid), s0, (.bool a0.Withdrawn), (.int .i64 a0.Before)])] []), (.fn (.func 93) [(.agg [(.str a0.Event), (.int .i64 a0.Version), (.int .i64 a0.Time), (.int .i64 a0.Chance.N), (.int .i64 a0.Chance.Of), (.int .i64 a0.Grid), s0, (.bool a0.Withdrawn), (.int .i64 a0.Before)])] [])]) rfl zer121 pls121 rfl) rfl ?_
  refine Run.opX wantS_none rfl (ExG.new (v := fun b => .ptr b 0) (ex_alloc zer121) hH30) ?_
  rintro _ M33 ⟨b32, rfl, hH33⟩
  refine Run.opX wantS_none rfl (ExG.storeC (c' := [(.fn (.func 87) [(.agg [(.str a0.Event), (.int .i64 a0.Version), (.int .i64 a0.Time), (.int .i64 a0.Chance.N), (.int .i64 a0.Chance.Of), (.int .i64 a0.Grid), s0, (.bool a0.Withdrawn), (.int .i64 a0.Before)])] []), (.fn (.func 88) [(.agg [(.str a0.Event), (.int .i64 a0.Version), (.int .i64 a0.Time), (.int .i64 a0.Chance.N), (.int .i64 a0.Chance.Of), (.int .i64 a0.Grid), s0, (.bool a0.Withdrawn), (.int .i64 a0.Before)])] []), (.fn (.func 89) [(.agg [(.str a0.Event), (.int .i64 a0.Version), (.int .i64 a0.Time), (.int .i64 a0.Chance.N), (.int .i64 a0.Chance.Of), (.int .i64 a0.Grid), s0, (.bool a0.Withdrawn), (.int .i64 a0.Before)])] []), (.fn (.func 90) [(.agg [(.str a0.Event), (.int .i64 a0.Version), (.int .i64 a0.Time), (.int .i64 a0.Chance.N), (.int .i64 a0.Chance.Of), (.int .i64 a0.Grid), s0, (.bool a0.Withdrawn), (.int .i64 a0.Before)])] []), (.fn (.func 91) [(.agg [(.str a0.Event), (.int .i64 a0.Version), (.int .i64 a0.Time), (.int .i64 a0.Chance.N), (.int .i64 a0.Chance.Of), (.int .i64 a0.Grid), s0, (.bool a0.Withdrawn), (.int .i64 a0.Before)])] []), (.fn (.func 92) [(.agg [(.str a0.Event), (.int .i64 a0.Version), (.int .i64 a0.Time), (.int .i64 a0.Chance.N), (.int .i64 a0.Chance.Of), (.int .i64 a0.Grid), s0, (.bool a0.Withdrawn), (.int .i64 a0.Before)])] []), (.fn (.func 93) [(.agg [(.str a0.Event), (.int .i64 a0.Version), (.int .i64 a0.Time), (.int .i64 a0.Chance.N), (.int .i64 a0.Chance.Of), (.int .i64 a0.Grid), s0, (.bool a0.Withdrawn), (.int .i64 a0.Before)])] [])]) rfl rfl rfl hH33 (i := 0) rfl sz121 rfl rfl rfl rfl rfl) ?_
  rintro _ M34 ⟨rfl, (hH34 : Has (ro (frozen M)) M34 [.obj b32 (.row 121 .whole [(.fn (.func 87) [(.agg [(.str a0.Event), (.int .i64 a0.Version), (.int .i64 a0.Time), (.int .i64 a0.Chance.N), (.int .i64 a0.Chance.Of), (.int .i64 a0.Grid), s0, (.bool a0.Withdrawn), (.int .i64 a0.Before)])] []), (.fn (.func 88) [(.agg [(.str a0.Event), (.int .i64 a0.Version), (.int .i64 a0.Time), (.int .i64 a0.Chance.N), (.int .i64 a0.Chance.Of), (.int .i64 a0.Grid), s0, (.bool a0.Withdrawn), (.int .i64 a0.Before)])] []), (.fn (.func 89) [(.agg [(.str a0.Event), (.int .i64 a0.Version), (.int .i64 a0.Time), (.int .i64 a0.Chance.N), (.int .i64 a0.Chance.Of), (.int .i64 a0.Grid), s0, (.bool a0.Withdrawn), (.int .i64 a0.Before)])] []), (.fn (.func 90) [(.agg [(.str a0.Event), (.int .i64 a0.Version), (.int .i64 a0.Time), (.int .i64 a0.Chance.N), (.int .i64 a0.Chance.Of), (.int .i64 a0.Grid), s0, (.bool a0.Withdrawn), (.int .i64 a0.Before)])] []), (.fn (.func 91) [(.agg [(.str a0.Event), (.int .i64 a0.Version), (.int .i64 a0.Time), (.int .i64 a0.Chance.N), (.int .i64 a0.Chance.Of), (.int .i64 a0.Grid), s0, (.bool a0.Withdrawn), (.int .i64 a0.Before)])] []), (.fn (.func 92) [(.agg [(.str a0.Event), (.int .i64 a0.Version), (.int .i64 a0.Time), (.int .i64 a0.Chance.N), (.int .i64 a0.Chance.Of), (.int .i64 a0.Grid), s0, (.bool a0.Withdrawn), (.int .i64 a0.Before)])] []), (.fn (.func 93) [(.agg [(.str a0.Event), (.int .i64 a0.Version), (.int .i64 a0.Time), (.int .i64 a0.Chance.N), (.int .i64 a0.Chance.Of), (.int .i64 a0.Grid), s0, (.bool a0.Withdrawn), (.int .i64 a0.Before)])] [])]), .obj b28 (.row 119 .whole [(.str a0.Event), (.int .i64 a0.Version), (.int .i64 a0.Time), (.int .i64 a0.Chance.N), (.int .i64 a0.Chance.Of), (.int .i64 a0.Grid), s0, (.bool a0.Withdrawn), (.int .i64 a0.Before)]), .obj b25 (.row 29 .whole [(.str a0.Event), (.int .i64 a0.Version), (.int .i64 a0.Time), (.int .i64 a0.Chance.N), (.int .i64 a0.Chance.Of), (.int .i64 a0.Grid), s0, (.bool a0.Withdrawn), (.int .i64 a0.Before)]), tb0, tb1, tb2])⟩
  refine Run.opsEnd (Run.seq (Run.region ?_))
  refine Run.opX wantS_none rfl (ExG.new (v := fun b => .ptr b 0) (ex_alloc zer124) hH34) ?_
  rintro _ M37 ⟨b36, rfl, hH37⟩
  refine Run.opsEnd (Run.seq (Run.seq (Run.region ?_)))
  refine Run.opG wantS_none (ex_loadA rfl (hH37.cells (i := 1) rfl 0 rfl) rdLe_rfl agg121 rfl rfl rfl) rfl ?_
  refine Run.opG wantS_none (ex_move rfl) rfl ?_
  refine Run.opsEnd (Run.block (Run.loop ?_))
  exact Run.pick [5, 24, 25] (alert_textOf_1_ok F F a0.Event a0.Version a0.Time a0.Chance.N a0.Chance.Of a0.Grid a0.Cells a0.Withdrawn a0.Before s0 b36 _ _ _ hs0 (hH37.pick [0, 4, 5, 6] rfl rfl) h)

theorem mkk75 : makeK Tryd.prog 75 = none := by kernel_rfl
theorem cal75 : callable Tryd.prog 75 = true := by kernel_rfl
theorem uvk5_3 : uvK Tryd.prog 5 3 = none := by kernel_rfl
theorem cvk5_3 : cvK Tryd.prog 5 3 = some (.int .i64) := by kernel_rfl
abbrev alert_digestOf_post (r : Int) : SV → Mem → Prop := fun s _ => s = (.int .i64 r)

def alert_digestOf_1 (F : Nat) : Nat → Int → (List Int) → Int → Int → Option (Int)
  | 0, _, _, _, _ => none
  | N + 1, v3, v8, v9, v10 =>
    bif (decide (v10 < v9)) then
      bnd (idx v8 v10) fun x37 =>
      (alert_digestOf_1 F N) (Int.tmod (w64 ((w64 ((w64 (v3 * (31 : Int))) + (w64 x37))) + (1 : Int))) (2147483647 : Int)) v8 v9 (w64 (v10 + (1 : Int)))
    else
      some v3

theorem alert_digestOf_1_ok (F : Nat) : ∀ (N : Nat), ∀ (v3 : Int) (v8 : (List Int)) (v9 v10 : Int) (sv8 : SV) (Fr : Rd) (M : Mem) (r : Int) (hv8 : Slc Fr 1 (FlatR enc5) sv8 v8) (hH : Has Fr M [tb0, tb1, tb2]), alert_digestOf_1 F N v3 v8 v9 v10 = some r → Run Tryd.prog ⟨⟨45, [], none⟩, []⟩ 23 (alert_digestOf_post r) [(3, (.int .i64 v3)), (8, sv8), (9, (.int .i64 v9)), (10, (.int .i64 v10))] [codeC Tryd.prog 45 [1, 1, 0, 1, 0, 0], loopC Tryd.prog 45 [1, 1, 0, 1, 0, 0], .inBlock 0, codeC Tryd.prog 45 [1, 1, 1]] M := by
  intro N
  induction N with
  | zero =>
    intro v3 v8 v9 v10 sv8 Fr M r hv8 hH h
    simp [alert_digestOf_1] at h
  | succ N ih =>
    intro v3 v8 v9 v10 sv8 Fr M r hv8 hH h
    rw [alert_digestOf_1] at h
    refine Run.seq (Run.region ?_)
    refine Run.opG wantS_none (ex_lss rfl rfl) rfl ?_
    refine Run.opsEnd (Run.seq ?_)
    rcases btf ((decide (v10 < v9))) with hc35 | hc35
    · have h := bif_t hc35 h
      refine Run.condT' rfl hc35 ?_
      refine Run.skip (Run.seq (Run.block (Run.seq (Run.region ?_))))
      obtain ⟨x37, hx37, h⟩ := bnd_some h
      obtain ⟨p37, o37, _, hx37, hp37, rfl⟩ := sl_elem (P := Tryd.prog) (t := 108) (kk := .i64) hv8 hx37 els108
      refine Run.opG wantS_none (ex_elX rfl rfl hx37) rfl ?_
      refine Run.opG wantS_none (ex_load1 rfl (hH.ptrF hp37) rdLe_rfl agg5) rfl ?_
      refine Run.opG wantS_none (ex_assign rfl) rfl ?_
      refine Run.opsEnd (Run.region ?_)
      refine Run.opG wantS_none (ex_move rfl) rfl ?_
      refine Run.opG wantS_none (ex_mul rfl rfl) rfl ?_
      refine Run.opG wantS_none (ex_move rfl) rfl ?_
      refine Run.opG wantS_none (ex_conv rfl uvk5_3 cvk5_3) rfl ?_
      refine Run.opG wantS_none (ex_add rfl rfl) rfl ?_
      refine Run.opG wantS_none (ex_add rfl rfl) rfl ?_
      refine Run.opG wantS_none (ex_rem rfl rfl (by decide)) rfl ?_
      refine Run.opG wantS_none (ex_assign rfl) rfl ?_
      refine Run.opsEnd (Run.inBlock (Run.region ?_))
      refine Run.opG wantS_none (ex_add rfl rfl) rfl ?_
      refine Run.opG wantS_none (ex_move rfl) rfl ?_
      refine Run.opsEnd (Run.inLoop ?_)
      exact Run.pick [3, 8, 9, 10] (ih (Int.tmod (w64 ((w64 ((w64 (v3 * (31 : Int))) + (w64 x37))) + (1 : Int))) (2147483647 : Int)) v8 v9 (w64 (v10 + (1 : Int))) sv8 _ _ _ hv8 hH h)
    · have h := bif_f hc35 h
      refine Run.condF' rfl hc35 ?_
      refine Run.exit rfl (Run.seq (Run.region ?_))
      refine Run.opG wantS_none (ex_move rfl) rfl ?_
      refine Run.opG wantS_none (ex_assign rfl) rfl ?_
      refine Run.opsEnd ?_
      cases h
      exact Run.ret Tryd.func45 rfl (res_tmp rfl res_nil) rfl

def alert_digestOf (F : Nat) (a0 : S_api_Alert) : Option (Int) :=
  bnd (alert_textOf F a0) fun r28 =>
  bnd (byt r28) fun l31 =>
  alert_digestOf_1 F F (7 : Int) l31 (l31.length : Int) (0 : Int)

theorem alert_digestOf_ok (F : Nat) (a0 : S_api_Alert) (s0 : SV) (r : Int) (M : Mem) (hs0 : Slc (rd M) 1 (FlatR enc3) s0 a0.Cells) (hfx : FixIn M fixes) (h : alert_digestOf F a0 = some r) : CallsM Tryd.prog 45 [(.agg [(.str a0.Event), (.int .i64 a0.Version), (.int .i64 a0.Time), (.int .i64 a0.Chance.N), (.int .i64 a0.Chance.Of), (.int .i64 a0.Grid), s0, (.bool a0.Withdrawn), (.int .i64 a0.Before)])] M (fun s M' => s = (.int .i64 r) ∧ M' = M) := by
  refine CallsM.plain Tryd.func45 rfl rfl rfl (show Run _ _ _ (alert_digestOf_post r) _ _ _ from ?_)
  rw [alert_digestOf] at h
  replace hs0 := hs0.mono (rdLe_frozen M) (fun _ _ h => h)
  have hH : Has (ro (frozen M)) (frozen M) [tb0, tb1, tb2] := Has.ofFix hfx.frozen
  refine Run.seq (Run.region ?_)
  refine Run.opX wantS_none rfl (ExG.box rfl rfl hH) ?_
  rintro _ M26 ⟨b25, rfl, hH26⟩
  refine Run.opG wantS_none (ex_assign rfl) rfl ?_
  refine Run.opsEnd (Run.seq (Run.region ?_))
  refine Run.opG wantS_none (ex_assign rfl) rfl ?_
  refine Run.opsEnd (Run.seq (Run.seq (Run.region ?_)))
  refine Run.opG wantS_none (ex_loadA rfl (hH26.cells (i := 0) rfl 0 rfl) rdLe_rfl agg29 rfl rfl rfl) rfl ?_
  obtain ⟨r28, hr28, h⟩ := bnd_some h
  refine Run.callP wantS_none (ex_call rfl mkk75 cal75) rfl (alert_textOf_ok F a0 s0 _ _ (hH26.slcF hs0) (fixH hH26 (List.mem_of_getElem? (i := 1) rfl) (List.mem_of_getElem? (i := 2) rfl) (List.mem_of_getElem? (i := 3) rfl)) hr28) ?_
  obtain ⟨l31, hl31, h⟩ := bnd_some h
  refine Run.opX wantS_none rfl (ExG.bytes rfl uvk9_108 cvk9_108 hl31 hH26) ?_
  rintro _ M32 ⟨b32, rfl, hH32⟩
  refine Run.freezeB (t := 8) (i := 0) (enc := enc5) (fun _ => rfl) hl31 rfl hH32 rfl ?_
  intro F33 M33 hle33 (hH33 : Has F33 M33 [.vec 0 0 0 .nils [], .obj b25 (.row 29 .whole [(.str a0.Event), (.int .i64 a0.Version), (.int .i64 a0.Time), (.int .i64 a0.Chance.N), (.int .i64 a0.Chance.Of), (.int .i64 a0.Grid), s0, (.bool a0.Withdrawn), (.int .i64 a0.Before)]), tb0, tb1, tb2]) hf33
  replace hs0 := hs0.mono hle33 (fun _ _ h => h)
  refine Run.opG wantS_none (ex_len' rfl hf33 lenk108) rfl ?_
  refine Run.opG wantS_none (ex_move rfl) rfl ?_
  refine Run.opsEnd (Run.block (Run.loop ?_))
  exact Run.pick [3, 8, 9, 10] (alert_digestOf_1_ok F F (7 : Int) l31 (l31.length : Int) (0 : Int) (.ope b32 0 l31.length 1) _ _ _ hf33 (hH33.pick [2, 3, 4] rfl rfl) h)

theorem mkk45 : makeK Tryd.prog 45 = none := by kernel_rfl
theorem cal45 : callable Tryd.prog 45 = true := by kernel_rfl
theorem sz9 : szOf Tryd.prog 9 = some 1 := by kernel_rfl
theorem sz3 : szOf Tryd.prog 3 = some 1 := by kernel_rfl
theorem plan63_1_1_0 : planOf Tryd.prog (opsC (atC Tryd.prog 63 [1, 1, 0])) = some [.fl 0, .fl 1, .fl 2, .fl 3, .fl 4, .fl 5, .fl 7, .an 6 [7, 4, 3, 2, 1, 0], .an 8 [4, 3, 2], .fl 9, .an 10 [], .fl 11, .an 12 [], .sync] := by kernel_rfl
abbrev alert_next_post (r : S_api_Alert × Int) : SV → Mem → Prop := fun s Me => ∃ q1, s = (.tuple [(.agg [(.str r.1.Event), (.int .i64 r.1.Version), (.int .i64 r.1.Time), (.int .i64 r.1.Chance.N), (.int .i64 r.1.Chance.Of), (.int .i64 r.1.Grid), q1, (.bool r.1.Withdrawn), (.int .i64 r.1.Before)]), (.int .i64 r.2)]) ∧ Has (fun _ => none) Me [.vec 3 1 r.1.Cells.length q1 (r.1.Cells.flatMap enc3)]

def alert_next (F : Nat) (a0 a1 : S_api_Alert) : Option (S_api_Alert × Int) :=
  bnd (alert_CheckAlert F a0) fun r34 =>
  bif (!(r34 == (0 : Int))) then
    some ((S_api_Alert.mk [] 0 0 (S_api_Chance.mk 0 0) 0 ([] : List Int) false 0), r34)
  else
    bif a0.Withdrawn then
      some ((S_api_Alert.mk [] 0 0 (S_api_Chance.mk 0 0) 0 ([] : List Int) false 0), (107 : Int))
    else
      bif (decide (a1.Time < a0.Time)) then
        some ((S_api_Alert.mk [] 0 0 (S_api_Chance.mk 0 0) 0 ([] : List Int) false 0), (108 : Int))
      else
        bnd (alert_digestOf F a0) fun r48 =>
        bnd (alert_checked F (S_api_Alert.mk a0.Event (w64 (a0.Version + (1 : Int))) a1.Time a1.Chance a1.Grid a1.Cells a1.Withdrawn r48)) fun r55 =>
        some (r55.1, r55.2)

theorem alert_next_ok (F : Nat) (a0 a1 : S_api_Alert) (s0 s1 : SV) (r : S_api_Alert × Int) (M : Mem) (hs0 : Slc (rd M) 1 (FlatR enc3) s0 a0.Cells) (hs1 : Slc (rd M) 1 (FlatR enc3) s1 a1.Cells) (hfx : FixIn M fixes) (h : alert_next F a0 a1 = some r) : CallsM Tryd.prog 63 [(.agg [(.str a0.Event), (.int .i64 a0.Version), (.int .i64 a0.Time), (.int .i64 a0.Chance.N), (.int .i64 a0.Chance.Of), (.int .i64 a0.Grid), s0, (.bool a0.Withdrawn), (.int .i64 a0.Before)]), (.agg [(.str a1.Event), (.int .i64 a1.Version), (.int .i64 a1.Time), (.int .i64 a1.Chance.N), (.int .i64 a1.Chance.Of), (.int .i64 a1.Grid), s1, (.bool a1.Withdrawn), (.int .i64 a1.Before)])] M (fun s M' => ∃ q1, s = (.tuple [(.agg [(.str r.1.Event), (.int .i64 r.1.Version), (.int .i64 r.1.Time), (.int .i64 r.1.Chance.N), (.int .i64 r.1.Chance.Of), (.int .i64 r.1.Grid), q1, (.bool r.1.Withdrawn), (.int .i64 r.1.Before)]), (.int .i64 r.2)]) ∧ New M M' [.vec 3 1 r.1.Cells.length q1 (r.1.Cells.flatMap enc3)]) := by
  refine CallsM.fresh (Q := alert_next_post r) Tryd.func63 rfl rfl ?_ (by rintro s Me ⟨q1, rfl, hx⟩ ha hw; exact ⟨_, rfl, New.of rfl hx ha hw⟩)
  rw [alert_next] at h
  replace hs0 := hs0.mono (rdLe_frozen M) (fun _ _ h => h)
  replace hs1 := hs1.mono (rdLe_frozen M) (fun _ _ h => h)
  have hH : Has (ro (frozen M)) (frozen M) [tb0, tb1, tb2] := Has.ofFix hfx.frozen
  refine Run.seq (Run.region ?_)
  refine Run.opX wantS_none rfl (ExG.box rfl rfl hH) ?_
  rintro _ M26 ⟨b25, rfl, hH26⟩
  refine Run.opX wantS_none rfl (ExG.box rfl rfl hH26) ?_
  rintro _ M29 ⟨b28, rfl, hH29⟩
  refine Run.opX wantS_none rfl (ExG.new (v := fun b => .ptr b 0) (ex_alloc zer29) hH29) ?_
  rintro _ M32 ⟨b31, rfl, hH32⟩
  refine Run.opG wantS_none (ex_assign rfl) rfl ?_
  refine Run.opsEnd (Run.seq (Run.seq (Run.region ?_)))
  refine Run.opG wantS_none (ex_loadA rfl (hH32.cells (i := 2) rfl 0 rfl) rdLe_rfl agg29 rfl rfl rfl) rfl ?_
  obtain ⟨r34, hr34, h⟩ := bnd_some h
  refine Run.callP wantS_none (ex_call rfl mkk69 cal69) rfl (alert_CheckAlert_ok F a0 s0 _ _ (hH32.slcF hs0) hr34) ?_
  refine Run.opG wantS_none (ex_assign rfl) rfl ?_
  refine Run.opsEnd (Run.block (Run.seq (Run.region ?_)))
  refine Run.opG wantS_none (ex_move rfl) rfl ?_
  refine Run.opG wantS_none (ex_neq rfl rfl) rfl ?_
  refine Run.opG wantS_none (ex_assign rfl) rfl ?_
  refine Run.opsEnd ?_
  rcases btf ((!(r34 == (0 : Int)))) with hc36 | hc36
  · have h := bif_t hc36 h
    refine Run.condT' rfl hc36 ?_
    refine Run.seq (Run.region ?_)
    refine Run.opG wantS_none (ex_build (r := [(.str []), (.int .i64 0), (.int .i64 0), (.int .i64 0), (.int .i64 0), (.int .i64 0), .nils, (.bool false), (.int .i64 0)]) rfl zer29 pls29 rfl) rfl ?_
    refine Run.opG wantS_none (ex_move rfl) rfl ?_
    refine Run.opX wantS_none rfl (ExG.storeC (c' := [(.str []), (.int .i64 0), (.int .i64 0), (.int .i64 0), (.int .i64 0), (.int .i64 0), .nils, (.bool false), (.int .i64 0)]) rfl rfl rfl hH32 (i := 0) rfl sz29 rfl rfl rfl rfl rfl) ?_
    rintro _ M37 ⟨rfl, (hH37 : Has (ro (frozen M)) M37 [.obj b31 (.row 29 .whole [(.str []), (.int .i64 0), (.int .i64 0), (.int .i64 0), (.int .i64 0), (.int .i64 0), .nils, (.bool false), (.int .i64 0)]), .obj b28 (.row 29 .whole [(.str a1.Event), (.int .i64 a1.Version), (.int .i64 a1.Time), (.int .i64 a1.Chance.N), (.int .i64 a1.Chance.Of), (.int .i64 a1.Grid), s1, (.bool a1.Withdrawn), (.int .i64 a1.Before)]), .obj b25 (.row 29 .whole [(.str a0.Event), (.int .i64 a0.Version), (.int .i64 a0.Time), (.int .i64 a0.Chance.N), (.int .i64 a0.Chance.Of), (.int .i64 a0.Grid), s0, (.bool a0.Withdrawn), (.int .i64 a0.Before)]), tb0, tb1, tb2])⟩
    refine Run.opG wantS_none (ex_assign rfl) rfl ?_
    refine Run.opsEnd ?_
    have hH39 : Has (ro (frozen M)) M37 [.vec 3 1 ([] : List Int).length .nils (([] : List Int).flatMap enc3), .obj b31 (.row 29 .whole [(.str []), (.int .i64 0), (.int .i64 0), (.int .i64 0), (.int .i64 0), (.int .i64 0), .nils, (.bool false), (.int .i64 0)]), .obj b28 (.row 29 .whole [(.str a1.Event), (.int .i64 a1.Version), (.int .i64 a1.Time), (.int .i64 a1.Chance.N), (.int .i64 a1.Chance.Of), (.int .i64 a1.Grid), s1, (.bool a1.Withdrawn), (.int .i64 a1.Before)]), .obj b25 (.row 29 .whole [(.str a0.Event), (.int .i64 a0.Version), (.int .i64 a0.Time), (.int .i64 a0.Chance.N), (.int .i64 a0.Chance.Of), (.int .i64 a0.Grid), s0, (.bool a0.Withdrawn), (.int .i64 a0.Before)]), tb0, tb1, tb2] := hH37.nils 3 1
    cases h
    exact Run.ret Tryd.func63 rfl (res_cell rfl (x_load (ex_loadA rfl (hH37.cells (i := 0) rfl 0 rfl) rdLe_rfl agg29 rfl rfl rfl)) (res_tmp rfl res_nil)) ⟨_, rfl, (hH39.pick [0] rfl rfl).upF (none_le _)⟩
  · have h := bif_f hc36 h
    refine Run.condF' rfl hc36 ?_
    refine Run.seq (Run.region ?_)
    refine Run.opG wantS_none (ex_fieldAddr rfl off29_6) rfl ?_
    refine Run.opG wantS_none (ex_load1 rfl (hH32.cells (i := 2) rfl 7 rfl) rdLe_rfl agg4) rfl ?_
    refine Run.opG wantS_none (ex_assign rfl) rfl ?_
    refine Run.opsEnd ?_
    rcases btf (a0.Withdrawn) with hc40 | hc40
    · have h := bif_t hc40 h
      refine Run.condT' rfl hc40 ?_
      refine Run.seq (Run.region ?_)
      refine Run.opG wantS_none (ex_build (r := [(.str []), (.int .i64 0), (.int .i64 0), (.int .i64 0), (.int .i64 0), (.int .i64 0), .nils, (.bool false), (.int .i64 0)]) rfl zer29 pls29 rfl) rfl ?_
      refine Run.opX wantS_none rfl (ExG.storeC (c' := [(.str []), (.int .i64 0), (.int .i64 0), (.int .i64 0), (.int .i64 0), (.int .i64 0), .nils, (.bool false), (.int .i64 0)]) rfl rfl rfl hH32 (i := 0) rfl sz29 rfl rfl rfl rfl rfl) ?_
      rintro _ M41 ⟨rfl, (hH41 : Has (ro (frozen M)) M41 [.obj b31 (.row 29 .whole [(.str []), (.int .i64 0), (.int .i64 0), (.int .i64 0), (.int .i64 0), (.int .i64 0), .nils, (.bool false), (.int .i64 0)]), .obj b28 (.row 29 .whole [(.str a1.Event), (.int .i64 a1.Version), (.int .i64 a1.Time), (.int .i64 a1.Chance.N), (.int .i64 a1.Chance.Of), (.int .i64 a1.Grid), s1, (.bool a1.Withdrawn), (.int .i64 a1.Before)]), .obj b25 (.row 29 .whole [(.str a0.Event), (.int .i64 a0.Version), (.int .i64 a0.Time), (.int .i64 a0.Chance.N), (.int .i64 a0.Chance.Of), (.int .i64 a0.Grid), s0, (.bool a0.Withdrawn), (.int .i64 a0.Before)]), tb0, tb1, tb2])⟩
      refine Run.opG wantS_none (ex_assign rfl) rfl ?_
      refine Run.opsEnd ?_
      have hH43 : Has (ro (frozen M)) M41 [.vec 3 1 ([] : List Int).length .nils (([] : List Int).flatMap enc3), .obj b31 (.row 29 .whole [(.str []), (.int .i64 0), (.int .i64 0), (.int .i64 0), (.int .i64 0), (.int .i64 0), .nils, (.bool false), (.int .i64 0)]), .obj b28 (.row 29 .whole [(.str a1.Event), (.int .i64 a1.Version), (.int .i64 a1.Time), (.int .i64 a1.Chance.N), (.int .i64 a1.Chance.Of), (.int .i64 a1.Grid), s1, (.bool a1.Withdrawn), (.int .i64 a1.Before)]), .obj b25 (.row 29 .whole [(.str a0.Event), (.int .i64 a0.Version), (.int .i64 a0.Time), (.int .i64 a0.Chance.N), (.int .i64 a0.Chance.Of), (.int .i64 a0.Grid), s0, (.bool a0.Withdrawn), (.int .i64 a0.Before)]), tb0, tb1, tb2] := hH41.nils 3 1
      cases h
      exact Run.ret Tryd.func63 rfl (res_cell rfl (x_load (ex_loadA rfl (hH41.cells (i := 0) rfl 0 rfl) rdLe_rfl agg29 rfl rfl rfl)) (res_tmp rfl res_nil)) ⟨_, rfl, (hH43.pick [0] rfl rfl).upF (none_le _)⟩
    · have h := bif_f hc40 h
      refine Run.condF' rfl hc40 ?_
      refine Run.seq (Run.region ?_)
      refine Run.opG wantS_none (ex_fieldAddr rfl off29_2) rfl ?_
      refine Run.opG wantS_none (ex_load1 rfl (hH32.cells (i := 1) rfl 2 rfl) rdLe_rfl agg3) rfl ?_
      refine Run.opG wantS_none (ex_fieldAddr rfl off29_2) rfl ?_
      refine Run.opG wantS_none (ex_load1 rfl (hH32.cells (i := 2) rfl 2 rfl) rdLe_rfl agg3) rfl ?_
      refine Run.opG wantS_none (ex_lss rfl rfl) rfl ?_
      refine Run.opG wantS_none (ex_assign rfl) rfl ?_
      refine Run.opsEnd ?_
      rcases btf ((decide (a1.Time < a0.Time))) with hc44 | hc44
      · have h := bif_t hc44 h
        refine Run.condT' rfl hc44 ?_
        refine Run.seq (Run.region ?_)
        refine Run.opG wantS_none (ex_build (r := [(.str []), (.int .i64 0), (.int .i64 0), (.int .i64 0), (.int .i64 0), (.int .i64 0), .nils, (.bool false), (.int .i64 0)]) rfl zer29 pls29 rfl) rfl ?_
        refine Run.opX wantS_none rfl (ExG.storeC (c' := [(.str []), (.int .i64 0), (.int .i64 0), (.int .i64 0), (.int .i64 0), (.int .i64 0), .nils, (.bool false), (.int .i64 0)]) rfl rfl rfl hH32 (i := 0) rfl sz29 rfl rfl rfl rfl rfl) ?_
        rintro _ M45 ⟨rfl, (hH45 : Has (ro (frozen M)) M45 [.obj b31 (.row 29 .whole [(.str []), (.int .i64 0), (.int .i64 0), (.int .i64 0), (.int .i64 0), (.int .i64 0), .nils, (.bool false), (.int .i64 0)]), .obj b28 (.row 29 .whole [(.str a1.Event), (.int .i64 a1.Version), (.int .i64 a1.Time), (.int .i64 a1.Chance.N), (.int .i64 a1.Chance.Of), (.int .i64 a1.Grid), s1, (.bool a1.Withdrawn), (.int .i64 a1.Before)]), .obj b25 (.row 29 .whole [(.str a0.Event), (.int .i64 a0.Version), (.int .i64 a0.Time), (.int .i64 a0.Chance.N), (.int .i64 a0.Chance.Of), (.int .i64 a0.Grid), s0, (.bool a0.Withdrawn), (.int .i64 a0.Before)]), tb0, tb1, tb2])⟩
        refine Run.opG wantS_none (ex_assign rfl) rfl ?_
        refine Run.opsEnd ?_
        have hH47 : Has (ro (frozen M)) M45 [.vec 3 1 ([] : List Int).length .nils (([] : List Int).flatMap enc3), .obj b31 (.row 29 .whole [(.str []), (.int .i64 0), (.int .i64 0), (.int .i64 0), (.int .i64 0), (.int .i64 0), .nils, (.bool false), (.int .i64 0)]), .obj b28 (.row 29 .whole [(.str a1.Event), (.int .i64 a1.Version), (.int .i64 a1.Time), (.int .i64 a1.Chance.N), (.int .i64 a1.Chance.Of), (.int .i64 a1.Grid), s1, (.bool a1.Withdrawn), (.int .i64 a1.Before)]), .obj b25 (.row 29 .whole [(.str a0.Event), (.int .i64 a0.Version), (.int .i64 a0.Time), (.int .i64 a0.Chance.N), (.int .i64 a0.Chance.Of), (.int .i64 a0.Grid), s0, (.bool a0.Withdrawn), (.int .i64 a0.Before)]), tb0, tb1, tb2] := hH45.nils 3 1
        cases h
        exact Run.ret Tryd.func63 rfl (res_cell rfl (x_load (ex_loadA rfl (hH45.cells (i := 0) rfl 0 rfl) rdLe_rfl agg29 rfl rfl rfl)) (res_tmp rfl res_nil)) ⟨_, rfl, (hH47.pick [0] rfl rfl).upF (none_le _)⟩
      · have h := bif_f hc44 h
        refine Run.condF' rfl hc44 ?_
        refine Run.skip (Run.inBlock (Run.seq ?_))
        refine Run.drawG plan63_1_1_0 ?_
        refine DrawG.fl rfl (ev_ex wantS_none (ex_fieldAddr rfl off29_0)) rfl ?_
        refine DrawG.fl rfl (ev_ex wantS_none (ex_load1 rfl (hH32.cells (i := 2) rfl 0 rfl) rdLe_rfl agg9)) rfl ?_
        refine DrawG.fl rfl (ev_ex wantS_none (ex_fieldAddr rfl off29_1)) rfl ?_
        refine DrawG.fl rfl (ev_ex wantS_none (ex_load1 rfl (hH32.cells (i := 2) rfl 1 rfl) rdLe_rfl agg3)) rfl ?_
        refine DrawG.fl rfl (ev_ex wantS_none (ex_add rfl rfl)) rfl ?_
        refine DrawG.fl rfl (ev_ex wantS_none (ex_loadA rfl (hH32.cells (i := 2) rfl 0 rfl) rdLe_rfl agg29 rfl rfl rfl)) rfl ?_
        refine DrawG.fl rfl (ev_ex wantS_none (ex_fieldAddr rfl off29_0)) rfl ?_
        obtain ⟨r48, hr48, h⟩ := bnd_some h
        refine DrawG.callP rfl wantS_none (ex_call rfl mkk45 cal45) rfl (alert_digestOf_ok F a0 s0 _ _ (hH32.slcF hs0) (fixH hH32 (List.mem_of_getElem? (i := 3) rfl) (List.mem_of_getElem? (i := 4) rfl) (List.mem_of_getElem? (i := 5) rfl)) hr48) (st_cons rfl (ev_ex wantS_none (ex_fieldAddr rfl off29_0)) rfl rfl rfl (st_cons rfl (ev_ex wantS_none (ex_add rfl rfl)) rfl rfl rfl (st_cons rfl (ev_ex wantS_none (ex_load1 rfl (hH32.cells (i := 2) rfl 1 rfl) rdLe_rfl agg3)) rfl rfl rfl (st_cons rfl (ev_ex wantS_none (ex_fieldAddr rfl off29_1)) rfl rfl rfl (st_cons rfl (ev_ex wantS_none (ex_load1 rfl (hH32.cells (i := 2) rfl 0 rfl) rdLe_rfl agg9)) rfl rfl rfl (st_cons rfl (ev_ex wantS_none (ex_fieldAddr rfl off29_0)) rfl rfl rfl st_nil)))))) ?_
        refine DrawG.opX rfl wantS_none rfl (ExG.storeC (c' := [(.str a0.Event), (.int .i64 a1.Version), (.int .i64 a1.Time), (.int .i64 a1.Chance.N), (.int .i64 a1.Chance.Of), (.int .i64 a1.Grid), s1, (.bool a1.Withdrawn), (.int .i64 a1.Before)]) rfl rfl rfl hH32 (i := 1) rfl sz9 rfl rfl rfl rfl rfl) ?_
        rintro _ M50 ⟨rfl, (hH50 : Has (ro (frozen M)) M50 [.obj b31 (.row 29 .whole [(.str []), (.int .i64 0), (.int .i64 0), (.int .i64 0), (.int .i64 0), (.int .i64 0), .nils, (.bool false), (.int .i64 0)]), .obj b28 (.row 29 .whole [(.str a0.Event), (.int .i64 a1.Version), (.int .i64 a1.Time), (.int .i64 a1.Chance.N), (.int .i64 a1.Chance.Of), (.int .i64 a1.Grid), s1, (.bool a1.Withdrawn), (.int .i64 a1.Before)]), .obj b25 (.row 29 .whole [(.str a0.Event), (.int .i64 a0.Version), (.int .i64 a0.Time), (.int .i64 a0.Chance.N), (.int .i64 a0.Chance.Of), (.int .i64 a0.Grid), s0, (.bool a0.Withdrawn), (.int .i64 a0.Before)]), tb0, tb1, tb2])⟩
        refine ⟨(st_cons rfl (ev_ex wantS_none (ex_add rfl rfl)) rfl rfl rfl (st_cons rfl (ev_ex wantS_none (ex_load1 rfl (hH50.cells (i := 2) rfl 1 rfl) rdLe_rfl agg3)) rfl rfl rfl (st_cons rfl (ev_ex wantS_none (ex_fieldAddr rfl off29_1)) rfl rfl rfl st_nil))), ?_⟩
        refine DrawG.fl rfl (ev_ex wantS_none (ex_fieldAddr rfl off29_1)) rfl ?_
        refine DrawG.opX rfl wantS_none rfl (ExG.storeC (c' := [(.str a0.Event), (.int .i64 (w64 (a0.Version + (1 : Int)))), (.int .i64 a1.Time), (.int .i64 a1.Chance.N), (.int .i64 a1.Chance.Of), (.int .i64 a1.Grid), s1, (.bool a1.Withdrawn), (.int .i64 a1.Before)]) rfl rfl rfl hH50 (i := 1) rfl sz3 rfl rfl rfl rfl rfl) ?_
        rintro _ M51 ⟨rfl, (hH51 : Has (ro (frozen M)) M51 [.obj b31 (.row 29 .whole [(.str []), (.int .i64 0), (.int .i64 0), (.int .i64 0), (.int .i64 0), (.int .i64 0), .nils, (.bool false), (.int .i64 0)]), .obj b28 (.row 29 .whole [(.str a0.Event), (.int .i64 (w64 (a0.Version + (1 : Int)))), (.int .i64 a1.Time), (.int .i64 a1.Chance.N), (.int .i64 a1.Chance.Of), (.int .i64 a1.Grid), s1, (.bool a1.Withdrawn), (.int .i64 a1.Before)]), .obj b25 (.row 29 .whole [(.str a0.Event), (.int .i64 a0.Version), (.int .i64 a0.Time), (.int .i64 a0.Chance.N), (.int .i64 a0.Chance.Of), (.int .i64 a0.Grid), s0, (.bool a0.Withdrawn), (.int .i64 a0.Before)]), tb0, tb1, tb2])⟩
        refine ⟨st_nil, ?_⟩
        refine DrawG.fl rfl (ev_ex wantS_none (ex_fieldAddr rfl off29_7)) rfl ?_
        refine DrawG.opX rfl wantS_none rfl (ExG.storeC (c' := [(.str a0.Event), (.int .i64 (w64 (a0.Version + (1 : Int)))), (.int .i64 a1.Time), (.int .i64 a1.Chance.N), (.int .i64 a1.Chance.Of), (.int .i64 a1.Grid), s1, (.bool a1.Withdrawn), (.int .i64 r48)]) rfl rfl rfl hH51 (i := 1) rfl sz3 rfl rfl rfl rfl rfl) ?_
        rintro _ M52 ⟨rfl, (hH52 : Has (ro (frozen M)) M52 [.obj b31 (.row 29 .whole [(.str []), (.int .i64 0), (.int .i64 0), (.int .i64 0), (.int .i64 0), (.int .i64 0), .nils, (.bool false), (.int .i64 0)]), .obj b28 (.row 29 .whole [(.str a0.Event), (.int .i64 (w64 (a0.Version + (1 : Int)))), (.int .i64 a1.Time), (.int .i64 a1.Chance.N), (.int .i64 a1.Chance.Of), (.int .i64 a1.Grid), s1, (.bool a1.Withdrawn), (.int .i64 r48)]), .obj b25 (.row 29 .whole [(.str a0.Event), (.int .i64 a0.Version), (.int .i64 a0.Time), (.int .i64 a0.Chance.N), (.int .i64 a0.Chance.Of), (.int .i64 a0.Grid), s0, (.bool a0.Withdrawn), (.int .i64 a0.Before)]), tb0, tb1, tb2])⟩
        refine ⟨st_nil, ?_⟩
        refine DrawG.sync ?_
        refine DrawG.nil ?_
        refine Run.seq (Run.region ?_)
        refine Run.opG wantS_none (ex_loadA rfl (hH52.cells (i := 1) rfl 0 rfl) rdLe_rfl agg29 rfl rfl rfl) rfl ?_
        obtain ⟨r55, hr55, h⟩ := bnd_some h
        refine Run.callX wantS_none (ex_call rfl mkk60 cal60) rfl (alert_checked_ok F (S_api_Alert.mk a0.Event (w64 (a0.Version + (1 : Int))) a1.Time a1.Chance a1.Grid a1.Cells a1.Withdrawn r48) s1 _ _ (hH52.slcF hs1) hr55) ?_
        rintro _ M57 ⟨s55_0, rfl, hN55⟩
        have hH57 : Has (ro (frozen M)) M57 [.vec 3 1 r55.1.Cells.length s55_0 (r55.1.Cells.flatMap enc3), .obj b31 (.row 29 .whole [(.str []), (.int .i64 0), (.int .i64 0), (.int .i64 0), (.int .i64 0), (.int .i64 0), .nils, (.bool false), (.int .i64 0)]), .obj b28 (.row 29 .whole [(.str a0.Event), (.int .i64 (w64 (a0.Version + (1 : Int)))), (.int .i64 a1.Time), (.int .i64 a1.Chance.N), (.int .i64 a1.Chance.Of), (.int .i64 a1.Grid), s1, (.bool a1.Withdrawn), (.int .i64 r48)]), .obj b25 (.row 29 .whole [(.str a0.Event), (.int .i64 a0.Version), (.int .i64 a0.Time), (.int .i64 a0.Chance.N), (.int .i64 a0.Chance.Of), (.int .i64 a0.Grid), s0, (.bool a0.Withdrawn), (.int .i64 a0.Before)]), tb0, tb1, tb2] := hN55.1 _ _ hH52
        refine Run.opG wantS_none (ex_extract rfl rfl) rfl ?_
        refine Run.opG wantS_none (ex_extract rfl rfl) rfl ?_
        refine Run.opX wantS_none rfl (ExG.storeC (c' := [(.str r55.1.Event), (.int .i64 r55.1.Version), (.int .i64 r55.1.Time), (.int .i64 r55.1.Chance.N), (.int .i64 r55.1.Chance.Of), (.int .i64 r55.1.Grid), s55_0, (.bool r55.1.Withdrawn), (.int .i64 r55.1.Before)]) rfl rfl rfl hH57 (i := 1) rfl sz29 rfl rfl rfl (ones_cons rfl (ones_cons rfl (ones_cons rfl (ones_cons rfl (ones_cons rfl (ones_cons rfl (ones_cons (vec_one hH57 (i := 0) rfl) (ones_cons rfl (ones_cons rfl ones_nil))))))))) rfl) ?_
        rintro _ M58 ⟨rfl, (hH58 : Has (ro (frozen M)) M58 [.vec 3 1 r55.1.Cells.length s55_0 (r55.1.Cells.flatMap enc3), .obj b31 (.row 29 .whole [(.str r55.1.Event), (.int .i64 r55.1.Version), (.int .i64 r55.1.Time), (.int .i64 r55.1.Chance.N), (.int .i64 r55.1.Chance.Of), (.int .i64 r55.1.Grid), s55_0, (.bool r55.1.Withdrawn), (.int .i64 r55.1.Before)]), .obj b28 (.row 29 .whole [(.str a0.Event), (.int .i64 (w64 (a0.Version + (1 : Int)))), (.int .i64 a1.Time), (.int .i64 a1.Chance.N), (.int .i64 a1.Chance.Of), (.int .i64 a1.Grid), s1, (.bool a1.Withdrawn), (.int .i64 r48)]), .obj b25 (.row 29 .whole [(.str a0.Event), (.int .i64 a0.Version), (.int .i64 a0.Time), (.int .i64 a0.Chance.N), (.int .i64 a0.Chance.Of), (.int .i64 a0.Grid), s0, (.bool a0.Withdrawn), (.int .i64 a0.Before)]), tb0, tb1, tb2])⟩
        refine Run.opG wantS_none (ex_assign rfl) rfl ?_
        refine Run.opsEnd ?_
        cases h
        exact Run.ret Tryd.func63 rfl (res_cell rfl (x_load (ex_loadA rfl (hH58.cells (i := 1) rfl 0 rfl) rdLe_rfl agg29 rfl rfl rfl)) (res_tmp rfl res_nil)) ⟨_, rfl, (hH58.pick [0] rfl rfl).upF (none_le _)⟩

theorem mkk63 : makeK Tryd.prog 63 = none := by kernel_rfl
theorem cal63 : callable Tryd.prog 63 = true := by kernel_rfl
abbrev alert_Follow_post (r : S_api_Alert × Int) : SV → Mem → Prop := fun s Me => ∃ q1, s = (.tuple [(.agg [(.str r.1.Event), (.int .i64 r.1.Version), (.int .i64 r.1.Time), (.int .i64 r.1.Chance.N), (.int .i64 r.1.Chance.Of), (.int .i64 r.1.Grid), q1, (.bool r.1.Withdrawn), (.int .i64 r.1.Before)]), (.int .i64 r.2)]) ∧ Has (fun _ => none) Me [.vec 3 1 r.1.Cells.length q1 (r.1.Cells.flatMap enc3)]

def alert_Follow (F : Nat) (a0 : S_api_Alert) (a1 : Int) (a2 : S_api_Chance) (a3 : Int) (a4 : (List Int)) : Option (S_api_Alert × Int) :=
  bnd (alert_next F a0 (S_api_Alert.mk [] 0 a1 a2 a3 a4 false 0)) fun r35 =>
  some (r35.1, r35.2)

theorem alert_Follow_ok (F : Nat) (a0 : S_api_Alert) (a1 : Int) (a2 : S_api_Chance) (a3 : Int) (a4 : (List Int)) (s0 s1 : SV) (r : S_api_Alert × Int) (M : Mem) (hs0 : Slc (rd M) 1 (FlatR enc3) s0 a0.Cells) (hs1 : Slc (rd M) 1 (FlatR enc3) s1 a4) (hfx : FixIn M fixes) (h : alert_Follow F a0 a1 a2 a3 a4 = some r) : CallsM Tryd.prog 22 [(.agg [(.str a0.Event), (.int .i64 a0.Version), (.int .i64 a0.Time), (.int .i64 a0.Chance.N), (.int .i64 a0.Chance.Of), (.int .i64 a0.Grid), s0, (.bool a0.Withdrawn), (.int .i64 a0.Before)]), (.int .i64 a1), (.agg [(.int .i64 a2.N), (.int .i64 a2.Of)]), (.int .i64 a3), s1] M (fun s M' => ∃ q1, s = (.tuple [(.agg [(.str r.1.Event), (.int .i64 r.1.Version), (.int .i64 r.1.Time), (.int .i64 r.1.Chance.N), (.int .i64 r.1.Chance.Of), (.int .i64 r.1.Grid), q1, (.bool r.1.Withdrawn), (.int .i64 r.1.Before)]), (.int .i64 r.2)]) ∧ New M M' [.vec 3 1 r.1.Cells.length q1 (r.1.Cells.flatMap enc3)]) := by
  refine CallsM.fresh (Q := alert_Follow_post r) Tryd.func22 rfl rfl ?_ (by rintro s Me ⟨q1, rfl, hx⟩ ha hw; exact ⟨_, rfl, New.of rfl hx ha hw⟩)
  rw [alert_Follow] at h
  replace hs0 := hs0.mono (rdLe_frozen M) (fun _ _ h => h)
  replace hs1 := hs1.mono (rdLe_frozen M) (fun _ _ h => h)
  have hH : Has (ro (frozen M)) (frozen M) [tb0, tb1, tb2] := Has.ofFix hfx.frozen
  refine Run.seq (Run.region ?_)
  refine Run.opX wantS_none rfl (ExG.box rfl rfl hH) ?_
  rintro _ M26 ⟨b25, rfl, hH26⟩
  refine Run.opX wantS_none rfl (ExG.box rfl rfl hH26) ?_
  rintro _ M29 ⟨b28, rfl, hH29⟩
  refine Run.opX wantS_none rfl (ExG.new (v := fun b => .ptr b 0) (ex_alloc zer29) hH29) ?_
  rintro _ M32 ⟨b31, rfl, hH32⟩
  refine Run.opG wantS_none (ex_assign rfl) rfl ?_
  refine Run.opsEnd (Run.seq (Run.region ?_))
  refine Run.opG wantS_none (ex_loadA rfl (hH32.cells (i := 2) rfl 0 rfl) rdLe_rfl agg29 rfl rfl rfl) rfl ?_
  refine Run.opG wantS_none (ex_move rfl) rfl ?_
  refine Run.opG wantS_none (ex_loadA rfl (hH32.cells (i := 1) rfl 0 rfl) rdLe_rfl agg26 rfl rfl rfl) rfl ?_
  refine Run.opG wantS_none (ex_move rfl) rfl ?_
  refine Run.opG wantS_none (ex_move rfl) rfl ?_
  refine Run.opG wantS_none (ex_build (r := [(.str []), (.int .i64 0), (.int .i64 a1), (.int .i64 a2.N), (.int .i64 a2.Of), (.int .i64 a3), s1, (.bool false), (.int .i64 0)]) rfl zer29 pls29 (by simp only [fillS, cells_one (slc_one hs1)]; rfl)) rfl ?_
  obtain ⟨r35, hr35, h⟩ := bnd_some h
  refine Run.callX wantS_none (ex_call rfl mkk63 cal63) rfl (alert_next_ok F a0 (S_api_Alert.mk [] 0 a1 a2 a3 a4 false 0) s0 s1 _ _ (hH32.slcF hs0) (hH32.slcF hs1) (fixH hH32 (List.mem_of_getElem? (i := 3) rfl) (List.mem_of_getElem? (i := 4) rfl) (List.mem_of_getElem? (i := 5) rfl)) hr35) ?_
  rintro _ M37 ⟨s35_0, rfl, hN35⟩
  have hH37 : Has (ro (frozen M)) M37 [.vec 3 1 r35.1.Cells.length s35_0 (r35.1.Cells.flatMap enc3), .obj b31 (.row 29 .whole [(.str []), (.int .i64 0), (.int .i64 0), (.int .i64 0), (.int .i64 0), (.int .i64 0), .nils, (.bool false), (.int .i64 0)]), .obj b28 (.row 26 .whole [(.int .i64 a2.N), (.int .i64 a2.Of)]), .obj b25 (.row 29 .whole [(.str a0.Event), (.int .i64 a0.Version), (.int .i64 a0.Time), (.int .i64 a0.Chance.N), (.int .i64 a0.Chance.Of), (.int .i64 a0.Grid), s0, (.bool a0.Withdrawn), (.int .i64 a0.Before)]), tb0, tb1, tb2] := hN35.1 _ _ hH32
  refine Run.opG wantS_none (ex_extract rfl rfl) rfl ?_
  refine Run.opG wantS_none (ex_extract rfl rfl) rfl ?_
  refine Run.opX wantS_none rfl (ExG.storeC (c' := [(.str r35.1.Event), (.int .i64 r35.1.Version), (.int .i64 r35.1.Time), (.int .i64 r35.1.Chance.N), (.int .i64 r35.1.Chance.Of), (.int .i64 r35.1.Grid), s35_0, (.bool r35.1.Withdrawn), (.int .i64 r35.1.Before)]) rfl rfl rfl hH37 (i := 1) rfl sz29 rfl rfl rfl (ones_cons rfl (ones_cons rfl (ones_cons rfl (ones_cons rfl (ones_cons rfl (ones_cons rfl (ones_cons (vec_one hH37 (i := 0) rfl) (ones_cons rfl (ones_cons rfl ones_nil))))))))) rfl) ?_
  rintro _ M38 ⟨rfl, (hH38 : Has (ro (frozen M)) M38 [.vec 3 1 r35.1.Cells.length s35_0 (r35.1.Cells.flatMap enc3), .obj b31 (.row 29 .whole [(.str r35.1.Event), (.int .i64 r35.1.Version), (.int .i64 r35.1.Time), (.int .i64 r35.1.Chance.N), (.int .i64 r35.1.Chance.Of), (.int .i64 r35.1.Grid), s35_0, (.bool r35.1.Withdrawn), (.int .i64 r35.1.Before)]), .obj b28 (.row 26 .whole [(.int .i64 a2.N), (.int .i64 a2.Of)]), .obj b25 (.row 29 .whole [(.str a0.Event), (.int .i64 a0.Version), (.int .i64 a0.Time), (.int .i64 a0.Chance.N), (.int .i64 a0.Chance.Of), (.int .i64 a0.Grid), s0, (.bool a0.Withdrawn), (.int .i64 a0.Before)]), tb0, tb1, tb2])⟩
  refine Run.opG wantS_none (ex_assign rfl) rfl ?_
  refine Run.opsEnd ?_
  cases h
  exact Run.ret Tryd.func22 rfl (res_cell rfl (x_load (ex_loadA rfl (hH38.cells (i := 1) rfl 0 rfl) rdLe_rfl agg29 rfl rfl rfl)) (res_tmp rfl res_nil)) ⟨_, rfl, (hH38.pick [0] rfl rfl).upF (none_le _)⟩

theorem mkk22 : makeK Tryd.prog 22 = none := by kernel_rfl
theorem cal22 : callable Tryd.prog 22 = true := by kernel_rfl
abbrev ref10_next_post (r : Int) : SV → Mem → Prop := fun s _ => s = (.int .i64 r)

def ref10_next (F : Nat) (a0 : S_api_Alert) (a1 : Int) : Option (Int) :=
  bnd (ref10_CheckAlert F a0) fun r25 =>
  bif (!(r25 == (0 : Int))) then
    some r25
  else
    bif a0.Withdrawn then
      some (107 : Int)
    else
      bif (decide (a1 < a0.Time)) then
        some (108 : Int)
      else
        some (0 : Int)

theorem ref10_next_ok (F : Nat) (a0 : S_api_Alert) (a1 : Int) (s0 : SV) (r : Int) (M : Mem) (hs0 : Slc (rd M) 1 (FlatR enc3) s0 a0.Cells) (h : ref10_next F a0 a1 = some r) : CallsM Tryd.prog 64 [(.agg [(.str a0.Event), (.int .i64 a0.Version), (.int .i64 a0.Time), (.int .i64 a0.Chance.N), (.int .i64 a0.Chance.Of), (.int .i64 a0.Grid), s0, (.bool a0.Withdrawn), (.int .i64 a0.Before)]), (.int .i64 a1)] M (fun s M' => s = (.int .i64 r) ∧ M' = M) := by
  refine CallsM.plain Tryd.func64 rfl rfl rfl (show Run _ _ _ (ref10_next_post r) _ _ _ from ?_)
  rw [ref10_next] at h
  replace hs0 := hs0.mono (rdLe_frozen M) (fun _ _ h => h)
  have hH := Has.nil (frozen M)
  refine Run.seq (Run.region ?_)
  refine Run.opX wantS_none rfl (ExG.box rfl rfl hH) ?_
  rintro _ M23 ⟨b22, rfl, hH23⟩
  refine Run.opG wantS_none (ex_assign rfl) rfl ?_
  refine Run.opsEnd (Run.seq (Run.seq (Run.region ?_)))
  refine Run.opG wantS_none (ex_loadA rfl (hH23.cells (i := 0) rfl 0 rfl) rdLe_rfl agg29 rfl rfl rfl) rfl ?_
  obtain ⟨r25, hr25, h⟩ := bnd_some h
  refine Run.callP wantS_none (ex_call rfl mkk47 cal47) rfl (ref10_CheckAlert_ok F a0 s0 _ _ (hH23.slcF hs0) hr25) ?_
  refine Run.opG wantS_none (ex_assign rfl) rfl ?_
  refine Run.opsEnd (Run.seq (Run.region ?_))
  refine Run.opG wantS_none (ex_move rfl) rfl ?_
  refine Run.opG wantS_none (ex_neq rfl rfl) rfl ?_
  refine Run.opsEnd ?_
  rcases btf ((!(r25 == (0 : Int)))) with hc27 | hc27
  · have h := bif_t hc27 h
    refine Run.condT' rfl hc27 ?_
    refine Run.seq (Run.region ?_)
    refine Run.opG wantS_none (ex_move rfl) rfl ?_
    refine Run.opG wantS_none (ex_assign rfl) rfl ?_
    refine Run.opsEnd ?_
    cases h
    exact Run.ret Tryd.func64 rfl (res_tmp rfl res_nil) rfl
  · have h := bif_f hc27 h
    refine Run.condF' rfl hc27 ?_
    refine Run.skip (Run.seq (Run.seq (Run.region ?_)))
    refine Run.opG wantS_none (ex_fieldAddr rfl off29_6) rfl ?_
    refine Run.opG wantS_none (ex_load1 rfl (hH23.cells (i := 0) rfl 7 rfl) rdLe_rfl agg4) rfl ?_
    refine Run.opsEnd ?_
    rcases btf (a0.Withdrawn) with hc28 | hc28
    · have h := bif_t hc28 h
      refine Run.condT' rfl hc28 ?_
      refine Run.seq (Run.region ?_)
      refine Run.opG wantS_none (ex_assign rfl) rfl ?_
      refine Run.opsEnd ?_
      cases h
      exact Run.ret Tryd.func64 rfl (res_tmp rfl res_nil) rfl
    · have h := bif_f hc28 h
      refine Run.condF' rfl hc28 ?_
      refine Run.skip (Run.seq (Run.seq (Run.region ?_)))
      refine Run.opG wantS_none (ex_move rfl) rfl ?_
      refine Run.opG wantS_none (ex_fieldAddr rfl off29_2) rfl ?_
      refine Run.opG wantS_none (ex_load1 rfl (hH23.cells (i := 0) rfl 2 rfl) rdLe_rfl agg3) rfl ?_
      refine Run.opG wantS_none (ex_lss rfl rfl) rfl ?_
      refine Run.opsEnd ?_
      rcases btf ((decide (a1 < a0.Time))) with hc29 | hc29
      · have h := bif_t hc29 h
        refine Run.condT' rfl hc29 ?_
        refine Run.seq (Run.region ?_)
        refine Run.opG wantS_none (ex_assign rfl) rfl ?_
        refine Run.opsEnd ?_
        cases h
        exact Run.ret Tryd.func64 rfl (res_tmp rfl res_nil) rfl
      · have h := bif_f hc29 h
        refine Run.condF' rfl hc29 ?_
        refine Run.skip (Run.seq (Run.region ?_))
        refine Run.opG wantS_none (ex_assign rfl) rfl ?_
        refine Run.opsEnd ?_
        cases h
        exact Run.ret Tryd.func64 rfl (res_tmp rfl res_nil) rfl

theorem mkk64 : makeK Tryd.prog 64 = none := by kernel_rfl
theorem cal64 : callable Tryd.prog 64 = true := by kernel_rfl
theorem uvk3_21 : uvK Tryd.prog 3 21 = none := by kernel_rfl
theorem cvk3_21 : cvK Tryd.prog 3 21 = some (.int .i32) := by kernel_rfl
theorem uvk21_9 : uvK Tryd.prog 21 9 = none := by kernel_rfl
theorem cvk21_9 : cvK Tryd.prog 21 9 = some .rune := by kernel_rfl
abbrev ref00_Decimal_post (r : (List UInt8)) : SV → Mem → Prop := fun s _ => s = (.str r)

def ref00_Decimal_2 (F : Nat) (hd1 : Int → (List UInt8) → Bool → Option ((List UInt8))) (v0 : Int) (v3 : (List UInt8)) (v4 : Bool) (v5 : Int) : Option ((List UInt8)) :=
  bnd (runeS (IntKind.wrap .i32 (w64 ((48 : Int) + v5)))) fun z25 =>
  bnd (sCat z25 v3) fun z27 =>
  hd1 (w64 (Int.tdiv v0 (10 : Int))) z27 v4

theorem ref00_Decimal_2_ok (F : Nat) (hd1 : Int → (List UInt8) → Bool → Option ((List UInt8))) (hhd1 : ∀ (v0 : Int) (v3 : (List UInt8)) (v4 : Bool) (Fr : Rd) (M : Mem) (r : (List UInt8)) (hH : Has Fr M []), hd1 v0 v3 v4 = some r → Run Tryd.prog ⟨⟨96, [], none⟩, []⟩ 30 (ref00_Decimal_post r) [(0, (.int .i64 v0)), (3, (.str v3)), (4, (.bool v4))] [codeC Tryd.prog 96 [1, 1, 1, 1, 0, 0, 0], loopC Tryd.prog 96 [1, 1, 1, 1, 0, 0, 0], .inBlock 0, codeC Tryd.prog 96 [1, 1, 1, 1, 1]] M) : ∀ (v0 : Int) (v3 : (List UInt8)) (v4 : Bool) (v5 : Int) (Fr : Rd) (M : Mem) (r : (List UInt8)) (hH : Has Fr M []), ref00_Decimal_2 F hd1 v0 v3 v4 v5 = some r → Run Tryd.prog ⟨⟨96, [], none⟩, []⟩ 30 (ref00_Decimal_post r) [(0, (.int .i64 v0)), (3, (.str v3)), (4, (.bool v4)), (5, (.int .i64 v5))] [itemC Tryd.prog 96 [1, 1, 1, 1, 0, 0, 0, 1, 0, 1, 1, 0] 0, codeC Tryd.prog 96 [1, 1, 1, 1, 0, 0, 0, 1, 0, 1, 1, 1], .inBlock 1, loopC Tryd.prog 96 [1, 1, 1, 1, 0, 0, 0], .inBlock 0, codeC Tryd.prog 96 [1, 1, 1, 1, 1]] M := by
  intro v0 v3 v4 v5 Fr M r hH h
  rw [ref00_Decimal_2] at h
  refine Run.opG wantS_none (ex_move rfl) rfl ?_
  refine Run.opG wantS_none (ex_add rfl rfl) rfl ?_
  refine Run.opG wantS_none (ex_conv rfl uvk3_21 cvk3_21) rfl ?_
  obtain ⟨z25, hz25, h⟩ := bnd_some h
  refine Run.opG wantS_none (ex_rune rfl uvk21_9 cvk21_9 hz25) rfl ?_
  refine Run.opG wantS_none (ex_move rfl) rfl ?_
  obtain ⟨z27, hz27, h⟩ := bnd_some h
  refine Run.opG wantS_none (ex_cat rfl rfl hz27) rfl ?_
  refine Run.opG wantS_none (ex_assign rfl) rfl ?_
  refine Run.opsEnd (Run.region ?_)
  refine Run.opG wantS_none (ex_move rfl) rfl ?_
  refine Run.opG wantS_none (ex_quo rfl rfl (by decide)) rfl ?_
  refine Run.opG wantS_none (ex_assign rfl) rfl ?_
  refine Run.opsEnd (Run.inBlock (Run.inLoop ?_))
  exact Run.pick [0, 3, 4] (hhd1 (w64 (Int.tdiv v0 (10 : Int))) z27 v4 _ _ _ hH h)

def ref00_Decimal_3 (F : Nat) (v3 : (List UInt8)) : Option ((List UInt8)) :=
  some v3

theorem ref00_Decimal_3_ok (F : Nat) : ∀ (v3 : (List UInt8)) (Fr : Rd) (M : Mem) (r : (List UInt8)) (hH : Has Fr M []), ref00_Decimal_3 F v3 = some r → Run Tryd.prog ⟨⟨96, [], none⟩, []⟩ 30 (ref00_Decimal_post r) [(3, (.str v3))] [itemC Tryd.prog 96 [1, 1, 1, 1, 1, 1, 0] 0, codeC Tryd.prog 96 [1, 1, 1, 1, 1, 1, 1]] M := by
  intro v3 Fr M r hH h
  rw [ref00_Decimal_3] at h
  refine Run.opG wantS_none (ex_move rfl) rfl ?_
  refine Run.opG wantS_none (ex_assign rfl) rfl ?_
  refine Run.opsEnd ?_
  cases h
  exact Run.ret Tryd.func96 rfl (res_tmp rfl res_nil) rfl

def ref00_Decimal_1 (F : Nat) : Nat → Int → (List UInt8) → Bool → Option ((List UInt8))
  | 0, _, _, _ => none
  | N + 1, v0, v3, v4 =>
    bif (!(v0 == (0 : Int))) then
      bif (decide ((Int.tmod v0 (10 : Int)) < (0 : Int))) then
        ref00_Decimal_2 F (ref00_Decimal_1 F N) v0 v3 v4 (w64 (-(Int.tmod v0 (10 : Int))))
      else
        ref00_Decimal_2 F (ref00_Decimal_1 F N) v0 v3 v4 (Int.tmod v0 (10 : Int))
    else
      bif v4 then
        bnd (sCat [45] v3) fun z30 =>
        ref00_Decimal_3 F z30
      else
        ref00_Decimal_3 F v3

theorem ref00_Decimal_1_ok (F : Nat) : ∀ (N : Nat), ∀ (v0 : Int) (v3 : (List UInt8)) (v4 : Bool) (Fr : Rd) (M : Mem) (r : (List UInt8)) (hH : Has Fr M []), ref00_Decimal_1 F N v0 v3 v4 = some r → Run Tryd.prog ⟨⟨96, [], none⟩, []⟩ 30 (ref00_Decimal_post r) [(0, (.int .i64 v0)), (3, (.str v3)), (4, (.bool v4))] [codeC Tryd.prog 96 [1, 1, 1, 1, 0, 0, 0], loopC Tryd.prog 96 [1, 1, 1, 1, 0, 0, 0], .inBlock 0, codeC Tryd.prog 96 [1, 1, 1, 1, 1]] M := by
  intro N
  induction N with
  | zero =>
    intro v0 v3 v4 Fr M r hH h
    simp [ref00_Decimal_1] at h
  | succ N ih =>
    intro v0 v3 v4 Fr M r hH h
    rw [ref00_Decimal_1] at h
    refine Run.seq (Run.seq (Run.region ?_))
    refine Run.opG wantS_none (ex_move rfl) rfl ?_
    refine Run.opG wantS_none (ex_neq rfl rfl) rfl ?_
    refine Run.opsEnd ?_
    rcases btf ((!(v0 == (0 : Int)))) with hc22 | hc22
    · have h := bif_t hc22 h
      refine Run.condT' rfl hc22 ?_
      refine Run.skip (Run.block (Run.seq (Run.region ?_)))
      refine Run.opG wantS_none (ex_move rfl) rfl ?_
      refine Run.opG wantS_none (ex_rem rfl rfl (by decide)) rfl ?_
      refine Run.opG wantS_none (ex_assign rfl) rfl ?_
      refine Run.opsEnd (Run.seq (Run.seq (Run.region ?_)))
      refine Run.opG wantS_none (ex_move rfl) rfl ?_
      refine Run.opG wantS_none (ex_lss rfl rfl) rfl ?_
      refine Run.opsEnd ?_
      rcases btf ((decide ((Int.tmod v0 (10 : Int)) < (0 : Int)))) with hc23 | hc23
      · have h := bif_t hc23 h
        refine Run.condT' rfl hc23 ?_
        refine Run.region ?_
        refine Run.opG wantS_none (ex_move rfl) rfl ?_
        refine Run.opG wantS_none (ex_neg rfl) rfl ?_
        refine Run.opG wantS_none (ex_assign rfl) rfl ?_
        refine Run.opsEnd (Run.seq (Run.region ?_))
        exact Run.pick [0, 3, 4, 5] (ref00_Decimal_2_ok F (ref00_Decimal_1 F N) ih v0 v3 v4 (w64 (-(Int.tmod v0 (10 : Int)))) _ _ _ hH h)
      · have h := bif_f hc23 h
        refine Run.condF' rfl hc23 ?_
        refine Run.skip (Run.seq (Run.region ?_))
        exact Run.pick [0, 3, 4, 5] (ref00_Decimal_2_ok F (ref00_Decimal_1 F N) ih v0 v3 v4 (Int.tmod v0 (10 : Int)) _ _ _ hH h)
    · have h := bif_f hc22 h
      refine Run.condF' rfl hc22 ?_
      refine Run.exit rfl (Run.seq (Run.seq (Run.region ?_)))
      refine Run.opG wantS_none (ex_move rfl) rfl ?_
      refine Run.opsEnd ?_
      rcases btf (v4) with hc28 | hc28
      · have h := bif_t hc28 h
        refine Run.condT' rfl hc28 ?_
        refine Run.region ?_
        refine Run.opG wantS_none (ex_move rfl) rfl ?_
        obtain ⟨z30, hz30, h⟩ := bnd_some h
        refine Run.opG wantS_none (ex_cat rfl rfl hz30) rfl ?_
        refine Run.opG wantS_none (ex_assign rfl) rfl ?_
        refine Run.opsEnd (Run.seq (Run.region ?_))
        exact Run.pick [3] (ref00_Decimal_3_ok F z30 _ _ _ hH h)
      · have h := bif_f hc28 h
        refine Run.condF' rfl hc28 ?_
        refine Run.skip (Run.seq (Run.region ?_))
        exact Run.pick [3] (ref00_Decimal_3_ok F v3 _ _ _ hH h)

def ref00_Decimal (F : Nat) (a0 : Int) : Option ((List UInt8)) :=
  bif (a0 == (0 : Int)) then
    some [48]
  else
    ref00_Decimal_1 F F a0 [] (decide (a0 < (0 : Int)))

theorem ref00_Decimal_ok (F : Nat) (a0 : Int) (r : (List UInt8)) (M : Mem) (h : ref00_Decimal F a0 = some r) : CallsM Tryd.prog 96 [(.int .i64 a0)] M (fun s M' => s = (.str r) ∧ M' = M) := by
  refine CallsM.plain Tryd.func96 rfl rfl rfl (show Run _ _ _ (ref00_Decimal_post r) _ _ _ from ?_)
  rw [ref00_Decimal] at h
  have hH := Has.nil (frozen M)
  refine Run.seq (Run.region ?_)
  refine Run.opG wantS_none (ex_assign rfl) rfl ?_
  refine Run.opsEnd (Run.seq (Run.seq (Run.region ?_)))
  refine Run.opG wantS_none (ex_move rfl) rfl ?_
  refine Run.opG wantS_none (ex_eql rfl rfl) rfl ?_
  refine Run.opsEnd ?_
  rcases btf ((a0 == (0 : Int))) with hc21 | hc21
  · have h := bif_t hc21 h
    refine Run.condT' rfl hc21 ?_
    refine Run.seq (Run.region ?_)
    refine Run.opG wantS_none (ex_assign rfl) rfl ?_
    refine Run.opsEnd ?_
    cases h
    exact Run.ret Tryd.func96 rfl (res_tmp rfl res_nil) rfl
  · have h := bif_f hc21 h
    refine Run.condF' rfl hc21 ?_
    refine Run.skip (Run.seq (Run.region ?_))
    refine Run.opG wantS_none (ex_assign rfl) rfl ?_
    refine Run.opsEnd (Run.seq (Run.region ?_))
    refine Run.opG wantS_none (ex_move rfl) rfl ?_
    refine Run.opG wantS_none (ex_lss rfl rfl) rfl ?_
    refine Run.opG wantS_none (ex_assign rfl) rfl ?_
    refine Run.opsEnd (Run.seq (Run.block (Run.loop ?_)))
    exact Run.pick [0, 3, 4] (ref00_Decimal_1_ok F F a0 [] (decide (a0 < (0 : Int))) _ _ _ hH h)

theorem mkk96 : makeK Tryd.prog 96 = none := by kernel_rfl
theorem cal96 : callable Tryd.prog 96 = true := by kernel_rfl
theorem plan77_1_0 : planOf Tryd.prog (opsC (atC Tryd.prog 77 [1, 0])) = some [.fl 0, .fl 1, .fl 2, .fl 3, .fl 4, .fl 5, .fl 9, .fl 10, .fl 14, .fl 15, .fl 16, .fl 20, .fl 21, .fl 22, .fl 26, .fl 27, .an 6 [27, 26, 22, 21, 20, 16, 15, 14, 10, 9, 3, 2, 1, 0], .fl 7, .fl 8, .an 11 [8, 7, 27, 26, 22, 21, 20, 16, 15, 14, 3, 2, 1, 0], .fl 12, .fl 13, .an 17 [13, 12, 8, 7, 27, 26, 22, 21, 20, 3, 2, 1, 0], .fl 18, .fl 19, .an 23 [19, 18, 13, 12, 8, 7, 27, 26, 3, 2, 1, 0], .fl 24, .fl 25, .an 28 [25, 24, 19, 18, 13, 12, 8, 7, 3, 2, 1, 0], .fl 29, .fl 30, .fl 31, .sync] := by kernel_rfl
abbrev ref10_text_post (r : (List UInt8)) : SV → Mem → Prop := fun s _ => s = (.str r)

def ref10_text_2 (F : Nat) : Nat → (List UInt8) → Int → (List UInt8) → Int → Int → Int → Int → Int → (List Int) → Bool → Int → Option ((List UInt8))
  | 0, _, _, _, _, _, _, _, _, _, _, _ => none
  | N + 1, v3, v4, c22_0, c22_1, c22_2, c22_3, c22_4, c22_5, c22_6, c22_7, c22_8 =>
    bif (decide (v4 < (c22_6.length : Int))) then
      bnd (sCat v3 [32]) fun z51 =>
      bnd (idx c22_6 v4) fun x53 =>
      bnd (ref00_Decimal F x53) fun r55 =>
      bnd (sCat z51 r55) fun z58 =>
      (ref10_text_2 F N) z58 (w64 (v4 + (1 : Int))) c22_0 c22_1 c22_2 c22_3 c22_4 c22_5 c22_6 c22_7 c22_8
    else
      bnd (sCat v3 [10, 98, 101, 102, 111, 114, 101, 32]) fun z60 =>
      bnd (ref00_Decimal F c22_8) fun r62 =>
      bnd (sCat z60 r62) fun z65 =>
      bnd (sCat z65 [10, 101, 110, 100, 10]) fun z67 =>
      some z67

theorem ref10_text_2_ok (F : Nat) : ∀ (N : Nat), ∀ (v3 : (List UInt8)) (v4 : Int) (c22_0 : (List UInt8)) (c22_1 c22_2 c22_3 c22_4 c22_5 : Int) (c22_6 : (List Int)) (c22_7 : Bool) (c22_8 : Int) (sc22_6 : SV) (b22 : Pos) (Fr : Rd) (M : Mem) (r : (List UInt8)) (hc22_6 : Slc Fr 1 (FlatR enc3) sc22_6 c22_6) (hH : Has Fr M [.obj b22 (.row 29 .whole [(.str c22_0), (.int .i64 c22_1), (.int .i64 c22_2), (.int .i64 c22_3), (.int .i64 c22_4), (.int .i64 c22_5), sc22_6, (.bool c22_7), (.int .i64 c22_8)])]), ref10_text_2 F N v3 v4 c22_0 c22_1 c22_2 c22_3 c22_4 c22_5 c22_6 c22_7 c22_8 = some r → Run Tryd.prog ⟨⟨77, [], none⟩, []⟩ 65 (ref10_text_post r) [(1, (.ptr b22 0)), (3, (.str v3)), (4, (.int .i64 v4))] [codeC Tryd.prog 77 [1, 1, 1, 0, 1, 0, 0], loopC Tryd.prog 77 [1, 1, 1, 0, 1, 0, 0], .inBlock 0, codeC Tryd.prog 77 [1, 1, 1, 1]] M := by
  intro N
  induction N with
  | zero =>
    intro v3 v4 c22_0 c22_1 c22_2 c22_3 c22_4 c22_5 c22_6 c22_7 c22_8 sc22_6 b22 Fr M r hc22_6 hH h
    simp [ref10_text_2] at h
  | succ N ih =>
    intro v3 v4 c22_0 c22_1 c22_2 c22_3 c22_4 c22_5 c22_6 c22_7 c22_8 sc22_6 b22 Fr M r hc22_6 hH h
    rw [ref10_text_2] at h
    refine Run.seq (Run.seq (Run.region ?_))
    refine Run.opG wantS_none (ex_move rfl) rfl ?_
    refine Run.opG wantS_none (ex_fieldAddr rfl off29_5) rfl ?_
    refine Run.opG wantS_none (ex_load1 rfl (hH.cells (i := 0) rfl 6 rfl) rdLe_rfl agg27) rfl ?_
    refine Run.opG wantS_none (ex_len' rfl hc22_6 lenk27) rfl ?_
    refine Run.opG wantS_none (ex_lss rfl rfl) rfl ?_
    refine Run.opsEnd ?_
    rcases btf ((decide (v4 < (c22_6.length : Int)))) with hc49 | hc49
    · have h := bif_t hc49 h
      refine Run.condT' rfl hc49 ?_
      refine Run.skip (Run.seq (Run.block (Run.region ?_)))
      refine Run.opG wantS_none (ex_move rfl) rfl ?_
      obtain ⟨z51, hz51, h⟩ := bnd_some h
      refine Run.opG wantS_none (ex_cat rfl rfl hz51) rfl ?_
      refine Run.opG wantS_none (ex_fieldAddr rfl off29_5) rfl ?_
      refine Run.opG wantS_none (ex_load1 rfl (hH.cells (i := 0) rfl 6 rfl) rdLe_rfl agg27) rfl ?_
      refine Run.opG wantS_none (ex_move rfl) rfl ?_
      obtain ⟨x53, hx53, h⟩ := bnd_some h
      obtain ⟨p53, o53, _, hx53, hp53, rfl⟩ := sl_elem (P := Tryd.prog) (t := 27) (kk := .i64) hc22_6 hx53 els27
      refine Run.opG wantS_none (ex_elX rfl rfl hx53) rfl ?_
      refine Run.opG wantS_none (ex_load1 rfl (hH.ptrF hp53) rdLe_rfl agg3) rfl ?_
      obtain ⟨r55, hr55, h⟩ := bnd_some h
      refine Run.callP wantS_none (ex_call rfl mkk96 cal96) rfl (ref00_Decimal_ok F x53 _ _ hr55) ?_
      obtain ⟨z58, hz58, h⟩ := bnd_some h
      refine Run.opG wantS_none (ex_cat rfl rfl hz58) rfl ?_
      refine Run.opG wantS_none (ex_assign rfl) rfl ?_
      refine Run.opsEnd (Run.inBlock (Run.region ?_))
      refine Run.opG wantS_none (ex_move rfl) rfl ?_
      refine Run.opG wantS_none (ex_add rfl rfl) rfl ?_
      refine Run.opG wantS_none (ex_assign rfl) rfl ?_
      refine Run.opsEnd (Run.inLoop ?_)
      exact Run.pick [1, 3, 4] (ih z58 (w64 (v4 + (1 : Int))) c22_0 c22_1 c22_2 c22_3 c22_4 c22_5 c22_6 c22_7 c22_8 sc22_6 b22 _ _ _ hc22_6 hH h)
    · have h := bif_f hc49 h
      refine Run.condF' rfl hc49 ?_
      refine Run.exit rfl (Run.seq (Run.region ?_))
      refine Run.opG wantS_none (ex_move rfl) rfl ?_
      obtain ⟨z60, hz60, h⟩ := bnd_some h
      refine Run.opG wantS_none (ex_cat rfl rfl hz60) rfl ?_
      refine Run.opG wantS_none (ex_fieldAddr rfl off29_7) rfl ?_
      refine Run.opG wantS_none (ex_load1 rfl (hH.cells (i := 0) rfl 8 rfl) rdLe_rfl agg3) rfl ?_
      obtain ⟨r62, hr62, h⟩ := bnd_some h
      refine Run.callP wantS_none (ex_call rfl mkk96 cal96) rfl (ref00_Decimal_ok F c22_8 _ _ hr62) ?_
      obtain ⟨z65, hz65, h⟩ := bnd_some h
      refine Run.opG wantS_none (ex_cat rfl rfl hz65) rfl ?_
      obtain ⟨z67, hz67, h⟩ := bnd_some h
      refine Run.opG wantS_none (ex_cat rfl rfl hz67) rfl ?_
      refine Run.opG wantS_none (ex_assign rfl) rfl ?_
      refine Run.opsEnd ?_
      cases h
      exact Run.ret Tryd.func77 rfl (res_tmp rfl res_nil) rfl

def ref10_text_1 (F : Nat) (v3 c22_0 : (List UInt8)) (c22_1 c22_2 c22_3 c22_4 c22_5 : Int) (c22_6 : (List Int)) (c22_7 : Bool) (c22_8 : Int) : Option ((List UInt8)) :=
  ref10_text_2 F F v3 (0 : Int) c22_0 c22_1 c22_2 c22_3 c22_4 c22_5 c22_6 c22_7 c22_8

theorem ref10_text_1_ok (F : Nat) : ∀ (v3 c22_0 : (List UInt8)) (c22_1 c22_2 c22_3 c22_4 c22_5 : Int) (c22_6 : (List Int)) (c22_7 : Bool) (c22_8 : Int) (sc22_6 : SV) (b22 : Pos) (Fr : Rd) (M : Mem) (r : (List UInt8)) (hc22_6 : Slc Fr 1 (FlatR enc3) sc22_6 c22_6) (hH : Has Fr M [.obj b22 (.row 29 .whole [(.str c22_0), (.int .i64 c22_1), (.int .i64 c22_2), (.int .i64 c22_3), (.int .i64 c22_4), (.int .i64 c22_5), sc22_6, (.bool c22_7), (.int .i64 c22_8)])]), ref10_text_1 F v3 c22_0 c22_1 c22_2 c22_3 c22_4 c22_5 c22_6 c22_7 c22_8 = some r → Run Tryd.prog ⟨⟨77, [], none⟩, []⟩ 65 (ref10_text_post r) [(1, (.ptr b22 0)), (3, (.str v3))] [itemC Tryd.prog 77 [1, 1, 1, 0, 0] 0, codeC Tryd.prog 77 [1, 1, 1, 0, 1], codeC Tryd.prog 77 [1, 1, 1, 1]] M := by
  intro v3 c22_0 c22_1 c22_2 c22_3 c22_4 c22_5 c22_6 c22_7 c22_8 sc22_6 b22 Fr M r hc22_6 hH h
  rw [ref10_text_1] at h
  refine Run.opG wantS_none (ex_assign rfl) rfl ?_
  refine Run.opsEnd (Run.block (Run.loop ?_))
  exact Run.pick [1, 3, 4] (ref10_text_2_ok F F v3 (0 : Int) c22_0 c22_1 c22_2 c22_3 c22_4 c22_5 c22_6 c22_7 c22_8 sc22_6 b22 _ _ _ hc22_6 hH h)

def ref10_text (F : Nat) (a0 : S_api_Alert) : Option ((List UInt8)) :=
  bnd (sCat [97, 108, 101, 114, 116, 32] a0.Event) fun z24 =>
  bnd (sCat z24 [32]) fun z25 =>
  bnd (ref00_Decimal F a0.Version) fun r26 =>
  bnd (sCat z25 r26) fun z28 =>
  bnd (sCat z28 [10, 116, 105, 109, 101, 32]) fun z29 =>
  bnd (ref00_Decimal F a0.Time) fun r30 =>
  bnd (sCat z29 r30) fun z32 =>
  bnd (sCat z32 [10, 99, 104, 97, 110, 99, 101, 32]) fun z33 =>
  bnd (ref00_Decimal F a0.Chance.N) fun r34 =>
  bnd (sCat z33 r34) fun z36 =>
  bnd (sCat z36 [32]) fun z37 =>
  bnd (ref00_Decimal F a0.Chance.Of) fun r38 =>
  bnd (sCat z37 r38) fun z40 =>
  bnd (sCat z40 [10, 103, 114, 105, 100, 32]) fun z41 =>
  bnd (ref00_Decimal F a0.Grid) fun r42 =>
  bnd (sCat z41 r42) fun z44 =>
  bnd (sCat z44 [10]) fun z45 =>
  bif a0.Withdrawn then
    bnd (sCat z45 [119, 105, 116, 104, 100, 114, 97, 119, 110]) fun z48 =>
    ref10_text_1 F z48 a0.Event a0.Version a0.Time a0.Chance.N a0.Chance.Of a0.Grid a0.Cells a0.Withdrawn a0.Before
  else
    bnd (sCat z45 [99, 101, 108, 108, 115]) fun z69 =>
    ref10_text_1 F z69 a0.Event a0.Version a0.Time a0.Chance.N a0.Chance.Of a0.Grid a0.Cells a0.Withdrawn a0.Before

theorem ref10_text_ok (F : Nat) (a0 : S_api_Alert) (s0 : SV) (r : (List UInt8)) (M : Mem) (hs0 : Slc (rd M) 1 (FlatR enc3) s0 a0.Cells) (h : ref10_text F a0 = some r) : CallsM Tryd.prog 77 [(.agg [(.str a0.Event), (.int .i64 a0.Version), (.int .i64 a0.Time), (.int .i64 a0.Chance.N), (.int .i64 a0.Chance.Of), (.int .i64 a0.Grid), s0, (.bool a0.Withdrawn), (.int .i64 a0.Before)])] M (fun s M' => s = (.str r) ∧ M' = M) := by
  refine CallsM.plain Tryd.func77 rfl rfl rfl (show Run _ _ _ (ref10_text_post r) _ _ _ from ?_)
  rw [ref10_text] at h
  replace hs0 := hs0.mono (rdLe_frozen M) (fun _ _ h => h)
  have hH := Has.nil (frozen M)
  refine Run.seq (Run.region ?_)
  refine Run.opX wantS_none rfl (ExG.box rfl rfl hH) ?_
  rintro _ M23 ⟨b22, rfl, hH23⟩
  refine Run.opG wantS_none (ex_assign rfl) rfl ?_
  refine Run.opsEnd (Run.seq ?_)
  refine Run.drawG plan77_1_0 ?_
  refine DrawG.fl rfl (ev_ex wantS_none (ex_fieldAddr rfl off29_0)) rfl ?_
  refine DrawG.fl rfl (ev_ex wantS_none (ex_load1 rfl (hH23.cells (i := 0) rfl 0 rfl) rdLe_rfl agg9)) rfl ?_
  obtain ⟨z24, hz24, h⟩ := bnd_some h
  refine DrawG.fl rfl (ev_ex wantS_none (ex_cat rfl rfl hz24)) rfl ?_
  obtain ⟨z25, hz25, h⟩ := bnd_some h
  refine DrawG.fl rfl (ev_ex wantS_none (ex_cat rfl rfl hz25)) rfl ?_
  refine DrawG.fl rfl (ev_ex wantS_none (ex_fieldAddr rfl off29_1)) rfl ?_
  refine DrawG.fl rfl (ev_ex wantS_none (ex_load1 rfl (hH23.cells (i := 0) rfl 1 rfl) rdLe_rfl agg3)) rfl ?_
  refine DrawG.fl rfl (ev_ex wantS_none (ex_fieldAddr rfl off29_2)) rfl ?_
  refine DrawG.fl rfl (ev_ex wantS_none (ex_load1 rfl (hH23.cells (i := 0) rfl 2 rfl) rdLe_rfl agg3)) rfl ?_
  refine DrawG.fl rfl (ev_ex wantS_none (ex_fieldAddr rfl off29_3)) rfl ?_
  refine DrawG.fl rfl (ev_ex wantS_none (ex_fieldAddr rfl off26_0)) rfl ?_
  refine DrawG.fl rfl (ev_ex wantS_none (ex_load1 rfl (hH23.cells (i := 0) rfl 3 rfl) rdLe_rfl agg3)) rfl ?_
  refine DrawG.fl rfl (ev_ex wantS_none (ex_fieldAddr rfl off29_3)) rfl ?_
  refine DrawG.fl rfl (ev_ex wantS_none (ex_fieldAddr rfl off26_1)) rfl ?_
  refine DrawG.fl rfl (ev_ex wantS_none (ex_load1 rfl (hH23.cells (i := 0) rfl 4 rfl) rdLe_rfl agg3)) rfl ?_
  refine DrawG.fl rfl (ev_ex wantS_none (ex_fieldAddr rfl off29_4)) rfl ?_
  refine DrawG.fl rfl (ev_ex wantS_none (ex_load1 rfl (hH23.cells (i := 0) rfl 5 rfl) rdLe_rfl agg3)) rfl ?_
  obtain ⟨r26, hr26, h⟩ := bnd_some h
  refine DrawG.callP rfl wantS_none (ex_call rfl mkk96 cal96) rfl (ref00_Decimal_ok F a0.Version _ _ hr26) (st_cons rfl (ev_ex wantS_none (ex_load1 rfl (hH23.cells (i := 0) rfl 5 rfl) rdLe_rfl agg3)) rfl rfl rfl (st_cons rfl (ev_ex wantS_none (ex_fieldAddr rfl off29_4)) rfl rfl rfl (st_cons rfl (ev_ex wantS_none (ex_load1 rfl (hH23.cells (i := 0) rfl 4 rfl) rdLe_rfl agg3)) rfl rfl rfl (st_cons rfl (ev_ex wantS_none (ex_fieldAddr rfl off26_1)) rfl rfl rfl (st_cons rfl (ev_ex wantS_none (ex_fieldAddr rfl off29_3)) rfl rfl rfl (st_cons rfl (ev_ex wantS_none (ex_load1 rfl (hH23.cells (i := 0) rfl 3 rfl) rdLe_rfl agg3)) rfl rfl rfl (st_cons rfl (ev_ex wantS_none (ex_fieldAddr rfl off26_0)) rfl rfl rfl (st_cons rfl (ev_ex wantS_none (ex_fieldAddr rfl off29_3)) rfl rfl rfl (st_cons rfl (ev_ex wantS_none (ex_load1 rfl (hH23.cells (i := 0) rfl 2 rfl) rdLe_rfl agg3)) rfl rfl rfl (st_cons rfl (ev_ex wantS_none (ex_fieldAddr rfl off29_2)) rfl rfl rfl (st_cons rfl (ev_ex wantS_none (ex_cat rfl rfl hz25)) rfl rfl rfl (st_cons rfl (ev_ex wantS_none (ex_cat rfl rfl hz24)) rfl rfl rfl (st_cons rfl (ev_ex wantS_none (ex_load1 rfl (hH23.cells (i := 0) rfl 0 rfl) rdLe_rfl agg9)) rfl rfl rfl (st_cons rfl (ev_ex wantS_none (ex_fieldAddr rfl off29_0)) rfl rfl rfl st_nil)))))))))))))) ?_
  obtain ⟨z28, hz28, h⟩ := bnd_some h
  refine DrawG.fl rfl (ev_ex wantS_none (ex_cat rfl rfl hz28)) rfl ?_
  obtain ⟨z29, hz29, h⟩ := bnd_some h
  refine DrawG.fl rfl (ev_ex wantS_none (ex_cat rfl rfl hz29)) rfl ?_
  obtain ⟨r30, hr30, h⟩ := bnd_some h
  refine DrawG.callP rfl wantS_none (ex_call rfl mkk96 cal96) rfl (ref00_Decimal_ok F a0.Time _ _ hr30) (st_cons rfl (ev_ex wantS_none (ex_cat rfl rfl hz29)) rfl rfl rfl (st_cons rfl (ev_ex wantS_none (ex_cat rfl rfl hz28)) rfl rfl rfl (st_cons rfl (ev_ex wantS_none (ex_load1 rfl (hH23.cells (i := 0) rfl 5 rfl) rdLe_rfl agg3)) rfl rfl rfl (st_cons rfl (ev_ex wantS_none (ex_fieldAddr rfl off29_4)) rfl rfl rfl (st_cons rfl (ev_ex wantS_none (ex_load1 rfl (hH23.cells (i := 0) rfl 4 rfl) rdLe_rfl agg3)) rfl rfl rfl (st_cons rfl (ev_ex wantS_none (ex_fieldAddr rfl off26_1)) rfl rfl rfl (st_cons rfl (ev_ex wantS_none (ex_fieldAddr rfl off29_3)) rfl rfl rfl (st_cons rfl (ev_ex wantS_none (ex_load1 rfl (hH23.cells (i := 0) rfl 3 rfl) rdLe_rfl agg3)) rfl rfl rfl (st_cons rfl (ev_ex wantS_none (ex_fieldAddr rfl off26_0)) rfl rfl rfl (st_cons rfl (ev_ex wantS_none (ex_fieldAddr rfl off29_3)) rfl rfl rfl (st_cons rfl (ev_ex wantS_none (ex_cat rfl rfl hz25)) rfl rfl rfl (st_cons rfl (ev_ex wantS_none (ex_cat rfl rfl hz24)) rfl rfl rfl (st_cons rfl (ev_ex wantS_none (ex_load1 rfl (hH23.cells (i := 0) rfl 0 rfl) rdLe_rfl agg9)) rfl rfl rfl (st_cons rfl (ev_ex wantS_none (ex_fieldAddr rfl off29_0)) rfl rfl rfl st_nil)))))))))))))) ?_
  obtain ⟨z32, hz32, h⟩ := bnd_some h
  refine DrawG.fl rfl (ev_ex wantS_none (ex_cat rfl rfl hz32)) rfl ?_
  obtain ⟨z33, hz33, h⟩ := bnd_some h
  refine DrawG.fl rfl (ev_ex wantS_none (ex_cat rfl rfl hz33)) rfl ?_
  obtain ⟨r34, hr34, h⟩ := bnd_some h
  refine DrawG.callP rfl wantS_none (ex_call rfl mkk96 cal96) rfl (ref00_Decimal_ok F a0.Chance.N _ _ hr34) (st_cons rfl (ev_ex wantS_none (ex_cat rfl rfl hz33)) rfl rfl rfl (st_cons rfl (ev_ex wantS_none (ex_cat rfl rfl hz32)) rfl rfl rfl (st_cons rfl (ev_ex wantS_none (ex_cat rfl rfl hz29)) rfl rfl rfl (st_cons rfl (ev_ex wantS_none (ex_cat rfl rfl hz28)) rfl rfl rfl (st_cons rfl (ev_ex wantS_none (ex_load1 rfl (hH23.cells (i := 0) rfl 5 rfl) rdLe_rfl agg3)) rfl rfl rfl (st_cons rfl (ev_ex wantS_none (ex_fieldAddr rfl off29_4)) rfl rfl rfl (st_cons rfl (ev_ex wantS_none (ex_load1 rfl (hH23.cells (i := 0) rfl 4 rfl) rdLe_rfl agg3)) rfl rfl rfl (st_cons rfl (ev_ex wantS_none (ex_fieldAddr rfl off26_1)) rfl rfl rfl (st_cons rfl (ev_ex wantS_none (ex_fieldAddr rfl off29_3)) rfl rfl rfl (st_cons rfl (ev_ex wantS_none (ex_cat rfl rfl hz25)) rfl rfl rfl (st_cons rfl (ev_ex wantS_none (ex_cat rfl rfl hz24)) rfl rfl rfl (st_cons rfl (ev_ex wantS_none (ex_load1 rfl (hH23.cells (i := 0) rfl 0 rfl) rdLe_rfl agg9)) rfl rfl rfl (st_cons rfl (ev_ex wantS_none (ex_fieldAddr rfl off29_0)) rfl rfl rfl st_nil))))))))))))) ?_
  obtain ⟨z36, hz36, h⟩ := bnd_some h
  refine DrawG.fl rfl (ev_ex wantS_none (ex_cat rfl rfl hz36)) rfl ?_
  obtain ⟨z37, hz37, h⟩ := bnd_some h
  refine DrawG.fl rfl (ev_ex wantS_none (ex_cat rfl rfl hz37)) rfl ?_
  obtain ⟨r38, hr38, h⟩ := bnd_some h
  refine DrawG.callP rfl wantS_none (ex_call rfl mkk96 cal96) rfl (ref00_Decimal_ok F a0.Chance.Of _ _ hr38) (st_cons rfl (ev_ex wantS_none (ex_cat rfl rfl hz37)) rfl rfl rfl (st_cons rfl (ev_ex wantS_none (ex_cat rfl rfl hz36)) rfl rfl rfl (st_cons rfl (ev_ex wantS_none (ex_cat rfl rfl hz33)) rfl rfl rfl (st_cons rfl (ev_ex wantS_none (ex_cat rfl rfl hz32)) rfl rfl rfl (st_cons rfl (ev_ex wantS_none (ex_cat rfl rfl hz29)) rfl rfl rfl (st_cons rfl (ev_ex wantS_none (ex_cat rfl rfl hz28)) rfl rfl rfl (st_cons rfl (ev_ex wantS_none (ex_load1 rfl (hH23.cells (i := 0) rfl 5 rfl) rdLe_rfl agg3)) rfl rfl rfl (st_cons rfl (ev_ex wantS_none (ex_fieldAddr rfl off29_4)) rfl rfl rfl (st_cons rfl (ev_ex wantS_none (ex_cat rfl rfl hz25)) rfl rfl rfl (st_cons rfl (ev_ex wantS_none (ex_cat rfl rfl hz24)) rfl rfl rfl (st_cons rfl (ev_ex wantS_none (ex_load1 rfl (hH23.cells (i := 0) rfl 0 rfl) rdLe_rfl agg9)) rfl rfl rfl (st_cons rfl (ev_ex wantS_none (ex_fieldAddr rfl off29_0)) rfl rfl rfl st_nil)))))))))))) ?_
  obtain ⟨z40, hz40, h⟩ := bnd_some h
  refine DrawG.fl rfl (ev_ex wantS_none (ex_cat rfl rfl hz40)) rfl ?_
  obtain ⟨z41, hz41, h⟩ := bnd_some h
  refine DrawG.fl rfl (ev_ex wantS_none (ex_cat rfl rfl hz41)) rfl ?_
  obtain ⟨r42, hr42, h⟩ := bnd_some h
  refine DrawG.callP rfl wantS_none (ex_call rfl mkk96 cal96) rfl (ref00_Decimal_ok F a0.Grid _ _ hr42) (st_cons rfl (ev_ex wantS_none (ex_cat rfl rfl hz41)) rfl rfl rfl (st_cons rfl (ev_ex wantS_none (ex_cat rfl rfl hz40)) rfl rfl rfl (st_cons rfl (ev_ex wantS_none (ex_cat rfl rfl hz37)) rfl rfl rfl (st_cons rfl (ev_ex wantS_none (ex_cat rfl rfl hz36)) rfl rfl rfl (st_cons rfl (ev_ex wantS_none (ex_cat rfl rfl hz33)) rfl rfl rfl (st_cons rfl (ev_ex wantS_none (ex_cat rfl rfl hz32)) rfl rfl rfl (st_cons rfl (ev_ex wantS_none (ex_cat rfl rfl hz29)) rfl rfl rfl (st_cons rfl (ev_ex wantS_none (ex_cat rfl rfl hz28)) rfl rfl rfl (st_cons rfl (ev_ex wantS_none (ex_cat rfl rfl hz25)) rfl rfl rfl (st_cons rfl (ev_ex wantS_none (ex_cat rfl rfl hz24)) rfl rfl rfl (st_cons rfl (ev_ex wantS_none (ex_load1 rfl (hH23.cells (i := 0) rfl 0 rfl) rdLe_rfl agg9)) rfl rfl rfl (st_cons rfl (ev_ex wantS_none (ex_fieldAddr rfl off29_0)) rfl rfl rfl st_nil)))))))))))) ?_
  obtain ⟨z44, hz44, h⟩ := bnd_some h
  refine DrawG.fl rfl (ev_ex wantS_none (ex_cat rfl rfl hz44)) rfl ?_
  obtain ⟨z45, hz45, h⟩ := bnd_some h
  refine DrawG.fl rfl (ev_ex wantS_none (ex_cat rfl rfl hz45)) rfl ?_
  refine DrawG.fl rfl (ev_ex wantS_none (ex_assign rfl)) rfl ?_
  refine DrawG.sync ?_
  refine DrawG.nil ?_
  refine Run.seq (Run.seq (Run.region ?_))
  refine Run.opG wantS_none (ex_fieldAddr rfl off29_6) rfl ?_
  refine Run.opG wantS_none (ex_load1 rfl (hH23.cells (i := 0) rfl 7 rfl) rdLe_rfl agg4) rfl ?_
  refine Run.opsEnd ?_
  rcases btf (a0.Withdrawn) with hc46 | hc46
  · have h := bif_t hc46 h
    refine Run.condT' rfl hc46 ?_
    refine Run.region ?_
    refine Run.opG wantS_none (ex_move rfl) rfl ?_
    obtain ⟨z48, hz48, h⟩ := bnd_some h
    refine Run.opG wantS_none (ex_cat rfl rfl hz48) rfl ?_
    refine Run.opG wantS_none (ex_assign rfl) rfl ?_
    refine Run.opsEnd (Run.seq (Run.seq (Run.region ?_)))
    exact Run.pick [1, 3] (ref10_text_1_ok F z48 a0.Event a0.Version a0.Time a0.Chance.N a0.Chance.Of a0.Grid a0.Cells a0.Withdrawn a0.Before s0 b22 _ _ _ hs0 hH23 h)
  · have h := bif_f hc46 h
    refine Run.condF' rfl hc46 ?_
    refine Run.region ?_
    refine Run.opG wantS_none (ex_move rfl) rfl ?_
    obtain ⟨z69, hz69, h⟩ := bnd_some h
    refine Run.opG wantS_none (ex_cat rfl rfl hz69) rfl ?_
    refine Run.opG wantS_none (ex_assign rfl) rfl ?_
    refine Run.opsEnd (Run.seq (Run.seq (Run.region ?_)))
    exact Run.pick [1, 3] (ref10_text_1_ok F z69 a0.Event a0.Version a0.Time a0.Chance.N a0.Chance.Of a0.Grid a0.Cells a0.Withdrawn a0.Before s0 b22 _ _ _ hs0 hH23 h)

theorem mkk77 : makeK Tryd.prog 77 = none := by kernel_rfl
theorem cal77 : callable Tryd.prog 77 = true := by kernel_rfl
abbrev ref10_digest_post (r : Int) : SV → Mem → Prop := fun s _ => s = (.int .i64 r)

def ref10_digest_1 (F : Nat) : Nat → Int → (List UInt8) → Int → Option (Int)
  | 0, _, _, _ => none
  | N + 1, v3, v4, v5 =>
    bif (decide (v5 < (v4.length : Int))) then
      bnd (sAt v4 v5) fun z29 =>
      (ref10_digest_1 F N) (Int.tmod (w64 ((w64 ((w64 (v3 * (31 : Int))) + (w64 z29))) + (1 : Int))) (2147483647 : Int)) v4 (w64 (v5 + (1 : Int)))
    else
      some v3

theorem ref10_digest_1_ok (F : Nat) : ∀ (N : Nat), ∀ (v3 : Int) (v4 : (List UInt8)) (v5 : Int) (Fr : Rd) (M : Mem) (r : Int) (hH : Has Fr M []), ref10_digest_1 F N v3 v4 v5 = some r → Run Tryd.prog ⟨⟨49, [], none⟩, []⟩ 24 (ref10_digest_post r) [(3, (.int .i64 v3)), (4, (.str v4)), (5, (.int .i64 v5))] [codeC Tryd.prog 49 [1, 1, 1, 0, 1, 0, 0], loopC Tryd.prog 49 [1, 1, 1, 0, 1, 0, 0], .inBlock 0, codeC Tryd.prog 49 [1, 1, 1, 1]] M := by
  intro N
  induction N with
  | zero =>
    intro v3 v4 v5 Fr M r hH h
    simp [ref10_digest_1] at h
  | succ N ih =>
    intro v3 v4 v5 Fr M r hH h
    rw [ref10_digest_1] at h
    refine Run.seq (Run.seq (Run.region ?_))
    refine Run.opG wantS_none (ex_move rfl) rfl ?_
    refine Run.opG wantS_none (ex_move rfl) rfl ?_
    refine Run.opG wantS_none (ex_lenS rfl lenk9) rfl ?_
    refine Run.opG wantS_none (ex_lss rfl rfl) rfl ?_
    refine Run.opsEnd ?_
    rcases btf ((decide (v5 < (v4.length : Int)))) with hc27 | hc27
    · have h := bif_t hc27 h
      refine Run.condT' rfl hc27 ?_
      refine Run.skip (Run.seq (Run.block (Run.region ?_)))
      refine Run.opG wantS_none (ex_move rfl) rfl ?_
      refine Run.opG wantS_none (ex_mul rfl rfl) rfl ?_
      refine Run.opG wantS_none (ex_move rfl) rfl ?_
      refine Run.opG wantS_none (ex_move rfl) rfl ?_
      obtain ⟨z29, hz29, h⟩ := bnd_some h
      refine Run.opG wantS_none (ex_sAt rfl rfl whs9 hz29) rfl ?_
      refine Run.opG wantS_none (ex_conv rfl uvk5_3 cvk5_3) rfl ?_
      refine Run.opG wantS_none (ex_add rfl rfl) rfl ?_
      refine Run.opG wantS_none (ex_add rfl rfl) rfl ?_
      refine Run.opG wantS_none (ex_rem rfl rfl (by decide)) rfl ?_
      refine Run.opG wantS_none (ex_assign rfl) rfl ?_
      refine Run.opsEnd (Run.inBlock (Run.region ?_))
      refine Run.opG wantS_none (ex_move rfl) rfl ?_
      refine Run.opG wantS_none (ex_add rfl rfl) rfl ?_
      refine Run.opG wantS_none (ex_assign rfl) rfl ?_
      refine Run.opsEnd (Run.inLoop ?_)
      exact Run.pick [3, 4, 5] (ih (Int.tmod (w64 ((w64 ((w64 (v3 * (31 : Int))) + (w64 z29))) + (1 : Int))) (2147483647 : Int)) v4 (w64 (v5 + (1 : Int))) _ _ _ hH h)
    · have h := bif_f hc27 h
      refine Run.condF' rfl hc27 ?_
      refine Run.exit rfl (Run.seq (Run.region ?_))
      refine Run.opG wantS_none (ex_move rfl) rfl ?_
      refine Run.opG wantS_none (ex_assign rfl) rfl ?_
      refine Run.opsEnd ?_
      cases h
      exact Run.ret Tryd.func49 rfl (res_tmp rfl res_nil) rfl

def ref10_digest (F : Nat) (a0 : S_api_Alert) : Option (Int) :=
  bnd (ref10_text F a0) fun r25 =>
  ref10_digest_1 F F (7 : Int) r25 (0 : Int)

theorem ref10_digest_ok (F : Nat) (a0 : S_api_Alert) (s0 : SV) (r : Int) (M : Mem) (hs0 : Slc (rd M) 1 (FlatR enc3) s0 a0.Cells) (h : ref10_digest F a0 = some r) : CallsM Tryd.prog 49 [(.agg [(.str a0.Event), (.int .i64 a0.Version), (.int .i64 a0.Time), (.int .i64 a0.Chance.N), (.int .i64 a0.Chance.Of), (.int .i64 a0.Grid), s0, (.bool a0.Withdrawn), (.int .i64 a0.Before)])] M (fun s M' => s = (.int .i64 r) ∧ M' = M) := by
  refine CallsM.plain Tryd.func49 rfl rfl rfl (show Run _ _ _ (ref10_digest_post r) _ _ _ from ?_)
  rw [ref10_digest] at h
  replace hs0 := hs0.mono (rdLe_frozen M) (fun _ _ h => h)
  have hH := Has.nil (frozen M)
  refine Run.seq (Run.region ?_)
  refine Run.opX wantS_none rfl (ExG.box rfl rfl hH) ?_
  rintro _ M23 ⟨b22, rfl, hH23⟩
  refine Run.opG wantS_none (ex_assign rfl) rfl ?_
  refine Run.opsEnd (Run.seq (Run.region ?_))
  refine Run.opG wantS_none (ex_assign rfl) rfl ?_
  refine Run.opsEnd (Run.seq (Run.region ?_))
  refine Run.opG wantS_none (ex_loadA rfl (hH23.cells (i := 0) rfl 0 rfl) rdLe_rfl agg29 rfl rfl rfl) rfl ?_
  obtain ⟨r25, hr25, h⟩ := bnd_some h
  refine Run.callP wantS_none (ex_call rfl mkk77 cal77) rfl (ref10_text_ok F a0 s0 _ _ (hH23.slcF hs0) hr25) ?_
  refine Run.opG wantS_none (ex_assign rfl) rfl ?_
  refine Run.opsEnd (Run.seq (Run.seq (Run.region ?_)))
  refine Run.opG wantS_none (ex_assign rfl) rfl ?_
  refine Run.opsEnd (Run.block (Run.loop ?_))
  exact Run.pick [3, 4, 5] (ref10_digest_1_ok F F (7 : Int) r25 (0 : Int) _ _ _ (hH23.pick [] rfl rfl) h)

theorem mkk49 : makeK Tryd.prog 49 = none := by kernel_rfl
theorem cal49 : callable Tryd.prog 49 = true := by kernel_rfl
theorem plan23_1_1_0 : planOf Tryd.prog (opsC (atC Tryd.prog 23 [1, 1, 0])) = some [.fl 0, .fl 1, .fl 2, .fl 3, .fl 4, .fl 5, .fl 6, .fl 7, .fl 8, .fl 9, .an 10 [8, 7, 6, 5, 4, 3, 2, 1, 0], .fl 11, .an 12 [], .fl 13, .fl 14, .an 15 [], .fl 16, .sync] := by kernel_rfl
abbrev ref10_Follow_post (r : S_api_Alert × Int) : SV → Mem → Prop := fun s Me => ∃ q1, s = (.tuple [(.agg [(.str r.1.Event), (.int .i64 r.1.Version), (.int .i64 r.1.Time), (.int .i64 r.1.Chance.N), (.int .i64 r.1.Chance.Of), (.int .i64 r.1.Grid), q1, (.bool r.1.Withdrawn), (.int .i64 r.1.Before)]), (.int .i64 r.2)]) ∧ Has (fun _ => none) Me [.vec 3 1 r.1.Cells.length q1 (r.1.Cells.flatMap enc3)]

def ref10_Follow (F : Nat) (a0 : S_api_Alert) (a1 : Int) (a2 : S_api_Chance) (a3 : Int) (a4 : (List Int)) : Option (S_api_Alert × Int) :=
  bnd (ref10_next F a0 a1) fun r31 =>
  bif (!(r31 == (0 : Int))) then
    some ((S_api_Alert.mk [] 0 0 (S_api_Chance.mk 0 0) 0 ([] : List Int) false 0), r31)
  else
    bnd (ref10_digest F a0) fun r37 =>
    bnd (ref10_valid F (S_api_Alert.mk a0.Event (w64 (a0.Version + (1 : Int))) a1 a2 a3 a4 false r37)) fun r39 =>
    some (r39.1, r39.2)

theorem ref10_Follow_ok (F : Nat) (a0 : S_api_Alert) (a1 : Int) (a2 : S_api_Chance) (a3 : Int) (a4 : (List Int)) (s0 s1 : SV) (r : S_api_Alert × Int) (M : Mem) (hs0 : Slc (rd M) 1 (FlatR enc3) s0 a0.Cells) (hs1 : Slc (rd M) 1 (FlatR enc3) s1 a4) (h : ref10_Follow F a0 a1 a2 a3 a4 = some r) : CallsM Tryd.prog 23 [(.agg [(.str a0.Event), (.int .i64 a0.Version), (.int .i64 a0.Time), (.int .i64 a0.Chance.N), (.int .i64 a0.Chance.Of), (.int .i64 a0.Grid), s0, (.bool a0.Withdrawn), (.int .i64 a0.Before)]), (.int .i64 a1), (.agg [(.int .i64 a2.N), (.int .i64 a2.Of)]), (.int .i64 a3), s1] M (fun s M' => ∃ q1, s = (.tuple [(.agg [(.str r.1.Event), (.int .i64 r.1.Version), (.int .i64 r.1.Time), (.int .i64 r.1.Chance.N), (.int .i64 r.1.Chance.Of), (.int .i64 r.1.Grid), q1, (.bool r.1.Withdrawn), (.int .i64 r.1.Before)]), (.int .i64 r.2)]) ∧ New M M' [.vec 3 1 r.1.Cells.length q1 (r.1.Cells.flatMap enc3)]) := by
  refine CallsM.fresh (Q := ref10_Follow_post r) Tryd.func23 rfl rfl ?_ (by rintro s Me ⟨q1, rfl, hx⟩ ha hw; exact ⟨_, rfl, New.of rfl hx ha hw⟩)
  rw [ref10_Follow] at h
  replace hs0 := hs0.mono (rdLe_frozen M) (fun _ _ h => h)
  replace hs1 := hs1.mono (rdLe_frozen M) (fun _ _ h => h)
  have hH := Has.nil (frozen M)
  refine Run.seq (Run.region ?_)
  refine Run.opX wantS_none rfl (ExG.box rfl rfl hH) ?_
  rintro _ M23 ⟨b22, rfl, hH23⟩
  refine Run.opX wantS_none rfl (ExG.box rfl rfl hH23) ?_
  rintro _ M26 ⟨b25, rfl, hH26⟩
  refine Run.opX wantS_none rfl (ExG.new (v := fun b => .ptr b 0) (ex_alloc zer29) hH26) ?_
  rintro _ M29 ⟨b28, rfl, hH29⟩
  refine Run.opG wantS_none (ex_assign rfl) rfl ?_
  refine Run.opsEnd (Run.seq (Run.seq (Run.region ?_)))
  refine Run.opG wantS_none (ex_loadA rfl (hH29.cells (i := 2) rfl 0 rfl) rdLe_rfl agg29 rfl rfl rfl) rfl ?_
  refine Run.opG wantS_none (ex_move rfl) rfl ?_
  obtain ⟨r31, hr31, h⟩ := bnd_some h
  refine Run.callP wantS_none (ex_call rfl mkk64 cal64) rfl (ref10_next_ok F a0 a1 s0 _ _ (hH29.slcF hs0) hr31) ?_
  refine Run.opG wantS_none (ex_assign rfl) rfl ?_
  refine Run.opsEnd (Run.seq (Run.region ?_))
  refine Run.opG wantS_none (ex_move rfl) rfl ?_
  refine Run.opG wantS_none (ex_neq rfl rfl) rfl ?_
  refine Run.opsEnd ?_
  rcases btf ((!(r31 == (0 : Int)))) with hc33 | hc33
  · have h := bif_t hc33 h
    refine Run.condT' rfl hc33 ?_
    refine Run.seq (Run.region ?_)
    refine Run.opG wantS_none (ex_build (r := [(.str []), (.int .i64 0), (.int .i64 0), (.int .i64 0), (.int .i64 0), (.int .i64 0), .nils, (.bool false), (.int .i64 0)]) rfl zer29 pls29 rfl) rfl ?_
    refine Run.opG wantS_none (ex_move rfl) rfl ?_
    refine Run.opX wantS_none rfl (ExG.storeC (c' := [(.str []), (.int .i64 0), (.int .i64 0), (.int .i64 0), (.int .i64 0), (.int .i64 0), .nils, (.bool false), (.int .i64 0)]) rfl rfl rfl hH29 (i := 0) rfl sz29 rfl rfl rfl rfl rfl) ?_
    rintro _ M34 ⟨rfl, (hH34 : Has (ro (frozen M)) M34 [.obj b28 (.row 29 .whole [(.str []), (.int .i64 0), (.int .i64 0), (.int .i64 0), (.int .i64 0), (.int .i64 0), .nils, (.bool false), (.int .i64 0)]), .obj b25 (.row 26 .whole [(.int .i64 a2.N), (.int .i64 a2.Of)]), .obj b22 (.row 29 .whole [(.str a0.Event), (.int .i64 a0.Version), (.int .i64 a0.Time), (.int .i64 a0.Chance.N), (.int .i64 a0.Chance.Of), (.int .i64 a0.Grid), s0, (.bool a0.Withdrawn), (.int .i64 a0.Before)])])⟩
    refine Run.opG wantS_none (ex_assign rfl) rfl ?_
    refine Run.opsEnd ?_
    have hH36 : Has (ro (frozen M)) M34 [.vec 3 1 ([] : List Int).length .nils (([] : List Int).flatMap enc3), .obj b28 (.row 29 .whole [(.str []), (.int .i64 0), (.int .i64 0), (.int .i64 0), (.int .i64 0), (.int .i64 0), .nils, (.bool false), (.int .i64 0)]), .obj b25 (.row 26 .whole [(.int .i64 a2.N), (.int .i64 a2.Of)]), .obj b22 (.row 29 .whole [(.str a0.Event), (.int .i64 a0.Version), (.int .i64 a0.Time), (.int .i64 a0.Chance.N), (.int .i64 a0.Chance.Of), (.int .i64 a0.Grid), s0, (.bool a0.Withdrawn), (.int .i64 a0.Before)])] := hH34.nils 3 1
    cases h
    exact Run.ret Tryd.func23 rfl (res_cell rfl (x_load (ex_loadA rfl (hH34.cells (i := 0) rfl 0 rfl) rdLe_rfl agg29 rfl rfl rfl)) (res_tmp rfl res_nil)) ⟨_, rfl, (hH36.pick [0] rfl rfl).upF (none_le _)⟩
  · have h := bif_f hc33 h
    refine Run.condF' rfl hc33 ?_
    refine Run.skip (Run.seq ?_)
    refine Run.drawG plan23_1_1_0 ?_
    refine DrawG.fl rfl (ev_ex wantS_none (ex_fieldAddr rfl off29_0)) rfl ?_
    refine DrawG.fl rfl (ev_ex wantS_none (ex_load1 rfl (hH29.cells (i := 2) rfl 0 rfl) rdLe_rfl agg9)) rfl ?_
    refine DrawG.fl rfl (ev_ex wantS_none (ex_fieldAddr rfl off29_1)) rfl ?_
    refine DrawG.fl rfl (ev_ex wantS_none (ex_load1 rfl (hH29.cells (i := 2) rfl 1 rfl) rdLe_rfl agg3)) rfl ?_
    refine DrawG.fl rfl (ev_ex wantS_none (ex_add rfl rfl)) rfl ?_
    refine DrawG.fl rfl (ev_ex wantS_none (ex_move rfl)) rfl ?_
    refine DrawG.fl rfl (ev_ex wantS_none (ex_loadA rfl (hH29.cells (i := 1) rfl 0 rfl) rdLe_rfl agg26 rfl rfl rfl)) rfl ?_
    refine DrawG.fl rfl (ev_ex wantS_none (ex_move rfl)) rfl ?_
    refine DrawG.fl rfl (ev_ex wantS_none (ex_move rfl)) rfl ?_
    refine DrawG.fl rfl (ev_ex wantS_none (ex_loadA rfl (hH29.cells (i := 2) rfl 0 rfl) rdLe_rfl agg29 rfl rfl rfl)) rfl ?_
    obtain ⟨r37, hr37, h⟩ := bnd_some h
    refine DrawG.callP rfl wantS_none (ex_call rfl mkk49 cal49) rfl (ref10_digest_ok F a0 s0 _ _ (hH29.slcF hs0) hr37) (st_cons rfl (ev_ex wantS_none (ex_move rfl)) rfl rfl (slc_self hs1) (st_cons rfl (ev_ex wantS_none (ex_move rfl)) rfl rfl rfl (st_cons rfl (ev_ex wantS_none (ex_loadA rfl (hH29.cells (i := 1) rfl 0 rfl) rdLe_rfl agg26 rfl rfl rfl)) rfl rfl rfl (st_cons rfl (ev_ex wantS_none (ex_move rfl)) rfl rfl rfl (st_cons rfl (ev_ex wantS_none (ex_add rfl rfl)) rfl rfl rfl (st_cons rfl (ev_ex wantS_none (ex_load1 rfl (hH29.cells (i := 2) rfl 1 rfl) rdLe_rfl agg3)) rfl rfl rfl (st_cons rfl (ev_ex wantS_none (ex_fieldAddr rfl off29_1)) rfl rfl rfl (st_cons rfl (ev_ex wantS_none (ex_load1 rfl (hH29.cells (i := 2) rfl 0 rfl) rdLe_rfl agg9)) rfl rfl rfl (st_cons rfl (ev_ex wantS_none (ex_fieldAddr rfl off29_0)) rfl rfl rfl st_nil))))))))) ?_
    refine DrawG.fl rfl (ev_ex wantS_none (ex_build (r := [(.str a0.Event), (.int .i64 (w64 (a0.Version + (1 : Int)))), (.int .i64 a1), (.int .i64 a2.N), (.int .i64 a2.Of), (.int .i64 a3), s1, (.bool false), (.int .i64 r37)]) rfl zer29 pls29 (by simp only [fillS, cells_one (slc_one hs1)]; rfl))) rfl ?_
    obtain ⟨r39, hr39, h⟩ := bnd_some h
    refine DrawG.call rfl wantS_none (ex_call rfl mkk61 cal61) rfl (ref10_valid_ok F (S_api_Alert.mk a0.Event (w64 (a0.Version + (1 : Int))) a1 a2 a3 a4 false r37) s1 _ _ (hH29.slcF hs1) hr39) ?_
    rintro _ M41 ⟨s39_0, rfl, hN39⟩
    have hH41 : Has (ro (frozen M)) M41 [.vec 3 1 r39.1.Cells.length s39_0 (r39.1.Cells.flatMap enc3), .obj b28 (.row 29 .whole [(.str []), (.int .i64 0), (.int .i64 0), (.int .i64 0), (.int .i64 0), (.int .i64 0), .nils, (.bool false), (.int .i64 0)]), .obj b25 (.row 26 .whole [(.int .i64 a2.N), (.int .i64 a2.Of)]), .obj b22 (.row 29 .whole [(.str a0.Event), (.int .i64 a0.Version), (.int .i64 a0.Time), (.int .i64 a0.Chance.N), (.int .i64 a0.Chance.Of), (.int .i64 a0.Grid), s0, (.bool a0.Withdrawn), (.int .i64 a0.Before)])] := hN39.1 _ _ hH29
    refine ⟨st_nil, ?_⟩
    refine DrawG.fl rfl (ev_ex wantS_none (ex_extract rfl rfl)) rfl ?_
    refine DrawG.fl rfl (ev_ex wantS_none (ex_extract rfl rfl)) rfl ?_
    refine DrawG.opX rfl wantS_none rfl (ExG.storeC (c' := [(.str r39.1.Event), (.int .i64 r39.1.Version), (.int .i64 r39.1.Time), (.int .i64 r39.1.Chance.N), (.int .i64 r39.1.Chance.Of), (.int .i64 r39.1.Grid), s39_0, (.bool r39.1.Withdrawn), (.int .i64 r39.1.Before)]) rfl rfl rfl hH41 (i := 1) rfl sz29 rfl rfl rfl (ones_cons rfl (ones_cons rfl (ones_cons rfl (ones_cons rfl (ones_cons rfl (ones_cons rfl (ones_cons (vec_one hH41 (i := 0) rfl) (ones_cons rfl (ones_cons rfl ones_nil))))))))) rfl) ?_
    rintro _ M42 ⟨rfl, (hH42 : Has (ro (frozen M)) M42 [.vec 3 1 r39.1.Cells.length s39_0 (r39.1.Cells.flatMap enc3), .obj b28 (.row 29 .whole [(.str r39.1.Event), (.int .i64 r39.1.Version), (.int .i64 r39.1.Time), (.int .i64 r39.1.Chance.N), (.int .i64 r39.1.Chance.Of), (.int .i64 r39.1.Grid), s39_0, (.bool r39.1.Withdrawn), (.int .i64 r39.1.Before)]), .obj b25 (.row 26 .whole [(.int .i64 a2.N), (.int .i64 a2.Of)]), .obj b22 (.row 29 .whole [(.str a0.Event), (.int .i64 a0.Version), (.int .i64 a0.Time), (.int .i64 a0.Chance.N), (.int .i64 a0.Chance.Of), (.int .i64 a0.Grid), s0, (.bool a0.Withdrawn), (.int .i64 a0.Before)])])⟩
    refine ⟨st_nil, ?_⟩
    refine DrawG.fl rfl (ev_ex wantS_none (ex_assign rfl)) rfl ?_
    refine DrawG.sync ?_
    refine DrawG.nil ?_
    cases h
    exact Run.ret Tryd.func23 rfl (res_cell rfl (x_load (ex_loadA rfl (hH42.cells (i := 1) rfl 0 rfl) rdLe_rfl agg29 rfl rfl rfl)) (res_tmp rfl res_nil)) ⟨_, rfl, (hH42.pick [0] rfl rfl).upF (none_le _)⟩

theorem mkk23 : makeK Tryd.prog 23 = none := by kernel_rfl
theorem cal23 : callable Tryd.prog 23 = true := by kernel_rfl
abbrev alert_Withdraw_post (r : S_api_Alert × Int) : SV → Mem → Prop := fun s Me => ∃ q1, s = (.tuple [(.agg [(.str r.1.Event), (.int .i64 r.1.Version), (.int .i64 r.1.Time), (.int .i64 r.1.Chance.N), (.int .i64 r.1.Chance.Of), (.int .i64 r.1.Grid), q1, (.bool r.1.Withdrawn), (.int .i64 r.1.Before)]), (.int .i64 r.2)]) ∧ Has (fun _ => none) Me [.vec 3 1 r.1.Cells.length q1 (r.1.Cells.flatMap enc3)]

def alert_Withdraw (F : Nat) (a0 : S_api_Alert) (a1 : Int) : Option (S_api_Alert × Int) :=
  bnd (alert_next F a0 (S_api_Alert.mk [] 0 a1 a0.Chance a0.Grid [] true 0)) fun r32 =>
  some (r32.1, r32.2)

theorem alert_Withdraw_ok (F : Nat) (a0 : S_api_Alert) (a1 : Int) (s0 : SV) (r : S_api_Alert × Int) (M : Mem) (hs0 : Slc (rd M) 1 (FlatR enc3) s0 a0.Cells) (hfx : FixIn M fixes) (h : alert_Withdraw F a0 a1 = some r) : CallsM Tryd.prog 25 [(.agg [(.str a0.Event), (.int .i64 a0.Version), (.int .i64 a0.Time), (.int .i64 a0.Chance.N), (.int .i64 a0.Chance.Of), (.int .i64 a0.Grid), s0, (.bool a0.Withdrawn), (.int .i64 a0.Before)]), (.int .i64 a1)] M (fun s M' => ∃ q1, s = (.tuple [(.agg [(.str r.1.Event), (.int .i64 r.1.Version), (.int .i64 r.1.Time), (.int .i64 r.1.Chance.N), (.int .i64 r.1.Chance.Of), (.int .i64 r.1.Grid), q1, (.bool r.1.Withdrawn), (.int .i64 r.1.Before)]), (.int .i64 r.2)]) ∧ New M M' [.vec 3 1 r.1.Cells.length q1 (r.1.Cells.flatMap enc3)]) := by
  refine CallsM.fresh (Q := alert_Withdraw_post r) Tryd.func25 rfl rfl ?_ (by rintro s Me ⟨q1, rfl, hx⟩ ha hw; exact ⟨_, rfl, New.of rfl hx ha hw⟩)
  rw [alert_Withdraw] at h
  replace hs0 := hs0.mono (rdLe_frozen M) (fun _ _ h => h)
  have hH : Has (ro (frozen M)) (frozen M) [tb0, tb1, tb2] := Has.ofFix hfx.frozen
  refine Run.seq (Run.region ?_)
  refine Run.opX wantS_none rfl (ExG.box rfl rfl hH) ?_
  rintro _ M26 ⟨b25, rfl, hH26⟩
  refine Run.opX wantS_none rfl (ExG.new (v := fun b => .ptr b 0) (ex_alloc zer29) hH26) ?_
  rintro _ M29 ⟨b28, rfl, hH29⟩
  refine Run.opG wantS_none (ex_assign rfl) rfl ?_
  refine Run.opsEnd (Run.seq (Run.region ?_))
  refine Run.opG wantS_none (ex_loadA rfl (hH29.cells (i := 1) rfl 0 rfl) rdLe_rfl agg29 rfl rfl rfl) rfl ?_
  refine Run.opG wantS_none (ex_move rfl) rfl ?_
  refine Run.opG wantS_none (ex_fieldAddr rfl off29_3) rfl ?_
  refine Run.opG wantS_none (ex_loadA rfl (hH29.cells (i := 1) rfl 3 rfl) rdLe_rfl agg26 rfl rfl rfl) rfl ?_
  refine Run.opG wantS_none (ex_fieldAddr rfl off29_4) rfl ?_
  refine Run.opG wantS_none (ex_load1 rfl (hH29.cells (i := 1) rfl 5 rfl) rdLe_rfl agg3) rfl ?_
  refine Run.opG wantS_none (ex_build (r := [(.str []), (.int .i64 0), (.int .i64 a1), (.int .i64 a0.Chance.N), (.int .i64 a0.Chance.Of), (.int .i64 a0.Grid), .nils, (.bool true), (.int .i64 0)]) rfl zer29 pls29 rfl) rfl ?_
  obtain ⟨r32, hr32, h⟩ := bnd_some h
  refine Run.callX wantS_none (ex_call rfl mkk63 cal63) rfl (alert_next_ok F a0 (S_api_Alert.mk [] 0 a1 a0.Chance a0.Grid [] true 0) s0 .nils _ _ (hH29.slcF hs0) slc_nil (fixH hH29 (List.mem_of_getElem? (i := 2) rfl) (List.mem_of_getElem? (i := 3) rfl) (List.mem_of_getElem? (i := 4) rfl)) hr32) ?_
  rintro _ M34 ⟨s32_0, rfl, hN32⟩
  have hH34 : Has (ro (frozen M)) M34 [.vec 3 1 r32.1.Cells.length s32_0 (r32.1.Cells.flatMap enc3), .obj b28 (.row 29 .whole [(.str []), (.int .i64 0), (.int .i64 0), (.int .i64 0), (.int .i64 0), (.int .i64 0), .nils, (.bool false), (.int .i64 0)]), .obj b25 (.row 29 .whole [(.str a0.Event), (.int .i64 a0.Version), (.int .i64 a0.Time), (.int .i64 a0.Chance.N), (.int .i64 a0.Chance.Of), (.int .i64 a0.Grid), s0, (.bool a0.Withdrawn), (.int .i64 a0.Before)]), tb0, tb1, tb2] := hN32.1 _ _ hH29
  refine Run.opG wantS_none (ex_extract rfl rfl) rfl ?_
  refine Run.opG wantS_none (ex_extract rfl rfl) rfl ?_
  refine Run.opX wantS_none rfl (ExG.storeC (c' := [(.str r32.1.Event), (.int .i64 r32.1.Version), (.int .i64 r32.1.Time), (.int .i64 r32.1.Chance.N), (.int .i64 r32.1.Chance.Of), (.int .i64 r32.1.Grid), s32_0, (.bool r32.1.Withdrawn), (.int .i64 r32.1.Before)]) rfl rfl rfl hH34 (i := 1) rfl sz29 rfl rfl rfl (ones_cons rfl (ones_cons rfl (ones_cons rfl (ones_cons rfl (ones_cons rfl (ones_cons rfl (ones_cons (vec_one hH34 (i := 0) rfl) (ones_cons rfl (ones_cons rfl ones_nil))))))))) rfl) ?_
  rintro _ M35 ⟨rfl, (hH35 : Has (ro (frozen M)) M35 [.vec 3 1 r32.1.Cells.length s32_0 (r32.1.Cells.flatMap enc3), .obj b28 (.row 29 .whole [(.str r32.1.Event), (.int .i64 r32.1.Version), (.int .i64 r32.1.Time), (.int .i64 r32.1.Chance.N), (.int .i64 r32.1.Chance.Of), (.int .i64 r32.1.Grid), s32_0, (.bool r32.1.Withdrawn), (.int .i64 r32.1.Before)]), .obj b25 (.row 29 .whole [(.str a0.Event), (.int .i64 a0.Version), (.int .i64 a0.Time), (.int .i64 a0.Chance.N), (.int .i64 a0.Chance.Of), (.int .i64 a0.Grid), s0, (.bool a0.Withdrawn), (.int .i64 a0.Before)]), tb0, tb1, tb2])⟩
  refine Run.opG wantS_none (ex_assign rfl) rfl ?_
  refine Run.opsEnd ?_
  cases h
  exact Run.ret Tryd.func25 rfl (res_cell rfl (x_load (ex_loadA rfl (hH35.cells (i := 1) rfl 0 rfl) rdLe_rfl agg29 rfl rfl rfl)) (res_tmp rfl res_nil)) ⟨_, rfl, (hH35.pick [0] rfl rfl).upF (none_le _)⟩

theorem mkk25 : makeK Tryd.prog 25 = none := by kernel_rfl
theorem cal25 : callable Tryd.prog 25 = true := by kernel_rfl
theorem plan26_1_1_0 : planOf Tryd.prog (opsC (atC Tryd.prog 26 [1, 1, 0])) = some [.fl 0, .fl 1, .fl 2, .fl 3, .fl 4, .fl 5, .fl 6, .fl 7, .fl 8, .fl 9, .fl 10, .an 11 [9, 8, 7, 6, 5, 4, 3, 2, 1, 0], .fl 12, .an 13 [], .fl 14, .fl 15, .an 16 [], .fl 17, .sync] := by kernel_rfl
abbrev ref10_Withdraw_post (r : S_api_Alert × Int) : SV → Mem → Prop := fun s Me => ∃ q1, s = (.tuple [(.agg [(.str r.1.Event), (.int .i64 r.1.Version), (.int .i64 r.1.Time), (.int .i64 r.1.Chance.N), (.int .i64 r.1.Chance.Of), (.int .i64 r.1.Grid), q1, (.bool r.1.Withdrawn), (.int .i64 r.1.Before)]), (.int .i64 r.2)]) ∧ Has (fun _ => none) Me [.vec 3 1 r.1.Cells.length q1 (r.1.Cells.flatMap enc3)]

def ref10_Withdraw (F : Nat) (a0 : S_api_Alert) (a1 : Int) : Option (S_api_Alert × Int) :=
  bnd (ref10_next F a0 a1) fun r28 =>
  bif (!(r28 == (0 : Int))) then
    some ((S_api_Alert.mk [] 0 0 (S_api_Chance.mk 0 0) 0 ([] : List Int) false 0), r28)
  else
    bnd (ref10_digest F a0) fun r34 =>
    bnd (ref10_valid F (S_api_Alert.mk a0.Event (w64 (a0.Version + (1 : Int))) a1 a0.Chance a0.Grid [] true r34)) fun r36 =>
    some (r36.1, r36.2)

theorem ref10_Withdraw_ok (F : Nat) (a0 : S_api_Alert) (a1 : Int) (s0 : SV) (r : S_api_Alert × Int) (M : Mem) (hs0 : Slc (rd M) 1 (FlatR enc3) s0 a0.Cells) (h : ref10_Withdraw F a0 a1 = some r) : CallsM Tryd.prog 26 [(.agg [(.str a0.Event), (.int .i64 a0.Version), (.int .i64 a0.Time), (.int .i64 a0.Chance.N), (.int .i64 a0.Chance.Of), (.int .i64 a0.Grid), s0, (.bool a0.Withdrawn), (.int .i64 a0.Before)]), (.int .i64 a1)] M (fun s M' => ∃ q1, s = (.tuple [(.agg [(.str r.1.Event), (.int .i64 r.1.Version), (.int .i64 r.1.Time), (.int .i64 r.1.Chance.N), (.int .i64 r.1.Chance.Of), (.int .i64 r.1.Grid), q1, (.bool r.1.Withdrawn), (.int .i64 r.1.Before)]), (.int .i64 r.2)]) ∧ New M M' [.vec 3 1 r.1.Cells.length q1 (r.1.Cells.flatMap enc3)]) := by
  refine CallsM.fresh (Q := ref10_Withdraw_post r) Tryd.func26 rfl rfl ?_ (by rintro s Me ⟨q1, rfl, hx⟩ ha hw; exact ⟨_, rfl, New.of rfl hx ha hw⟩)
  rw [ref10_Withdraw] at h
  replace hs0 := hs0.mono (rdLe_frozen M) (fun _ _ h => h)
  have hH := Has.nil (frozen M)
  refine Run.seq (Run.region ?_)
  refine Run.opX wantS_none rfl (ExG.box rfl rfl hH) ?_
  rintro _ M23 ⟨b22, rfl, hH23⟩
  refine Run.opX wantS_none rfl (ExG.new (v := fun b => .ptr b 0) (ex_alloc zer29) hH23) ?_
  rintro _ M26 ⟨b25, rfl, hH26⟩
  refine Run.opG wantS_none (ex_assign rfl) rfl ?_
  refine Run.opsEnd (Run.seq (Run.seq (Run.region ?_)))
  refine Run.opG wantS_none (ex_loadA rfl (hH26.cells (i := 1) rfl 0 rfl) rdLe_rfl agg29 rfl rfl rfl) rfl ?_
  refine Run.opG wantS_none (ex_move rfl) rfl ?_
  obtain ⟨r28, hr28, h⟩ := bnd_some h
  refine Run.callP wantS_none (ex_call rfl mkk64 cal64) rfl (ref10_next_ok F a0 a1 s0 _ _ (hH26.slcF hs0) hr28) ?_
  refine Run.opG wantS_none (ex_assign rfl) rfl ?_
  refine Run.opsEnd (Run.seq (Run.region ?_))
  refine Run.opG wantS_none (ex_move rfl) rfl ?_
  refine Run.opG wantS_none (ex_neq rfl rfl) rfl ?_
  refine Run.opsEnd ?_
  rcases btf ((!(r28 == (0 : Int)))) with hc30 | hc30
  · have h := bif_t hc30 h
    refine Run.condT' rfl hc30 ?_
    refine Run.seq (Run.region ?_)
    refine Run.opG wantS_none (ex_build (r := [(.str []), (.int .i64 0), (.int .i64 0), (.int .i64 0), (.int .i64 0), (.int .i64 0), .nils, (.bool false), (.int .i64 0)]) rfl zer29 pls29 rfl) rfl ?_
    refine Run.opG wantS_none (ex_move rfl) rfl ?_
    refine Run.opX wantS_none rfl (ExG.storeC (c' := [(.str []), (.int .i64 0), (.int .i64 0), (.int .i64 0), (.int .i64 0), (.int .i64 0), .nils, (.bool false), (.int .i64 0)]) rfl rfl rfl hH26 (i := 0) rfl sz29 rfl rfl rfl rfl rfl) ?_
    rintro _ M31 ⟨rfl, (hH31 : Has (ro (frozen M)) M31 [.obj b25 (.row 29 .whole [(.str []), (.int .i64 0), (.int .i64 0), (.int .i64 0), (.int .i64 0), (.int .i64 0), .nils, (.bool false), (.int .i64 0)]), .obj b22 (.row 29 .whole [(.str a0.Event), (.int .i64 a0.Version), (.int .i64 a0.Time), (.int .i64 a0.Chance.N), (.int .i64 a0.Chance.Of), (.int .i64 a0.Grid), s0, (.bool a0.Withdrawn), (.int .i64 a0.Before)])])⟩
    refine Run.opG wantS_none (ex_assign rfl) rfl ?_
    refine Run.opsEnd ?_
    have hH33 : Has (ro (frozen M)) M31 [.vec 3 1 ([] : List Int).length .nils (([] : List Int).flatMap enc3), .obj b25 (.row 29 .whole [(.str []), (.int .i64 0), (.int .i64 0), (.int .i64 0), (.int .i64 0), (.int .i64 0), .nils, (.bool false), (.int .i64 0)]), .obj b22 (.row 29 .whole [(.str a0.Event), (.int .i64 a0.Version), (.int .i64 a0.Time), (.int .i64 a0.Chance.N), (.int .i64 a0.Chance.Of), (.int .i64 a0.Grid), s0, (.bool a0.Withdrawn), (.int .i64 a0.Before)])] := hH31.nils 3 1
    cases h
    exact Run.ret Tryd.func26 rfl (res_cell rfl (x_load (ex_loadA rfl (hH31.cells (i := 0) rfl 0 rfl) rdLe_rfl agg29 rfl rfl rfl)) (res_tmp rfl res_nil)) ⟨_, rfl, (hH33.pick [0] rfl rfl).upF (none_le _)⟩
  · have h := bif_f hc30 h
    refine Run.condF' rfl hc30 ?_
    refine Run.skip (Run.seq ?_)
    refine Run.drawG plan26_1_1_0 ?_
    refine DrawG.fl rfl (ev_ex wantS_none (ex_fieldAddr rfl off29_0)) rfl ?_
    refine DrawG.fl rfl (ev_ex wantS_none (ex_load1 rfl (hH26.cells (i := 1) rfl 0 rfl) rdLe_rfl agg9)) rfl ?_
    refine DrawG.fl rfl (ev_ex wantS_none (ex_fieldAddr rfl off29_1)) rfl ?_
    refine DrawG.fl rfl (ev_ex wantS_none (ex_load1 rfl (hH26.cells (i := 1) rfl 1 rfl) rdLe_rfl agg3)) rfl ?_
    refine DrawG.fl rfl (ev_ex wantS_none (ex_add rfl rfl)) rfl ?_
    refine DrawG.fl rfl (ev_ex wantS_none (ex_move rfl)) rfl ?_
    refine DrawG.fl rfl (ev_ex wantS_none (ex_fieldAddr rfl off29_3)) rfl ?_
    refine DrawG.fl rfl (ev_ex wantS_none (ex_loadA rfl (hH26.cells (i := 1) rfl 3 rfl) rdLe_rfl agg26 rfl rfl rfl)) rfl ?_
    refine DrawG.fl rfl (ev_ex wantS_none (ex_fieldAddr rfl off29_4)) rfl ?_
    refine DrawG.fl rfl (ev_ex wantS_none (ex_load1 rfl (hH26.cells (i := 1) rfl 5 rfl) rdLe_rfl agg3)) rfl ?_
    refine DrawG.fl rfl (ev_ex wantS_none (ex_loadA rfl (hH26.cells (i := 1) rfl 0 rfl) rdLe_rfl agg29 rfl rfl rfl)) rfl ?_
    obtain ⟨r34, hr34, h⟩ := bnd_some h
    refine DrawG.callP rfl wantS_none (ex_call rfl mkk49 cal49) rfl (ref10_digest_ok F a0 s0 _ _ (hH26.slcF hs0) hr34) (st_cons rfl (ev_ex wantS_none (ex_load1 rfl (hH26.cells (i := 1) rfl 5 rfl) rdLe_rfl agg3)) rfl rfl rfl (st_cons rfl (ev_ex wantS_none (ex_fieldAddr rfl off29_4)) rfl rfl rfl (st_cons rfl (ev_ex wantS_none (ex_loadA rfl (hH26.cells (i := 1) rfl 3 rfl) rdLe_rfl agg26 rfl rfl rfl)) rfl rfl rfl (st_cons rfl (ev_ex wantS_none (ex_fieldAddr rfl off29_3)) rfl rfl rfl (st_cons rfl (ev_ex wantS_none (ex_move rfl)) rfl rfl rfl (st_cons rfl (ev_ex wantS_none (ex_add rfl rfl)) rfl rfl rfl (st_cons rfl (ev_ex wantS_none (ex_load1 rfl (hH26.cells (i := 1) rfl 1 rfl) rdLe_rfl agg3)) rfl rfl rfl (st_cons rfl (ev_ex wantS_none (ex_fieldAddr rfl off29_1)) rfl rfl rfl (st_cons rfl (ev_ex wantS_none (ex_load1 rfl (hH26.cells (i := 1) rfl 0 rfl) rdLe_rfl agg9)) rfl rfl rfl (st_cons rfl (ev_ex wantS_none (ex_fieldAddr rfl off29_0)) rfl rfl rfl st_nil)))))))))) ?_
    refine DrawG.fl rfl (ev_ex wantS_none (ex_build (r := [(.str a0.Event), (.int .i64 (w64 (a0.Version + (1 : Int)))), (.int .i64 a1), (.int .i64 a0.Chance.N), (.int .i64 a0.Chance.Of), (.int .i64 a0.Grid), .nils, (.bool true), (.int .i64 r34)]) rfl zer29 pls29 rfl)) rfl ?_
    obtain ⟨r36, hr36, h⟩ := bnd_some h
    refine DrawG.call rfl wantS_none (ex_call rfl mkk61 cal61) rfl (ref10_valid_ok F (S_api_Alert.mk a0.Event (w64 (a0.Version + (1 : Int))) a1 a0.Chance a0.Grid [] true r34) .nils _ _ slc_nil hr36) ?_
    rintro _ M38 ⟨s36_0, rfl, hN36⟩
    have hH38 : Has (ro (frozen M)) M38 [.vec 3 1 r36.1.Cells.length s36_0 (r36.1.Cells.flatMap enc3), .obj b25 (.row 29 .whole [(.str []), (.int .i64 0), (.int .i64 0), (.int .i64 0), (.int .i64 0), (.int .i64 0), .nils, (.bool false), (.int .i64 0)]), .obj b22 (.row 29 .whole [(.str a0.Event), (.int .i64 a0.Version), (.int .i64 a0.Time), (.int .i64 a0.Chance.N), (.int .i64 a0.Chance.Of), (.int .i64 a0.Grid), s0, (.bool a0.Withdrawn), (.int .i64 a0.Before)])] := hN36.1 _ _ hH26
    refine ⟨st_nil, ?_⟩
    refine DrawG.fl rfl (ev_ex wantS_none (ex_extract rfl rfl)) rfl ?_
    refine DrawG.fl rfl (ev_ex wantS_none (ex_extract rfl rfl)) rfl ?_
    refine DrawG.opX rfl wantS_none rfl (ExG.storeC (c' := [(.str r36.1.Event), (.int .i64 r36.1.Version), (.int .i64 r36.1.Time), (.int .i64 r36.1.Chance.N), (.int .i64 r36.1.Chance.Of), (.int .i64 r36.1.Grid), s36_0, (.bool r36.1.Withdrawn), (.int .i64 r36.1.Before)]) rfl rfl rfl hH38 (i := 1) rfl sz29 rfl rfl rfl (ones_cons rfl (ones_cons rfl (ones_cons rfl (ones_cons rfl (ones_cons rfl (ones_cons rfl (ones_cons (vec_one hH38 (i := 0) rfl) (ones_cons rfl (ones_cons rfl ones_nil))))))))) rfl) ?_
    rintro _ M39 ⟨rfl, (hH39 : Has (ro (frozen M)) M39 [.vec 3 1 r36.1.Cells.length s36_0 (r36.1.Cells.flatMap enc3), .obj b25 (.row 29 .whole [(.str r36.1.Event), (.int .i64 r36.1.Version), (.int .i64 r36.1.Time), (.int .i64 r36.1.Chance.N), (.int .i64 r36.1.Chance.Of), (.int .i64 r36.1.Grid), s36_0, (.bool r36.1.Withdrawn), (.int .i64 r36.1.Before)]), .obj b22 (.row 29 .whole [(.str a0.Event), (.int .i64 a0.Version), (.int .i64 a0.Time), (.int .i64 a0.Chance.N), (.int .i64 a0.Chance.Of), (.int .i64 a0.Grid), s0, (.bool a0.Withdrawn), (.int .i64 a0.Before)])])⟩
    refine ⟨st_nil, ?_⟩
    refine DrawG.fl rfl (ev_ex wantS_none (ex_assign rfl)) rfl ?_
    refine DrawG.sync ?_
    refine DrawG.nil ?_
    cases h
    exact Run.ret Tryd.func26 rfl (res_cell rfl (x_load (ex_loadA rfl (hH39.cells (i := 1) rfl 0 rfl) rdLe_rfl agg29 rfl rfl rfl)) (res_tmp rfl res_nil)) ⟨_, rfl, (hH39.pick [0] rfl rfl).upF (none_le _)⟩

theorem mkk26 : makeK Tryd.prog 26 = none := by kernel_rfl
theorem cal26 : callable Tryd.prog 26 = true := by kernel_rfl
theorem mkk14 : makeK Tryd.prog 14 = none := by kernel_rfl
theorem cal14 : callable Tryd.prog 14 = true := by kernel_rfl
abbrev law10_AlertDrafts_post (r : Bool) : SV → Mem → Prop := fun s _ => s = (.bool r)

def law10_AlertDrafts_6 (F : Nat) (v133 : Bool) : Option (Bool) :=
  some v133

theorem law10_AlertDrafts_6_ok (F : Nat) : ∀ (v133 : Bool) (Fr : Rd) (M : Mem) (r : Bool) (hH : Has Fr M [tb0, tb1, tb2]), law10_AlertDrafts_6 F v133 = some r → Run Tryd.prog ⟨⟨5, [], none⟩, []⟩ 134 (law10_AlertDrafts_post r) [(133, (.bool v133))] [itemC Tryd.prog 5 [1, 1, 1, 1, 1, 1, 1, 1, 1, 1, 1, 0] 17, codeC Tryd.prog 5 [1, 1, 1, 1, 1, 1, 1, 1, 1, 1, 1, 1]] M := by
  intro v133 Fr M r hH h
  rw [law10_AlertDrafts_6] at h
  refine Run.opG wantS_none (ex_assign rfl) rfl ?_
  refine Run.opsEnd ?_
  cases h
  exact Run.ret Tryd.func5 rfl (res_tmp rfl res_nil) rfl

def law10_AlertDrafts_5 (F : Nat) (v130 : Bool) : Option (Bool) :=
  bif v130 then
    bnd (works F) fun r103 =>
    law10_AlertDrafts_6 F r103
  else
    law10_AlertDrafts_6 F false

theorem law10_AlertDrafts_5_ok (F : Nat) : ∀ (v130 : Bool) (Fr : Rd) (M : Mem) (r : Bool) (hH : Has Fr M [tb0, tb1, tb2]), law10_AlertDrafts_5 F v130 = some r → Run Tryd.prog ⟨⟨5, [], none⟩, []⟩ 134 (law10_AlertDrafts_post r) [(130, (.bool v130))] [itemC Tryd.prog 5 [1, 1, 1, 1, 1, 1, 1, 1, 1, 1, 1, 0] 14, codeC Tryd.prog 5 [1, 1, 1, 1, 1, 1, 1, 1, 1, 1, 1, 1]] M := by
  intro v130 Fr M r hH h
  rw [law10_AlertDrafts_5] at h
  refine Run.opG wantS_none (ex_move rfl) rfl ?_
  rcases btf (v130) with hc101 | hc101
  · have h := bif_t hc101 h
    obtain ⟨r103, hr103, h⟩ := bnd_some h
    refine Run.callP (wantS_yes' rfl rfl hc101) (ex_call rfl mkk14 cal14) rfl (works_ok F r103 _ hH (List.mem_of_getElem? (i := 0) rfl) (List.mem_of_getElem? (i := 1) rfl) (List.mem_of_getElem? (i := 2) rfl) hr103) ?_
    refine Run.opG wantS_none (ex_pickT' rfl hc101 rfl rfl) rfl ?_
    exact Run.pick [133] (law10_AlertDrafts_6_ok F r103 _ _ _ hH h)
  · have h := bif_f hc101 h
    refine Run.no (wantS_not' rfl rfl hc101) rfl ?_
    refine Run.opG wantS_none (ex_pickF' rfl hc101 rfl rfl) rfl ?_
    exact Run.pick [133] (law10_AlertDrafts_6_ok F false _ _ _ hH h)

def law10_AlertDrafts_4 (F : Nat) (v124 : Bool) (c28_0 : (List UInt8)) (c28_1 c28_2 c28_3 c28_4 c28_5 c28_6 c28_7 c28_8 : Int) (c28_9 l73 : (List Int)) : Option (Bool) :=
  bif v124 then
    bnd (ref00_SameInts F l73 c28_9) fun r99 =>
    law10_AlertDrafts_5 F r99
  else
    law10_AlertDrafts_5 F false

theorem law10_AlertDrafts_4_ok (F : Nat) : ∀ (v124 : Bool) (c28_0 : (List UInt8)) (c28_1 c28_2 c28_3 c28_4 c28_5 c28_6 c28_7 c28_8 : Int) (c28_9 l73 : (List Int)) (sc28_9 : SV) (b28 : Pos) (s73 : SV) (Fr : Rd) (M : Mem) (r : Bool) (hc28_9 : Slc Fr 1 (FlatR enc3) sc28_9 c28_9) (hH : Has Fr M [.obj b28 (.row 55 .whole [(.str c28_0), (.int .i64 c28_1), (.int .i64 c28_2), (.int .i64 c28_3), (.int .i64 c28_4), (.int .i64 c28_5), (.int .i64 c28_6), (.int .i64 c28_7), (.int .i64 c28_8), sc28_9]), .vec 3 1 l73.length s73 (l73.flatMap enc3), tb0, tb1, tb2]), law10_AlertDrafts_4 F v124 c28_0 c28_1 c28_2 c28_3 c28_4 c28_5 c28_6 c28_7 c28_8 c28_9 l73 = some r → Run Tryd.prog ⟨⟨5, [], none⟩, []⟩ 134 (law10_AlertDrafts_post r) [(3, (.ptr b28 0)), (9, s73), (124, (.bool v124))] [itemC Tryd.prog 5 [1, 1, 1, 1, 1, 1, 1, 1, 1, 1, 1, 0] 8, codeC Tryd.prog 5 [1, 1, 1, 1, 1, 1, 1, 1, 1, 1, 1, 1]] M := by
  intro v124 c28_0 c28_1 c28_2 c28_3 c28_4 c28_5 c28_6 c28_7 c28_8 c28_9 l73 sc28_9 b28 s73 Fr M r hc28_9 hH h
  rw [law10_AlertDrafts_4] at h
  refine Run.opG wantS_none (ex_move rfl) rfl ?_
  rcases btf (v124) with hc97 | hc97
  · have h := bif_t hc97 h
    refine Run.opG (wantS_yes' rfl rfl hc97) (ex_move rfl) rfl ?_
    refine Run.opG (wantS_yes' rfl rfl hc97) (ex_fieldAddr rfl off55_5) rfl ?_
    refine Run.opG (wantS_yes' rfl rfl hc97) (ex_load1 rfl (hH.cells (i := 0) rfl 9 rfl) rdLe_rfl agg27) rfl ?_
    obtain ⟨r99, hr99, h⟩ := bnd_some h
    refine Run.callP (wantS_yes' rfl rfl hc97) (ex_call rfl mkk27 cal27) rfl (ref00_SameInts_ok F l73 c28_9 s73 sc28_9 _ _ (hH.slc (i := 1) rfl enc3_len) (hH.slcF hc28_9) hr99) ?_
    refine Run.opG wantS_none (ex_pickT' rfl hc97 rfl rfl) rfl ?_
    exact Run.pick [130] (law10_AlertDrafts_5_ok F r99 _ _ _ (hH.pick [2, 3, 4] rfl rfl) h)
  · have h := bif_f hc97 h
    refine Run.no (wantS_not' rfl rfl hc97) rfl ?_
    refine Run.no (wantS_not' rfl rfl hc97) rfl ?_
    refine Run.no (wantS_not' rfl rfl hc97) rfl ?_
    refine Run.no (wantS_not' rfl rfl hc97) rfl ?_
    refine Run.opG wantS_none (ex_pickF' rfl hc97 rfl rfl) rfl ?_
    exact Run.pick [130] (law10_AlertDrafts_5_ok F false _ _ _ (hH.pick [2, 3, 4] rfl rfl) h)

def law10_AlertDrafts_3 (F : Nat) : Nat → Int → (List UInt8) → Int → Int → Int → Int → Int → (List Int) → Bool → Int → (List UInt8) → Int → Int → Int → Int → Int → Int → Int → Int → (List Int) → (List UInt8) → Int → Int → Int → Int → Int → Bool → Int → (List UInt8) → Int → Int → Int → Int → Int → Bool → Int → (List Int) → (List Int) → (List Int) → Option (Bool)
  | 0, _, _, _, _, _, _, _, _, _, _, _, _, _, _, _, _, _, _, _, _, _, _, _, _, _, _, _, _, _, _, _, _, _, _, _, _, _, _, _ => none
  | N + 1, v10, c25_0, c25_1, c25_2, c25_3, c25_4, c25_5, c25_6, c25_7, c25_8, c28_0, c28_1, c28_2, c28_3, c28_4, c28_5, c28_6, c28_7, c28_8, c28_9, c36_0, c36_1, c36_2, c36_3, c36_4, c36_5, c36_7, c36_8, c45_0, c45_1, c45_2, c45_3, c45_4, c45_5, c45_7, c45_8, l56, l62, l73 =>
    bif (decide (v10 < (l56.length : Int))) then
      bnd (inn l56 v10) fun o77 =>
      bnd (upd l56 o77 ((-1) : Int)) fun l79 =>
      (law10_AlertDrafts_3 F N) (w64 (v10 + (1 : Int))) c25_0 c25_1 c25_2 c25_3 c25_4 c25_5 c25_6 c25_7 c25_8 c28_0 c28_1 c28_2 c28_3 c28_4 c28_5 c28_6 c28_7 c28_8 c28_9 c36_0 c36_1 c36_2 c36_3 c36_4 c36_5 c36_7 c36_8 c45_0 c45_1 c45_2 c45_3 c45_4 c45_5 c45_7 c45_8 l79 l62 l73
    else
      bnd (alert_Withdraw F (S_api_Alert.mk c25_0 c25_1 c25_2 (S_api_Chance.mk c25_3 c25_4) c25_5 c25_6 c25_7 c25_8) c28_1) fun r83 =>
      bnd (ref10_Withdraw F (S_api_Alert.mk c25_0 c25_1 c25_2 (S_api_Chance.mk c25_3 c25_4) c25_5 c25_6 c25_7 c25_8) c28_1) fun r89 =>
      bnd (law10_same F r83.1 r89.1) fun r94 =>
      bif r94 then
        law10_AlertDrafts_4 F (r83.2 == r89.2) c28_0 c28_1 c28_2 c28_3 c28_4 c28_5 c28_6 c28_7 c28_8 c28_9 l73
      else
        law10_AlertDrafts_4 F false c28_0 c28_1 c28_2 c28_3 c28_4 c28_5 c28_6 c28_7 c28_8 c28_9 l73

theorem law10_AlertDrafts_3_ok (F : Nat) : ∀ (N : Nat), ∀ (v10 : Int) (c25_0 : (List UInt8)) (c25_1 c25_2 c25_3 c25_4 c25_5 : Int) (c25_6 : (List Int)) (c25_7 : Bool) (c25_8 : Int) (c28_0 : (List UInt8)) (c28_1 c28_2 c28_3 c28_4 c28_5 c28_6 c28_7 c28_8 : Int) (c28_9 : (List Int)) (c36_0 : (List UInt8)) (c36_1 c36_2 c36_3 c36_4 c36_5 : Int) (c36_7 : Bool) (c36_8 : Int) (c45_0 : (List UInt8)) (c45_1 c45_2 c45_3 c45_4 c45_5 : Int) (c45_7 : Bool) (c45_8 : Int) (l56 l62 l73 : (List Int)) (sc25_6 sc28_9 : SV) (b25 b28 b36 : Pos) (s56 : SV) (b45 : Pos) (s62 s73 : SV) (Fr : Rd) (M : Mem) (r : Bool) (hc25_6 : Slc Fr 1 (FlatR enc3) sc25_6 c25_6) (hc28_9 : Slc Fr 1 (FlatR enc3) sc28_9 c28_9) (hH : Has Fr M [.obj b25 (.row 29 .whole [(.str c25_0), (.int .i64 c25_1), (.int .i64 c25_2), (.int .i64 c25_3), (.int .i64 c25_4), (.int .i64 c25_5), sc25_6, (.bool c25_7), (.int .i64 c25_8)]), .obj b28 (.row 55 .whole [(.str c28_0), (.int .i64 c28_1), (.int .i64 c28_2), (.int .i64 c28_3), (.int .i64 c28_4), (.int .i64 c28_5), (.int .i64 c28_6), (.int .i64 c28_7), (.int .i64 c28_8), sc28_9]), .obj b36 (.row 29 .whole [(.str c36_0), (.int .i64 c36_1), (.int .i64 c36_2), (.int .i64 c36_3), (.int .i64 c36_4), (.int .i64 c36_5), s56, (.bool c36_7), (.int .i64 c36_8)]), .vec 3 1 l56.length s56 (l56.flatMap enc3), .obj b45 (.row 29 .whole [(.str c45_0), (.int .i64 c45_1), (.int .i64 c45_2), (.int .i64 c45_3), (.int .i64 c45_4), (.int .i64 c45_5), s62, (.bool c45_7), (.int .i64 c45_8)]), .vec 3 1 l62.length s62 (l62.flatMap enc3), .vec 3 1 l73.length s73 (l73.flatMap enc3), tb0, tb1, tb2]), law10_AlertDrafts_3 F N v10 c25_0 c25_1 c25_2 c25_3 c25_4 c25_5 c25_6 c25_7 c25_8 c28_0 c28_1 c28_2 c28_3 c28_4 c28_5 c28_6 c28_7 c28_8 c28_9 c36_0 c36_1 c36_2 c36_3 c36_4 c36_5 c36_7 c36_8 c45_0 c45_1 c45_2 c45_3 c45_4 c45_5 c45_7 c45_8 l56 l62 l73 = some r → Run Tryd.prog ⟨⟨5, [], none⟩, []⟩ 134 (law10_AlertDrafts_post r) [(2, (.ptr b25 0)), (3, (.ptr b28 0)), (5, (.ptr b36 0)), (7, (.ptr b45 0)), (9, s73), (10, (.int .i64 v10))] [codeC Tryd.prog 5 [1, 1, 1, 1, 1, 1, 1, 1, 0, 1, 0, 0], loopC Tryd.prog 5 [1, 1, 1, 1, 1, 1, 1, 1, 0, 1, 0, 0], .inBlock 0, codeC Tryd.prog 5 [1, 1, 1, 1, 1, 1, 1, 1, 1]] M := by
  intro N
  induction N with
  | zero =>
    intro v10 c25_0 c25_1 c25_2 c25_3 c25_4 c25_5 c25_6 c25_7 c25_8 c28_0 c28_1 c28_2 c28_3 c28_4 c28_5 c28_6 c28_7 c28_8 c28_9 c36_0 c36_1 c36_2 c36_3 c36_4 c36_5 c36_7 c36_8 c45_0 c45_1 c45_2 c45_3 c45_4 c45_5 c45_7 c45_8 l56 l62 l73 sc25_6 sc28_9 b25 b28 b36 s56 b45 s62 s73 Fr M r hc25_6 hc28_9 hH h
    simp [law10_AlertDrafts_3] at h
  | succ N ih =>
    intro v10 c25_0 c25_1 c25_2 c25_3 c25_4 c25_5 c25_6 c25_7 c25_8 c28_0 c28_1 c28_2 c28_3 c28_4 c28_5 c28_6 c28_7 c28_8 c28_9 c36_0 c36_1 c36_2 c36_3 c36_4 c36_5 c36_7 c36_8 c45_0 c45_1 c45_2 c45_3 c45_4 c45_5 c45_7 c45_8 l56 l62 l73 sc25_6 sc28_9 b25 b28 b36 s56 b45 s62 s73 Fr M r hc25_6 hc28_9 hH h
    rw [law10_AlertDrafts_3] at h
    refine Run.seq (Run.seq (Run.region ?_))
    refine Run.opG wantS_none (ex_move rfl) rfl ?_
    refine Run.opG wantS_none (ex_fieldAddr rfl off29_5) rfl ?_
    refine Run.opG wantS_none (ex_load1 rfl (hH.cells (i := 2) rfl 6 rfl) rdLe_rfl agg27) rfl ?_
    refine Run.opG wantS_none (ex_len' rfl (hH.slc (i := 3) rfl enc3_len) lenk27) rfl ?_
    refine Run.opG wantS_none (ex_lss rfl rfl) rfl ?_
    refine Run.opsEnd ?_
    rcases btf ((decide (v10 < (l56.length : Int)))) with hc75 | hc75
    · have h := bif_t hc75 h
      refine Run.condT' rfl hc75 ?_
      refine Run.skip (Run.seq (Run.block (Run.region ?_)))
      refine Run.opG wantS_none (ex_fieldAddr rfl off29_5) rfl ?_
      refine Run.opG wantS_none (ex_load1 rfl (hH.cells (i := 2) rfl 6 rfl) rdLe_rfl agg27) rfl ?_
      refine Run.opG wantS_none (ex_move rfl) rfl ?_
      obtain ⟨o77, ho77, h⟩ := bnd_some h
      obtain ⟨p77, hb77, hx77⟩ := vec_place (P := Tryd.prog) (t := 27) (kk := .i64) hH (i := 3) rfl ho77 els27
      refine Run.opG wantS_none (ex_elX rfl rfl hx77) rfl ?_
      obtain ⟨l79, hl79, h⟩ := bnd_some h
      refine Run.opX wantS_none rfl (ExG.storeEl rfl rfl hH (i := 3) rfl hb77 hl79 sz3 rfl enc3_len enc3_ones) ?_
      rintro _ M80 ⟨rfl, (hH80 : Has Fr M80 [.obj b25 (.row 29 .whole [(.str c25_0), (.int .i64 c25_1), (.int .i64 c25_2), (.int .i64 c25_3), (.int .i64 c25_4), (.int .i64 c25_5), sc25_6, (.bool c25_7), (.int .i64 c25_8)]), .obj b28 (.row 55 .whole [(.str c28_0), (.int .i64 c28_1), (.int .i64 c28_2), (.int .i64 c28_3), (.int .i64 c28_4), (.int .i64 c28_5), (.int .i64 c28_6), (.int .i64 c28_7), (.int .i64 c28_8), sc28_9]), .obj b36 (.row 29 .whole [(.str c36_0), (.int .i64 c36_1), (.int .i64 c36_2), (.int .i64 c36_3), (.int .i64 c36_4), (.int .i64 c36_5), s56, (.bool c36_7), (.int .i64 c36_8)]), .vec 3 1 l79.length s56 (l79.flatMap enc3), .obj b45 (.row 29 .whole [(.str c45_0), (.int .i64 c45_1), (.int .i64 c45_2), (.int .i64 c45_3), (.int .i64 c45_4), (.int .i64 c45_5), s62, (.bool c45_7), (.int .i64 c45_8)]), .vec 3 1 l62.length s62 (l62.flatMap enc3), .vec 3 1 l73.length s73 (l73.flatMap enc3), tb0, tb1, tb2])⟩
      refine Run.opsEnd (Run.inBlock (Run.region ?_))
      refine Run.opG wantS_none (ex_move rfl) rfl ?_
      refine Run.opG wantS_none (ex_add rfl rfl) rfl ?_
      refine Run.opG wantS_none (ex_assign rfl) rfl ?_
      refine Run.opsEnd (Run.inLoop ?_)
      exact Run.pick [2, 3, 5, 7, 9, 10] (ih (w64 (v10 + (1 : Int))) c25_0 c25_1 c25_2 c25_3 c25_4 c25_5 c25_6 c25_7 c25_8 c28_0 c28_1 c28_2 c28_3 c28_4 c28_5 c28_6 c28_7 c28_8 c28_9 c36_0 c36_1 c36_2 c36_3 c36_4 c36_5 c36_7 c36_8 c45_0 c45_1 c45_2 c45_3 c45_4 c45_5 c45_7 c45_8 l79 l62 l73 sc25_6 sc28_9 b25 b28 b36 s56 b45 s62 s73 _ _ _ hc25_6 hc28_9 hH80 h)
    · have h := bif_f hc75 h
      refine Run.condF' rfl hc75 ?_
      refine Run.exit rfl (Run.seq (Run.region ?_))
      refine Run.opG wantS_none (ex_loadA rfl (hH.cells (i := 0) rfl 0 rfl) rdLe_rfl agg29 rfl rfl rfl) rfl ?_
      refine Run.opG wantS_none (ex_fieldAddr rfl off55_1) rfl ?_
      refine Run.opG wantS_none (ex_load1 rfl (hH.cells (i := 1) rfl 1 rfl) rdLe_rfl agg3) rfl ?_
      obtain ⟨r83, hr83, h⟩ := bnd_some h
      refine Run.callX wantS_none (ex_call rfl mkk25 cal25) rfl (alert_Withdraw_ok F (S_api_Alert.mk c25_0 c25_1 c25_2 (S_api_Chance.mk c25_3 c25_4) c25_5 c25_6 c25_7 c25_8) c28_1 sc25_6 _ _ (hH.slcF hc25_6) (fixH hH (List.mem_of_getElem? (i := 7) rfl) (List.mem_of_getElem? (i := 8) rfl) (List.mem_of_getElem? (i := 9) rfl)) hr83) ?_
      rintro _ M85 ⟨s83_0, rfl, hN83⟩
      have hH85 : Has Fr M85 [.vec 3 1 r83.1.Cells.length s83_0 (r83.1.Cells.flatMap enc3), .obj b25 (.row 29 .whole [(.str c25_0), (.int .i64 c25_1), (.int .i64 c25_2), (.int .i64 c25_3), (.int .i64 c25_4), (.int .i64 c25_5), sc25_6, (.bool c25_7), (.int .i64 c25_8)]), .obj b28 (.row 55 .whole [(.str c28_0), (.int .i64 c28_1), (.int .i64 c28_2), (.int .i64 c28_3), (.int .i64 c28_4), (.int .i64 c28_5), (.int .i64 c28_6), (.int .i64 c28_7), (.int .i64 c28_8), sc28_9]), .obj b36 (.row 29 .whole [(.str c36_0), (.int .i64 c36_1), (.int .i64 c36_2), (.int .i64 c36_3), (.int .i64 c36_4), (.int .i64 c36_5), s56, (.bool c36_7), (.int .i64 c36_8)]), .vec 3 1 l56.length s56 (l56.flatMap enc3), .obj b45 (.row 29 .whole [(.str c45_0), (.int .i64 c45_1), (.int .i64 c45_2), (.int .i64 c45_3), (.int .i64 c45_4), (.int .i64 c45_5), s62, (.bool c45_7), (.int .i64 c45_8)]), .vec 3 1 l62.length s62 (l62.flatMap enc3), .vec 3 1 l73.length s73 (l73.flatMap enc3), tb0, tb1, tb2] := hN83.1 _ _ hH
      refine Run.opG wantS_none (ex_move rfl) rfl ?_
      refine Run.opG wantS_none (ex_extract rfl rfl) rfl ?_
      refine Run.opG wantS_none (ex_extract rfl rfl) rfl ?_
      refine Run.opX wantS_none rfl (ExG.storeC (c' := [(.str r83.1.Event), (.int .i64 r83.1.Version), (.int .i64 r83.1.Time), (.int .i64 r83.1.Chance.N), (.int .i64 r83.1.Chance.Of), (.int .i64 r83.1.Grid), s83_0, (.bool r83.1.Withdrawn), (.int .i64 r83.1.Before)]) rfl rfl rfl hH85 (i := 3) rfl sz29 rfl rfl rfl (ones_cons rfl (ones_cons rfl (ones_cons rfl (ones_cons rfl (ones_cons rfl (ones_cons rfl (ones_cons (vec_one hH85 (i := 0) rfl) (ones_cons rfl (ones_cons rfl ones_nil))))))))) rfl) ?_
      rintro _ M86 ⟨rfl, (hH86 : Has Fr M86 [.vec 3 1 r83.1.Cells.length s83_0 (r83.1.Cells.flatMap enc3), .obj b25 (.row 29 .whole [(.str c25_0), (.int .i64 c25_1), (.int .i64 c25_2), (.int .i64 c25_3), (.int .i64 c25_4), (.int .i64 c25_5), sc25_6, (.bool c25_7), (.int .i64 c25_8)]), .obj b28 (.row 55 .whole [(.str c28_0), (.int .i64 c28_1), (.int .i64 c28_2), (.int .i64 c28_3), (.int .i64 c28_4), (.int .i64 c28_5), (.int .i64 c28_6), (.int .i64 c28_7), (.int .i64 c28_8), sc28_9]), .obj b36 (.row 29 .whole [(.str r83.1.Event), (.int .i64 r83.1.Version), (.int .i64 r83.1.Time), (.int .i64 r83.1.Chance.N), (.int .i64 r83.1.Chance.Of), (.int .i64 r83.1.Grid), s83_0, (.bool r83.1.Withdrawn), (.int .i64 r83.1.Before)]), .vec 3 1 l56.length s56 (l56.flatMap enc3), .obj b45 (.row 29 .whole [(.str c45_0), (.int .i64 c45_1), (.int .i64 c45_2), (.int .i64 c45_3), (.int .i64 c45_4), (.int .i64 c45_5), s62, (.bool c45_7), (.int .i64 c45_8)]), .vec 3 1 l62.length s62 (l62.flatMap enc3), .vec 3 1 l73.length s73 (l73.flatMap enc3), tb0, tb1, tb2])⟩
      refine Run.opG wantS_none (ex_assign rfl) rfl ?_
      refine Run.opsEnd (Run.seq (Run.region ?_))
      refine Run.opG wantS_none (ex_loadA rfl (hH86.cells (i := 1) rfl 0 rfl) rdLe_rfl agg29 rfl rfl rfl) rfl ?_
      refine Run.opG wantS_none (ex_fieldAddr rfl off55_1) rfl ?_
      refine Run.opG wantS_none (ex_load1 rfl (hH86.cells (i := 2) rfl 1 rfl) rdLe_rfl agg3) rfl ?_
      obtain ⟨r89, hr89, h⟩ := bnd_some h
      refine Run.callX wantS_none (ex_call rfl mkk26 cal26) rfl (ref10_Withdraw_ok F (S_api_Alert.mk c25_0 c25_1 c25_2 (S_api_Chance.mk c25_3 c25_4) c25_5 c25_6 c25_7 c25_8) c28_1 sc25_6 _ _ (hH86.slcF hc25_6) hr89) ?_
      rintro _ M91 ⟨s89_0, rfl, hN89⟩
      have hH91 : Has Fr M91 [.vec 3 1 r89.1.Cells.length s89_0 (r89.1.Cells.flatMap enc3), .vec 3 1 r83.1.Cells.length s83_0 (r83.1.Cells.flatMap enc3), .obj b25 (.row 29 .whole [(.str c25_0), (.int .i64 c25_1), (.int .i64 c25_2), (.int .i64 c25_3), (.int .i64 c25_4), (.int .i64 c25_5), sc25_6, (.bool c25_7), (.int .i64 c25_8)]), .obj b28 (.row 55 .whole [(.str c28_0), (.int .i64 c28_1), (.int .i64 c28_2), (.int .i64 c28_3), (.int .i64 c28_4), (.int .i64 c28_5), (.int .i64 c28_6), (.int .i64 c28_7), (.int .i64 c28_8), sc28_9]), .obj b36 (.row 29 .whole [(.str r83.1.Event), (.int .i64 r83.1.Version), (.int .i64 r83.1.Time), (.int .i64 r83.1.Chance.N), (.int .i64 r83.1.Chance.Of), (.int .i64 r83.1.Grid), s83_0, (.bool r83.1.Withdrawn), (.int .i64 r83.1.Before)]), .vec 3 1 l56.length s56 (l56.flatMap enc3), .obj b45 (.row 29 .whole [(.str c45_0), (.int .i64 c45_1), (.int .i64 c45_2), (.int .i64 c45_3), (.int .i64 c45_4), (.int .i64 c45_5), s62, (.bool c45_7), (.int .i64 c45_8)]), .vec 3 1 l62.length s62 (l62.flatMap enc3), .vec 3 1 l73.length s73 (l73.flatMap enc3), tb0, tb1, tb2] := hN89.1 _ _ hH86
      refine Run.opG wantS_none (ex_move rfl) rfl ?_
      refine Run.opG wantS_none (ex_extract rfl rfl) rfl ?_
      refine Run.opG wantS_none (ex_extract rfl rfl) rfl ?_
      refine Run.opX wantS_none rfl (ExG.storeC (c' := [(.str r89.1.Event), (.int .i64 r89.1.Version), (.int .i64 r89.1.Time), (.int .i64 r89.1.Chance.N), (.int .i64 r89.1.Chance.Of), (.int .i64 r89.1.Grid), s89_0, (.bool r89.1.Withdrawn), (.int .i64 r89.1.Before)]) rfl rfl rfl hH91 (i := 6) rfl sz29 rfl rfl rfl (ones_cons rfl (ones_cons rfl (ones_cons rfl (ones_cons rfl (ones_cons rfl (ones_cons rfl (ones_cons (vec_one hH91 (i := 0) rfl) (ones_cons rfl (ones_cons rfl ones_nil))))))))) rfl) ?_
      rintro _ M92 ⟨rfl, (hH92 : Has Fr M92 [.vec 3 1 r89.1.Cells.length s89_0 (r89.1.Cells.flatMap enc3), .vec 3 1 r83.1.Cells.length s83_0 (r83.1.Cells.flatMap enc3), .obj b25 (.row 29 .whole [(.str c25_0), (.int .i64 c25_1), (.int .i64 c25_2), (.int .i64 c25_3), (.int .i64 c25_4), (.int .i64 c25_5), sc25_6, (.bool c25_7), (.int .i64 c25_8)]), .obj b28 (.row 55 .whole [(.str c28_0), (.int .i64 c28_1), (.int .i64 c28_2), (.int .i64 c28_3), (.int .i64 c28_4), (.int .i64 c28_5), (.int .i64 c28_6), (.int .i64 c28_7), (.int .i64 c28_8), sc28_9]), .obj b36 (.row 29 .whole [(.str r83.1.Event), (.int .i64 r83.1.Version), (.int .i64 r83.1.Time), (.int .i64 r83.1.Chance.N), (.int .i64 r83.1.Chance.Of), (.int .i64 r83.1.Grid), s83_0, (.bool r83.1.Withdrawn), (.int .i64 r83.1.Before)]), .vec 3 1 l56.length s56 (l56.flatMap enc3), .obj b45 (.row 29 .whole [(.str r89.1.Event), (.int .i64 r89.1.Version), (.int .i64 r89.1.Time), (.int .i64 r89.1.Chance.N), (.int .i64 r89.1.Chance.Of), (.int .i64 r89.1.Grid), s89_0, (.bool r89.1.Withdrawn), (.int .i64 r89.1.Before)]), .vec 3 1 l62.length s62 (l62.flatMap enc3), .vec 3 1 l73.length s73 (l73.flatMap enc3), tb0, tb1, tb2])⟩
      refine Run.opG wantS_none (ex_assign rfl) rfl ?_
      refine Run.opsEnd (Run.seq (Run.region ?_))
      refine Run.opG wantS_none (ex_loadA rfl (hH92.cells (i := 4) rfl 0 rfl) rdLe_rfl agg29 rfl rfl rfl) rfl ?_
      refine Run.opG wantS_none (ex_loadA rfl (hH92.cells (i := 6) rfl 0 rfl) rdLe_rfl agg29 rfl rfl rfl) rfl ?_
      obtain ⟨r94, hr94, h⟩ := bnd_some h
      refine Run.callP wantS_none (ex_call rfl mkk21 cal21) rfl (law10_same_ok F r83.1 r89.1 s83_0 s89_0 _ _ (hH92.slc (i := 1) rfl enc3_len) (hH92.slc (i := 0) rfl enc3_len) hr94) ?_
      refine Run.opG wantS_none (ex_move rfl) rfl ?_
      rcases btf (r94) with hc96 | hc96
      · have h := bif_t hc96 h
        refine Run.opG (wantS_yes' rfl rfl hc96) (ex_move rfl) rfl ?_
        refine Run.opG (wantS_yes' rfl rfl hc96) (ex_move rfl) rfl ?_
        refine Run.opG (wantS_yes' rfl rfl hc96) (ex_eql rfl rfl) rfl ?_
        refine Run.opG wantS_none (ex_pickT' rfl hc96 rfl rfl) rfl ?_
        exact Run.pick [3, 9, 124] (law10_AlertDrafts_4_ok F (r83.2 == r89.2) c28_0 c28_1 c28_2 c28_3 c28_4 c28_5 c28_6 c28_7 c28_8 c28_9 l73 sc28_9 b28 s73 _ _ _ hc28_9 (hH92.pick [3, 8, 9, 10, 11] rfl rfl) h)
      · have h := bif_f hc96 h
        refine Run.no (wantS_not' rfl rfl hc96) rfl ?_
        refine Run.no (wantS_not' rfl rfl hc96) rfl ?_
        refine Run.no (wantS_not' rfl rfl hc96) rfl ?_
        refine Run.opG wantS_none (ex_pickF' rfl hc96 rfl rfl) rfl ?_
        exact Run.pick [3, 9, 124] (law10_AlertDrafts_4_ok F false c28_0 c28_1 c28_2 c28_3 c28_4 c28_5 c28_6 c28_7 c28_8 c28_9 l73 sc28_9 b28 s73 _ _ _ hc28_9 (hH92.pick [3, 8, 9, 10, 11] rfl rfl) h)

def law10_AlertDrafts_2 (F : Nat) (v88 : Bool) (c25_0 : (List UInt8)) (c25_1 c25_2 c25_3 c25_4 c25_5 : Int) (c25_6 : (List Int)) (c25_7 : Bool) (c25_8 : Int) (c28_0 : (List UInt8)) (c28_1 c28_2 c28_3 c28_4 c28_5 c28_6 c28_7 c28_8 : Int) (c28_9 : (List Int)) (c36_0 : (List UInt8)) (c36_1 c36_2 c36_3 c36_4 c36_5 : Int) (c36_7 : Bool) (c36_8 : Int) (c45_0 : (List UInt8)) (c45_1 c45_2 c45_3 c45_4 c45_5 : Int) (c45_7 : Bool) (c45_8 : Int) (l56 l62 : (List Int)) : Option (Bool) :=
  bif v88 then
    some false
  else
    bnd (ref00_OwnInts F c28_9) fun r72 =>
    law10_AlertDrafts_3 F F (0 : Int) c25_0 c25_1 c25_2 c25_3 c25_4 c25_5 c25_6 c25_7 c25_8 c28_0 c28_1 c28_2 c28_3 c28_4 c28_5 c28_6 c28_7 c28_8 c28_9 c36_0 c36_1 c36_2 c36_3 c36_4 c36_5 c36_7 c36_8 c45_0 c45_1 c45_2 c45_3 c45_4 c45_5 c45_7 c45_8 l56 l62 r72

theorem law10_AlertDrafts_2_ok (F : Nat) : ∀ (v88 : Bool) (c25_0 : (List UInt8)) (c25_1 c25_2 c25_3 c25_4 c25_5 : Int) (c25_6 : (List Int)) (c25_7 : Bool) (c25_8 : Int) (c28_0 : (List UInt8)) (c28_1 c28_2 c28_3 c28_4 c28_5 c28_6 c28_7 c28_8 : Int) (c28_9 : (List Int)) (c36_0 : (List UInt8)) (c36_1 c36_2 c36_3 c36_4 c36_5 : Int) (c36_7 : Bool) (c36_8 : Int) (c45_0 : (List UInt8)) (c45_1 c45_2 c45_3 c45_4 c45_5 : Int) (c45_7 : Bool) (c45_8 : Int) (l56 l62 : (List Int)) (sc25_6 sc28_9 : SV) (b25 b28 b36 : Pos) (s56 : SV) (b45 : Pos) (s62 : SV) (Fr : Rd) (M : Mem) (r : Bool) (hc25_6 : Slc Fr 1 (FlatR enc3) sc25_6 c25_6) (hc28_9 : Slc Fr 1 (FlatR enc3) sc28_9 c28_9) (hH : Has Fr M [.obj b25 (.row 29 .whole [(.str c25_0), (.int .i64 c25_1), (.int .i64 c25_2), (.int .i64 c25_3), (.int .i64 c25_4), (.int .i64 c25_5), sc25_6, (.bool c25_7), (.int .i64 c25_8)]), .obj b28 (.row 55 .whole [(.str c28_0), (.int .i64 c28_1), (.int .i64 c28_2), (.int .i64 c28_3), (.int .i64 c28_4), (.int .i64 c28_5), (.int .i64 c28_6), (.int .i64 c28_7), (.int .i64 c28_8), sc28_9]), .obj b36 (.row 29 .whole [(.str c36_0), (.int .i64 c36_1), (.int .i64 c36_2), (.int .i64 c36_3), (.int .i64 c36_4), (.int .i64 c36_5), s56, (.bool c36_7), (.int .i64 c36_8)]), .vec 3 1 l56.length s56 (l56.flatMap enc3), .obj b45 (.row 29 .whole [(.str c45_0), (.int .i64 c45_1), (.int .i64 c45_2), (.int .i64 c45_3), (.int .i64 c45_4), (.int .i64 c45_5), s62, (.bool c45_7), (.int .i64 c45_8)]), .vec 3 1 l62.length s62 (l62.flatMap enc3), tb0, tb1, tb2]), law10_AlertDrafts_2 F v88 c25_0 c25_1 c25_2 c25_3 c25_4 c25_5 c25_6 c25_7 c25_8 c28_0 c28_1 c28_2 c28_3 c28_4 c28_5 c28_6 c28_7 c28_8 c28_9 c36_0 c36_1 c36_2 c36_3 c36_4 c36_5 c36_7 c36_8 c45_0 c45_1 c45_2 c45_3 c45_4 c45_5 c45_7 c45_8 l56 l62 = some r → Run Tryd.prog ⟨⟨5, [], none⟩, []⟩ 134 (law10_AlertDrafts_post r) [(2, (.ptr b25 0)), (3, (.ptr b28 0)), (5, (.ptr b36 0)), (7, (.ptr b45 0)), (88, (.bool v88))] [codeC Tryd.prog 5 [1, 1, 1, 1, 1, 1, 0, 1], codeC Tryd.prog 5 [1, 1, 1, 1, 1, 1, 1]] M := by
  intro v88 c25_0 c25_1 c25_2 c25_3 c25_4 c25_5 c25_6 c25_7 c25_8 c28_0 c28_1 c28_2 c28_3 c28_4 c28_5 c28_6 c28_7 c28_8 c28_9 c36_0 c36_1 c36_2 c36_3 c36_4 c36_5 c36_7 c36_8 c45_0 c45_1 c45_2 c45_3 c45_4 c45_5 c45_7 c45_8 l56 l62 sc25_6 sc28_9 b25 b28 b36 s56 b45 s62 Fr M r hc25_6 hc28_9 hH h
  rw [law10_AlertDrafts_2] at h
  rcases btf (v88) with hc69 | hc69
  · have h := bif_t hc69 h
    refine Run.condT' rfl hc69 ?_
    refine Run.seq (Run.region ?_)
    refine Run.opG wantS_none (ex_assign rfl) rfl ?_
    refine Run.opsEnd ?_
    cases h
    exact Run.ret Tryd.func5 rfl (res_tmp rfl res_nil) rfl
  · have h := bif_f hc69 h
    refine Run.condF' rfl hc69 ?_
    refine Run.skip (Run.seq (Run.region ?_))
    refine Run.opG wantS_none (ex_fieldAddr rfl off55_5) rfl ?_
    refine Run.opG wantS_none (ex_load1 rfl (hH.cells (i := 1) rfl 9 rfl) rdLe_rfl agg27) rfl ?_
    obtain ⟨r72, hr72, h⟩ := bnd_some h
    refine Run.callX wantS_none (ex_call rfl mkk24 cal24) rfl (ref00_OwnInts_ok F c28_9 sc28_9 _ _ (hH.slcF hc28_9) hr72) ?_
    rintro s72_0 M74 ⟨_, rfl, hN72⟩
    have hH74 : Has Fr M74 [.vec 3 1 r72.length s72_0 (r72.flatMap enc3), .obj b25 (.row 29 .whole [(.str c25_0), (.int .i64 c25_1), (.int .i64 c25_2), (.int .i64 c25_3), (.int .i64 c25_4), (.int .i64 c25_5), sc25_6, (.bool c25_7), (.int .i64 c25_8)]), .obj b28 (.row 55 .whole [(.str c28_0), (.int .i64 c28_1), (.int .i64 c28_2), (.int .i64 c28_3), (.int .i64 c28_4), (.int .i64 c28_5), (.int .i64 c28_6), (.int .i64 c28_7), (.int .i64 c28_8), sc28_9]), .obj b36 (.row 29 .whole [(.str c36_0), (.int .i64 c36_1), (.int .i64 c36_2), (.int .i64 c36_3), (.int .i64 c36_4), (.int .i64 c36_5), s56, (.bool c36_7), (.int .i64 c36_8)]), .vec 3 1 l56.length s56 (l56.flatMap enc3), .obj b45 (.row 29 .whole [(.str c45_0), (.int .i64 c45_1), (.int .i64 c45_2), (.int .i64 c45_3), (.int .i64 c45_4), (.int .i64 c45_5), s62, (.bool c45_7), (.int .i64 c45_8)]), .vec 3 1 l62.length s62 (l62.flatMap enc3), tb0, tb1, tb2] := hN72.1 _ _ hH
    refine Run.opG wantS_none (ex_assign rfl) rfl ?_
    refine Run.opsEnd (Run.seq (Run.seq (Run.region ?_)))
    refine Run.opG wantS_none (ex_assign rfl) rfl ?_
    refine Run.opsEnd (Run.block (Run.loop ?_))
    exact Run.pick [2, 3, 5, 7, 9, 10] (law10_AlertDrafts_3_ok F F (0 : Int) c25_0 c25_1 c25_2 c25_3 c25_4 c25_5 c25_6 c25_7 c25_8 c28_0 c28_1 c28_2 c28_3 c28_4 c28_5 c28_6 c28_7 c28_8 c28_9 c36_0 c36_1 c36_2 c36_3 c36_4 c36_5 c36_7 c36_8 c45_0 c45_1 c45_2 c45_3 c45_4 c45_5 c45_7 c45_8 l56 l62 r72 sc25_6 sc28_9 b25 b28 b36 s56 b45 s62 s72_0 _ _ _ hc25_6 hc28_9 (hH74.pick [1, 2, 3, 4, 5, 6, 0, 7, 8, 9] rfl rfl) h)

def law10_AlertDrafts_1 (F : Nat) (v51 : Bool) (c25_0 : (List UInt8)) (c25_1 c25_2 c25_3 c25_4 c25_5 : Int) (c25_6 : (List Int)) (c25_7 : Bool) (c25_8 : Int) (c28_0 : (List UInt8)) (c28_1 c28_2 c28_3 c28_4 c28_5 c28_6 c28_7 c28_8 : Int) (c28_9 : (List Int)) (c36_0 : (List UInt8)) (c36_1 c36_2 c36_3 c36_4 c36_5 : Int) (c36_7 : Bool) (c36_8 : Int) (c45_0 : (List UInt8)) (c45_1 c45_2 c45_3 c45_4 c45_5 : Int) (c45_7 : Bool) (c45_8 : Int) (l33 l42 : (List Int)) : Option (Bool) :=
  bif v51 then
    some false
  else
    bnd (alert_Follow F (S_api_Alert.mk c25_0 c25_1 c25_2 (S_api_Chance.mk c25_3 c25_4) c25_5 c25_6 c25_7 c25_8) c28_1 (S_api_Chance.mk c28_5 c28_6) c28_8 c28_9) fun r55 =>
    bnd (ref10_Follow F (S_api_Alert.mk c25_0 c25_1 c25_2 (S_api_Chance.mk c25_3 c25_4) c25_5 c25_6 c25_7 c25_8) c28_1 (S_api_Chance.mk c28_5 c28_6) c28_8 c28_9) fun r61 =>
    bnd (law10_same F r55.1 r61.1) fun r66 =>
    bif (!r66) then
      law10_AlertDrafts_2 F true c25_0 c25_1 c25_2 c25_3 c25_4 c25_5 c25_6 c25_7 c25_8 c28_0 c28_1 c28_2 c28_3 c28_4 c28_5 c28_6 c28_7 c28_8 c28_9 r55.1.Event r55.1.Version r55.1.Time r55.1.Chance.N r55.1.Chance.Of r55.1.Grid r55.1.Withdrawn r55.1.Before r61.1.Event r61.1.Version r61.1.Time r61.1.Chance.N r61.1.Chance.Of r61.1.Grid r61.1.Withdrawn r61.1.Before r55.1.Cells r61.1.Cells
    else
      law10_AlertDrafts_2 F (!(r55.2 == r61.2)) c25_0 c25_1 c25_2 c25_3 c25_4 c25_5 c25_6 c25_7 c25_8 c28_0 c28_1 c28_2 c28_3 c28_4 c28_5 c28_6 c28_7 c28_8 c28_9 r55.1.Event r55.1.Version r55.1.Time r55.1.Chance.N r55.1.Chance.Of r55.1.Grid r55.1.Withdrawn r55.1.Before r61.1.Event r61.1.Version r61.1.Time r61.1.Chance.N r61.1.Chance.Of r61.1.Grid r61.1.Withdrawn r61.1.Before r55.1.Cells r61.1.Cells

theorem law10_AlertDrafts_1_ok (F : Nat) : ∀ (v51 : Bool) (c25_0 : (List UInt8)) (c25_1 c25_2 c25_3 c25_4 c25_5 : Int) (c25_6 : (List Int)) (c25_7 : Bool) (c25_8 : Int) (c28_0 : (List UInt8)) (c28_1 c28_2 c28_3 c28_4 c28_5 c28_6 c28_7 c28_8 : Int) (c28_9 : (List Int)) (c36_0 : (List UInt8)) (c36_1 c36_2 c36_3 c36_4 c36_5 : Int) (c36_7 : Bool) (c36_8 : Int) (c45_0 : (List UInt8)) (c45_1 c45_2 c45_3 c45_4 c45_5 : Int) (c45_7 : Bool) (c45_8 : Int) (l33 l42 : (List Int)) (sc25_6 sc28_9 : SV) (b25 b28 b36 : Pos) (s33 : SV) (b45 : Pos) (s42 : SV) (Fr : Rd) (M : Mem) (r : Bool) (hc25_6 : Slc Fr 1 (FlatR enc3) sc25_6 c25_6) (hc28_9 : Slc Fr 1 (FlatR enc3) sc28_9 c28_9) (hH : Has Fr M [.obj b25 (.row 29 .whole [(.str c25_0), (.int .i64 c25_1), (.int .i64 c25_2), (.int .i64 c25_3), (.int .i64 c25_4), (.int .i64 c25_5), sc25_6, (.bool c25_7), (.int .i64 c25_8)]), .obj b28 (.row 55 .whole [(.str c28_0), (.int .i64 c28_1), (.int .i64 c28_2), (.int .i64 c28_3), (.int .i64 c28_4), (.int .i64 c28_5), (.int .i64 c28_6), (.int .i64 c28_7), (.int .i64 c28_8), sc28_9]), .obj b36 (.row 29 .whole [(.str c36_0), (.int .i64 c36_1), (.int .i64 c36_2), (.int .i64 c36_3), (.int .i64 c36_4), (.int .i64 c36_5), s33, (.bool c36_7), (.int .i64 c36_8)]), .vec 3 1 l33.length s33 (l33.flatMap enc3), .obj b45 (.row 29 .whole [(.str c45_0), (.int .i64 c45_1), (.int .i64 c45_2), (.int .i64 c45_3), (.int .i64 c45_4), (.int .i64 c45_5), s42, (.bool c45_7), (.int .i64 c45_8)]), .vec 3 1 l42.length s42 (l42.flatMap enc3), tb0, tb1, tb2]), law10_AlertDrafts_1 F v51 c25_0 c25_1 c25_2 c25_3 c25_4 c25_5 c25_6 c25_7 c25_8 c28_0 c28_1 c28_2 c28_3 c28_4 c28_5 c28_6 c28_7 c28_8 c28_9 c36_0 c36_1 c36_2 c36_3 c36_4 c36_5 c36_7 c36_8 c45_0 c45_1 c45_2 c45_3 c45_4 c45_5 c45_7 c45_8 l33 l42 = some r → Run Tryd.prog ⟨⟨5, [], none⟩, []⟩ 134 (law10_AlertDrafts_post r) [(2, (.ptr b25 0)), (3, (.ptr b28 0)), (5, (.ptr b36 0)), (7, (.ptr b45 0)), (51, (.bool v51))] [codeC Tryd.prog 5 [1, 1, 1, 0, 1], codeC Tryd.prog 5 [1, 1, 1, 1]] M := by
  intro v51 c25_0 c25_1 c25_2 c25_3 c25_4 c25_5 c25_6 c25_7 c25_8 c28_0 c28_1 c28_2 c28_3 c28_4 c28_5 c28_6 c28_7 c28_8 c28_9 c36_0 c36_1 c36_2 c36_3 c36_4 c36_5 c36_7 c36_8 c45_0 c45_1 c45_2 c45_3 c45_4 c45_5 c45_7 c45_8 l33 l42 sc25_6 sc28_9 b25 b28 b36 s33 b45 s42 Fr M r hc25_6 hc28_9 hH h
  rw [law10_AlertDrafts_1] at h
  rcases btf (v51) with hc52 | hc52
  · have h := bif_t hc52 h
    refine Run.condT' rfl hc52 ?_
    refine Run.seq (Run.region ?_)
    refine Run.opG wantS_none (ex_assign rfl) rfl ?_
    refine Run.opsEnd ?_
    cases h
    exact Run.ret Tryd.func5 rfl (res_tmp rfl res_nil) rfl
  · have h := bif_f hc52 h
    refine Run.condF' rfl hc52 ?_
    refine Run.skip (Run.seq (Run.region ?_))
    refine Run.opG wantS_none (ex_loadA rfl (hH.cells (i := 0) rfl 0 rfl) rdLe_rfl agg29 rfl rfl rfl) rfl ?_
    refine Run.opG wantS_none (ex_fieldAddr rfl off55_1) rfl ?_
    refine Run.opG wantS_none (ex_load1 rfl (hH.cells (i := 1) rfl 1 rfl) rdLe_rfl agg3) rfl ?_
    refine Run.opG wantS_none (ex_fieldAddr rfl off55_2) rfl ?_
    refine Run.opG wantS_none (ex_fieldAddr rfl off53_1) rfl ?_
    refine Run.opG wantS_none (ex_loadA rfl (hH.cells (i := 1) rfl 5 rfl) rdLe_rfl agg26 rfl rfl rfl) rfl ?_
    refine Run.opG wantS_none (ex_fieldAddr rfl off55_4) rfl ?_
    refine Run.opG wantS_none (ex_load1 rfl (hH.cells (i := 1) rfl 8 rfl) rdLe_rfl agg3) rfl ?_
    refine Run.opG wantS_none (ex_fieldAddr rfl off55_5) rfl ?_
    refine Run.opG wantS_none (ex_load1 rfl (hH.cells (i := 1) rfl 9 rfl) rdLe_rfl agg27) rfl ?_
    obtain ⟨r55, hr55, h⟩ := bnd_some h
    refine Run.callX wantS_none (ex_call rfl mkk22 cal22) rfl (alert_Follow_ok F (S_api_Alert.mk c25_0 c25_1 c25_2 (S_api_Chance.mk c25_3 c25_4) c25_5 c25_6 c25_7 c25_8) c28_1 (S_api_Chance.mk c28_5 c28_6) c28_8 c28_9 sc25_6 sc28_9 _ _ (hH.slcF hc25_6) (hH.slcF hc28_9) (fixH hH (List.mem_of_getElem? (i := 6) rfl) (List.mem_of_getElem? (i := 7) rfl) (List.mem_of_getElem? (i := 8) rfl)) hr55) ?_
    rintro _ M57 ⟨s55_0, rfl, hN55⟩
    have hH57 : Has Fr M57 [.vec 3 1 r55.1.Cells.length s55_0 (r55.1.Cells.flatMap enc3), .obj b25 (.row 29 .whole [(.str c25_0), (.int .i64 c25_1), (.int .i64 c25_2), (.int .i64 c25_3), (.int .i64 c25_4), (.int .i64 c25_5), sc25_6, (.bool c25_7), (.int .i64 c25_8)]), .obj b28 (.row 55 .whole [(.str c28_0), (.int .i64 c28_1), (.int .i64 c28_2), (.int .i64 c28_3), (.int .i64 c28_4), (.int .i64 c28_5), (.int .i64 c28_6), (.int .i64 c28_7), (.int .i64 c28_8), sc28_9]), .obj b36 (.row 29 .whole [(.str c36_0), (.int .i64 c36_1), (.int .i64 c36_2), (.int .i64 c36_3), (.int .i64 c36_4), (.int .i64 c36_5), s33, (.bool c36_7), (.int .i64 c36_8)]), .vec 3 1 l33.length s33 (l33.flatMap enc3), .obj b45 (.row 29 .whole [(.str c45_0), (.int .i64 c45_1), (.int .i64 c45_2), (.int .i64 c45_3), (.int .i64 c45_4), (.int .i64 c45_5), s42, (.bool c45_7), (.int .i64 c45_8)]), .vec 3 1 l42.length s42 (l42.flatMap enc3), tb0, tb1, tb2] := hN55.1 _ _ hH
    refine Run.opG wantS_none (ex_move rfl) rfl ?_
    refine Run.opG wantS_none (ex_extract rfl rfl) rfl ?_
    refine Run.opG wantS_none (ex_extract rfl rfl) rfl ?_
    refine Run.opX wantS_none rfl (ExG.storeC (c' := [(.str r55.1.Event), (.int .i64 r55.1.Version), (.int .i64 r55.1.Time), (.int .i64 r55.1.Chance.N), (.int .i64 r55.1.Chance.Of), (.int .i64 r55.1.Grid), s55_0, (.bool r55.1.Withdrawn), (.int .i64 r55.1.Before)]) rfl rfl rfl hH57 (i := 3) rfl sz29 rfl rfl rfl (ones_cons rfl (ones_cons rfl (ones_cons rfl (ones_cons rfl (ones_cons rfl (ones_cons rfl (ones_cons (vec_one hH57 (i := 0) rfl) (ones_cons rfl (ones_cons rfl ones_nil))))))))) rfl) ?_
    rintro _ M58 ⟨rfl, (hH58 : Has Fr M58 [.vec 3 1 r55.1.Cells.length s55_0 (r55.1.Cells.flatMap enc3), .obj b25 (.row 29 .whole [(.str c25_0), (.int .i64 c25_1), (.int .i64 c25_2), (.int .i64 c25_3), (.int .i64 c25_4), (.int .i64 c25_5), sc25_6, (.bool c25_7), (.int .i64 c25_8)]), .obj b28 (.row 55 .whole [(.str c28_0), (.int .i64 c28_1), (.int .i64 c28_2), (.int .i64 c28_3), (.int .i64 c28_4), (.int .i64 c28_5), (.int .i64 c28_6), (.int .i64 c28_7), (.int .i64 c28_8), sc28_9]), .obj b36 (.row 29 .whole [(.str r55.1.Event), (.int .i64 r55.1.Version), (.int .i64 r55.1.Time), (.int .i64 r55.1.Chance.N), (.int .i64 r55.1.Chance.Of), (.int .i64 r55.1.Grid), s55_0, (.bool r55.1.Withdrawn), (.int .i64 r55.1.Before)]), .vec 3 1 l33.length s33 (l33.flatMap enc3), .obj b45 (.row 29 .whole [(.str c45_0), (.int .i64 c45_1), (.int .i64 c45_2), (.int .i64 c45_3), (.int .i64 c45_4), (.int .i64 c45_5), s42, (.bool c45_7), (.int .i64 c45_8)]), .vec 3 1 l42.length s42 (l42.flatMap enc3), tb0, tb1, tb2])⟩
    refine Run.opG wantS_none (ex_assign rfl) rfl ?_
    refine Run.opsEnd (Run.seq (Run.region ?_))
    refine Run.opG wantS_none (ex_loadA rfl (hH58.cells (i := 1) rfl 0 rfl) rdLe_rfl agg29 rfl rfl rfl) rfl ?_
    refine Run.opG wantS_none (ex_fieldAddr rfl off55_1) rfl ?_
    refine Run.opG wantS_none (ex_load1 rfl (hH58.cells (i := 2) rfl 1 rfl) rdLe_rfl agg3) rfl ?_
    refine Run.opG wantS_none (ex_fieldAddr rfl off55_2) rfl ?_
    refine Run.opG wantS_none (ex_fieldAddr rfl off53_1) rfl ?_
    refine Run.opG wantS_none (ex_loadA rfl (hH58.cells (i := 2) rfl 5 rfl) rdLe_rfl agg26 rfl rfl rfl) rfl ?_
    refine Run.opG wantS_none (ex_fieldAddr rfl off55_4) rfl ?_
    refine Run.opG wantS_none (ex_load1 rfl (hH58.cells (i := 2) rfl 8 rfl) rdLe_rfl agg3) rfl ?_
    refine Run.opG wantS_none (ex_fieldAddr rfl off55_5) rfl ?_
    refine Run.opG wantS_none (ex_load1 rfl (hH58.cells (i := 2) rfl 9 rfl) rdLe_rfl agg27) rfl ?_
    obtain ⟨r61, hr61, h⟩ := bnd_some h
    refine Run.callX wantS_none (ex_call rfl mkk23 cal23) rfl (ref10_Follow_ok F (S_api_Alert.mk c25_0 c25_1 c25_2 (S_api_Chance.mk c25_3 c25_4) c25_5 c25_6 c25_7 c25_8) c28_1 (S_api_Chance.mk c28_5 c28_6) c28_8 c28_9 sc25_6 sc28_9 _ _ (hH58.slcF hc25_6) (hH58.slcF hc28_9) hr61) ?_
    rintro _ M63 ⟨s61_0, rfl, hN61⟩
    have hH63 : Has Fr M63 [.vec 3 1 r61.1.Cells.length s61_0 (r61.1.Cells.flatMap enc3), .vec 3 1 r55.1.Cells.length s55_0 (r55.1.Cells.flatMap enc3), .obj b25 (.row 29 .whole [(.str c25_0), (.int .i64 c25_1), (.int .i64 c25_2), (.int .i64 c25_3), (.int .i64 c25_4), (.int .i64 c25_5), sc25_6, (.bool c25_7), (.int .i64 c25_8)]), .obj b28 (.row 55 .whole [(.str c28_0), (.int .i64 c28_1), (.int .i64 c28_2), (.int .i64 c28_3), (.int .i64 c28_4), (.int .i64 c28_5), (.int .i64 c28_6), (.int .i64 c28_7), (.int .i64 c28_8), sc28_9]), .obj b36 (.row 29 .whole [(.str r55.1.Event), (.int .i64 r55.1.Version), (.int .i64 r55.1.Time), (.int .i64 r55.1.Chance.N), (.int .i64 r55.1.Chance.Of), (.int .i64 r55.1.Grid), s55_0, (.bool r55.1.Withdrawn), (.int .i64 r55.1.Before)]), .vec 3 1 l33.length s33 (l33.flatMap enc3), .obj b45 (.row 29 .whole [(.str c45_0), (.int .i64 c45_1), (.int .i64 c45_2), (.int .i64 c45_3), (.int .i64 c45_4), (.int .i64 c45_5), s42, (.bool c45_7), (.int .i64 c45_8)]), .vec 3 1 l42.length s42 (l42.flatMap enc3), tb0, tb1, tb2] := hN61.1 _ _ hH58
    refine Run.opG wantS_none (ex_move rfl) rfl ?_
    refine Run.opG wantS_none (ex_extract rfl rfl) rfl ?_
    refine Run.opG wantS_none (ex_extract rfl rfl) rfl ?_
    refine Run.opX wantS_none rfl (ExG.storeC (c' := [(.str r61.1.Event), (.int .i64 r61.1.Version), (.int .i64 r61.1.Time), (.int .i64 r61.1.Chance.N), (.int .i64 r61.1.Chance.Of), (.int .i64 r61.1.Grid), s61_0, (.bool r61.1.Withdrawn), (.int .i64 r61.1.Before)]) rfl rfl rfl hH63 (i := 6) rfl sz29 rfl rfl rfl (ones_cons rfl (ones_cons rfl (ones_cons rfl (ones_cons rfl (ones_cons rfl (ones_cons rfl (ones_cons (vec_one hH63 (i := 0) rfl) (ones_cons rfl (ones_cons rfl ones_nil))))))))) rfl) ?_
    rintro _ M64 ⟨rfl, (hH64 : Has Fr M64 [.vec 3 1 r61.1.Cells.length s61_0 (r61.1.Cells.flatMap enc3), .vec 3 1 r55.1.Cells.length s55_0 (r55.1.Cells.flatMap enc3), .obj b25 (.row 29 .whole [(.str c25_0), (.int .i64 c25_1), (.int .i64 c25_2), (.int .i64 c25_3), (.int .i64 c25_4), (.int .i64 c25_5), sc25_6, (.bool c25_7), (.int .i64 c25_8)]), .obj b28 (.row 55 .whole [(.str c28_0), (.int .i64 c28_1), (.int .i64 c28_2), (.int .i64 c28_3), (.int .i64 c28_4), (.int .i64 c28_5), (.int .i64 c28_6), (.int .i64 c28_7), (.int .i64 c28_8), sc28_9]), .obj b36 (.row 29 .whole [(.str r55.1.Event), (.int .i64 r55.1.Version), (.int .i64 r55.1.Time), (.int .i64 r55.1.Chance.N), (.int .i64 r55.1.Chance.Of), (.int .i64 r55.1.Grid), s55_0, (.bool r55.1.Withdrawn), (.int .i64 r55.1.Before)]), .vec 3 1 l33.length s33 (l33.flatMap enc3), .obj b45 (.row 29 .whole [(.str r61.1.Event), (.int .i64 r61.1.Version), (.int .i64 r61.1.Time), (.int .i64 r61.1.Chance.N), (.int .i64 r61.1.Chance.Of), (.int .i64 r61.1.Grid), s61_0, (.bool r61.1.Withdrawn), (.int .i64 r61.1.Before)]), .vec 3 1 l42.length s42 (l42.flatMap enc3), tb0, tb1, tb2])⟩
    refine Run.opG wantS_none (ex_assign rfl) rfl ?_
    refine Run.opsEnd (Run.seq (Run.seq (Run.region ?_)))
    refine Run.opG wantS_none (ex_loadA rfl (hH64.cells (i := 4) rfl 0 rfl) rdLe_rfl agg29 rfl rfl rfl) rfl ?_
    refine Run.opG wantS_none (ex_loadA rfl (hH64.cells (i := 6) rfl 0 rfl) rdLe_rfl agg29 rfl rfl rfl) rfl ?_
    obtain ⟨r66, hr66, h⟩ := bnd_some h
    refine Run.callP wantS_none (ex_call rfl mkk21 cal21) rfl (law10_same_ok F r55.1 r61.1 s55_0 s61_0 _ _ (hH64.slc (i := 1) rfl enc3_len) (hH64.slc (i := 0) rfl enc3_len) hr66) ?_
    refine Run.opG wantS_none (ex_not rfl) rfl ?_
    refine Run.opG wantS_none (ex_move rfl) rfl ?_
    rcases btf ((!r66)) with hc68 | hc68
    · have h := bif_t hc68 h
      refine Run.no (wantS_not' rfl rfl hc68) rfl ?_
      refine Run.no (wantS_not' rfl rfl hc68) rfl ?_
      refine Run.no (wantS_not' rfl rfl hc68) rfl ?_
      refine Run.opG wantS_none (ex_pickT' rfl hc68 rfl rfl) rfl ?_
      refine Run.opsEnd ?_
      exact Run.pick [2, 3, 5, 7, 88] (law10_AlertDrafts_2_ok F true c25_0 c25_1 c25_2 c25_3 c25_4 c25_5 c25_6 c25_7 c25_8 c28_0 c28_1 c28_2 c28_3 c28_4 c28_5 c28_6 c28_7 c28_8 c28_9 r55.1.Event r55.1.Version r55.1.Time r55.1.Chance.N r55.1.Chance.Of r55.1.Grid r55.1.Withdrawn r55.1.Before r61.1.Event r61.1.Version r61.1.Time r61.1.Chance.N r61.1.Chance.Of r61.1.Grid r61.1.Withdrawn r61.1.Before r55.1.Cells r61.1.Cells sc25_6 sc28_9 b25 b28 b36 s55_0 b45 s61_0 _ _ _ hc25_6 hc28_9 (hH64.pick [2, 3, 4, 1, 6, 0, 8, 9, 10] rfl rfl) h)
    · have h := bif_f hc68 h
      refine Run.opG (wantS_yes' rfl rfl hc68) (ex_move rfl) rfl ?_
      refine Run.opG (wantS_yes' rfl rfl hc68) (ex_move rfl) rfl ?_
      refine Run.opG (wantS_yes' rfl rfl hc68) (ex_neq rfl rfl) rfl ?_
      refine Run.opG wantS_none (ex_pickF' rfl hc68 rfl rfl) rfl ?_
      refine Run.opsEnd ?_
      exact Run.pick [2, 3, 5, 7, 88] (law10_AlertDrafts_2_ok F (!(r55.2 == r61.2)) c25_0 c25_1 c25_2 c25_3 c25_4 c25_5 c25_6 c25_7 c25_8 c28_0 c28_1 c28_2 c28_3 c28_4 c28_5 c28_6 c28_7 c28_8 c28_9 r55.1.Event r55.1.Version r55.1.Time r55.1.Chance.N r55.1.Chance.Of r55.1.Grid r55.1.Withdrawn r55.1.Before r61.1.Event r61.1.Version r61.1.Time r61.1.Chance.N r61.1.Chance.Of r61.1.Grid r61.1.Withdrawn r61.1.Before r55.1.Cells r61.1.Cells sc25_6 sc28_9 b25 b28 b36 s55_0 b45 s61_0 _ _ _ hc25_6 hc28_9 (hH64.pick [2, 3, 4, 1, 6, 0, 8, 9, 10] rfl rfl) h)

def law10_AlertDrafts (F : Nat) (a0 : S_api_Alert) (a1 : S_ringdownlaw10_Idea) : Option (Bool) :=
  bnd (alert_Draft F a1.Event a1.Time (S_api_Candidate.mk a1.C.Pair a1.C.Chance) a1.Limit a1.Grid a1.Cells) fun r32 =>
  bnd (ref10_Draft F a1.Event a1.Time (S_api_Candidate.mk a1.C.Pair a1.C.Chance) a1.Limit a1.Grid a1.Cells) fun r41 =>
  bnd (law10_same F r32.1 r41.1) fun r49 =>
  bif (!r49) then
    law10_AlertDrafts_1 F true a0.Event a0.Version a0.Time a0.Chance.N a0.Chance.Of a0.Grid a0.Cells a0.Withdrawn a0.Before a1.Event a1.Time a1.C.Pair.A a1.C.Pair.B a1.C.Pair.Loud a1.C.Chance.N a1.C.Chance.Of a1.Limit a1.Grid a1.Cells r32.1.Event r32.1.Version r32.1.Time r32.1.Chance.N r32.1.Chance.Of r32.1.Grid r32.1.Withdrawn r32.1.Before r41.1.Event r41.1.Version r41.1.Time r41.1.Chance.N r41.1.Chance.Of r41.1.Grid r41.1.Withdrawn r41.1.Before r32.1.Cells r41.1.Cells
  else
    law10_AlertDrafts_1 F (!(r32.2 == r41.2)) a0.Event a0.Version a0.Time a0.Chance.N a0.Chance.Of a0.Grid a0.Cells a0.Withdrawn a0.Before a1.Event a1.Time a1.C.Pair.A a1.C.Pair.B a1.C.Pair.Loud a1.C.Chance.N a1.C.Chance.Of a1.Limit a1.Grid a1.Cells r32.1.Event r32.1.Version r32.1.Time r32.1.Chance.N r32.1.Chance.Of r32.1.Grid r32.1.Withdrawn r32.1.Before r41.1.Event r41.1.Version r41.1.Time r41.1.Chance.N r41.1.Chance.Of r41.1.Grid r41.1.Withdrawn r41.1.Before r32.1.Cells r41.1.Cells

theorem law10_AlertDrafts_run (F : Nat) (a0 : S_api_Alert) (a1 : S_ringdownlaw10_Idea) (s0 s1 : SV) (r : Bool) (M : Mem) (hs0 : Slc (rd M) 1 (FlatR enc3) s0 a0.Cells) (hs1 : Slc (rd M) 1 (FlatR enc3) s1 a1.Cells) (hfx : FixIn M fixes) (h : law10_AlertDrafts F a0 a1 = some r) : Run Tryd.prog (fx0 5) 134 (law10_AlertDrafts_post r) [(0, (.agg [(.str a0.Event), (.int .i64 a0.Version), (.int .i64 a0.Time), (.int .i64 a0.Chance.N), (.int .i64 a0.Chance.Of), (.int .i64 a0.Grid), s0, (.bool a0.Withdrawn), (.int .i64 a0.Before)])), (1, (.agg [(.str a1.Event), (.int .i64 a1.Time), (.int .i64 a1.C.Pair.A), (.int .i64 a1.C.Pair.B), (.int .i64 a1.C.Pair.Loud), (.int .i64 a1.C.Chance.N), (.int .i64 a1.C.Chance.Of), (.int .i64 a1.Limit), (.int .i64 a1.Grid), s1]))] [codeC Tryd.prog 5 []] (frozen M) := by
  rw [law10_AlertDrafts] at h
  replace hs0 := hs0.mono (rdLe_frozen M) (fun _ _ h => h)
  replace hs1 := hs1.mono (rdLe_frozen M) (fun _ _ h => h)
  have hH : Has (ro (frozen M)) (frozen M) [tb0, tb1, tb2] := Has.ofFix hfx.frozen
  refine Run.seq (Run.region ?_)
  refine Run.opX wantS_none rfl (ExG.box rfl rfl hH) ?_
  rintro _ M26 ⟨b25, rfl, hH26⟩
  refine Run.opX wantS_none rfl (ExG.box rfl rfl hH26) ?_
  rintro _ M29 ⟨b28, rfl, hH29⟩
  refine Run.opG wantS_none (ex_assign rfl) rfl ?_
  refine Run.opsEnd (Run.seq (Run.region ?_))
  refine Run.opG wantS_none (ex_fieldAddr rfl off55_0) rfl ?_
  refine Run.opG wantS_none (ex_load1 rfl (hH29.cells (i := 0) rfl 0 rfl) rdLe_rfl agg9) rfl ?_
  refine Run.opG wantS_none (ex_fieldAddr rfl off55_1) rfl ?_
  refine Run.opG wantS_none (ex_load1 rfl (hH29.cells (i := 0) rfl 1 rfl) rdLe_rfl agg3) rfl ?_
  refine Run.opG wantS_none (ex_fieldAddr rfl off55_2) rfl ?_
  refine Run.opG wantS_none (ex_loadA rfl (hH29.cells (i := 0) rfl 2 rfl) rdLe_rfl agg53 rfl rfl rfl) rfl ?_
  refine Run.opG wantS_none (ex_fieldAddr rfl off55_3) rfl ?_
  refine Run.opG wantS_none (ex_load1 rfl (hH29.cells (i := 0) rfl 7 rfl) rdLe_rfl agg3) rfl ?_
  refine Run.opG wantS_none (ex_fieldAddr rfl off55_4) rfl ?_
  refine Run.opG wantS_none (ex_load1 rfl (hH29.cells (i := 0) rfl 8 rfl) rdLe_rfl agg3) rfl ?_
  refine Run.opG wantS_none (ex_fieldAddr rfl off55_5) rfl ?_
  refine Run.opG wantS_none (ex_load1 rfl (hH29.cells (i := 0) rfl 9 rfl) rdLe_rfl agg27) rfl ?_
  obtain ⟨r32, hr32, h⟩ := bnd_some h
  refine Run.callX wantS_none (ex_call rfl mkk19 cal19) rfl (alert_Draft_ok F a1.Event a1.Time (S_api_Candidate.mk a1.C.Pair a1.C.Chance) a1.Limit a1.Grid a1.Cells s1 _ _ (hH29.slcF hs1) hr32) ?_
  rintro _ M34 ⟨s32_0, rfl, hN32⟩
  have hH34 : Has (ro (frozen M)) M34 [.vec 3 1 r32.1.Cells.length s32_0 (r32.1.Cells.flatMap enc3), .obj b28 (.row 55 .whole [(.str a1.Event), (.int .i64 a1.Time), (.int .i64 a1.C.Pair.A), (.int .i64 a1.C.Pair.B), (.int .i64 a1.C.Pair.Loud), (.int .i64 a1.C.Chance.N), (.int .i64 a1.C.Chance.Of), (.int .i64 a1.Limit), (.int .i64 a1.Grid), s1]), .obj b25 (.row 29 .whole [(.str a0.Event), (.int .i64 a0.Version), (.int .i64 a0.Time), (.int .i64 a0.Chance.N), (.int .i64 a0.Chance.Of), (.int .i64 a0.Grid), s0, (.bool a0.Withdrawn), (.int .i64 a0.Before)]), tb0, tb1, tb2] := hN32.1 _ _ hH29
  refine Run.opG wantS_none (ex_move rfl) rfl ?_
  refine Run.opG wantS_none (ex_extract rfl rfl) rfl ?_
  refine Run.opG wantS_none (ex_extract rfl rfl) rfl ?_
  refine Run.opX wantS_none rfl (ExG.new (v := fun b => .ptr b 0) (ex_alloc zer29) hH34) ?_
  rintro _ M37 ⟨b36, rfl, hH37⟩
  refine Run.opX wantS_none rfl (ExG.storeC (c' := [(.str r32.1.Event), (.int .i64 r32.1.Version), (.int .i64 r32.1.Time), (.int .i64 r32.1.Chance.N), (.int .i64 r32.1.Chance.Of), (.int .i64 r32.1.Grid), s32_0, (.bool r32.1.Withdrawn), (.int .i64 r32.1.Before)]) rfl rfl rfl hH37 (i := 0) rfl sz29 rfl rfl rfl (ones_cons rfl (ones_cons rfl (ones_cons rfl (ones_cons rfl (ones_cons rfl (ones_cons rfl (ones_cons (vec_one hH37 (i := 1) rfl) (ones_cons rfl (ones_cons rfl ones_nil))))))))) rfl) ?_
  rintro _ M38 ⟨rfl, (hH38 : Has (ro (frozen M)) M38 [.obj b36 (.row 29 .whole [(.str r32.1.Event), (.int .i64 r32.1.Version), (.int .i64 r32.1.Time), (.int .i64 r32.1.Chance.N), (.int .i64 r32.1.Chance.Of), (.int .i64 r32.1.Grid), s32_0, (.bool r32.1.Withdrawn), (.int .i64 r32.1.Before)]), .vec 3 1 r32.1.Cells.length s32_0 (r32.1.Cells.flatMap enc3), .obj b28 (.row 55 .whole [(.str a1.Event), (.int .i64 a1.Time), (.int .i64 a1.C.Pair.A), (.int .i64 a1.C.Pair.B), (.int .i64 a1.C.Pair.Loud), (.int .i64 a1.C.Chance.N), (.int .i64 a1.C.Chance.Of), (.int .i64 a1.Limit), (.int .i64 a1.Grid), s1]), .obj b25 (.row 29 .whole [(.str a0.Event), (.int .i64 a0.Version), (.int .i64 a0.Time), (.int .i64 a0.Chance.N), (.int .i64 a0.Chance.Of), (.int .i64 a0.Grid), s0, (.bool a0.Withdrawn), (.int .i64 a0.Before)]), tb0, tb1, tb2])⟩
  refine Run.opG wantS_none (ex_assign rfl) rfl ?_
  refine Run.opsEnd (Run.seq (Run.region ?_))
  refine Run.opG wantS_none (ex_fieldAddr rfl off55_0) rfl ?_
  refine Run.opG wantS_none (ex_load1 rfl (hH38.cells (i := 2) rfl 0 rfl) rdLe_rfl agg9) rfl ?_
  refine Run.opG wantS_none (ex_fieldAddr rfl off55_1) rfl ?_
  refine Run.opG wantS_none (ex_load1 rfl (hH38.cells (i := 2) rfl 1 rfl) rdLe_rfl agg3) rfl ?_
  refine Run.opG wantS_none (ex_fieldAddr rfl off55_2) rfl ?_
  refine Run.opG wantS_none (ex_loadA rfl (hH38.cells (i := 2) rfl 2 rfl) rdLe_rfl agg53 rfl rfl rfl) rfl ?_
  refine Run.opG wantS_none (ex_fieldAddr rfl off55_3) rfl ?_
  refine Run.opG wantS_none (ex_load1 rfl (hH38.cells (i := 2) rfl 7 rfl) rdLe_rfl agg3) rfl ?_
  refine Run.opG wantS_none (ex_fieldAddr rfl off55_4) rfl ?_
  refine Run.opG wantS_none (ex_load1 rfl (hH38.cells (i := 2) rfl 8 rfl) rdLe_rfl agg3) rfl ?_
  refine Run.opG wantS_none (ex_fieldAddr rfl off55_5) rfl ?_
  refine Run.opG wantS_none (ex_load1 rfl (hH38.cells (i := 2) rfl 9 rfl) rdLe_rfl agg27) rfl ?_
  obtain ⟨r41, hr41, h⟩ := bnd_some h
  refine Run.callX wantS_none (ex_call rfl mkk20 cal20) rfl (ref10_Draft_ok F a1.Event a1.Time (S_api_Candidate.mk a1.C.Pair a1.C.Chance) a1.Limit a1.Grid a1.Cells s1 _ _ (hH38.slcF hs1) hr41) ?_
  rintro _ M43 ⟨s41_0, rfl, hN41⟩
  have hH43 : Has (ro (frozen M)) M43 [.vec 3 1 r41.1.Cells.length s41_0 (r41.1.Cells.flatMap enc3), .obj b36 (.row 29 .whole [(.str r32.1.Event), (.int .i64 r32.1.Version), (.int .i64 r32.1.Time), (.int .i64 r32.1.Chance.N), (.int .i64 r32.1.Chance.Of), (.int .i64 r32.1.Grid), s32_0, (.bool r32.1.Withdrawn), (.int .i64 r32.1.Before)]), .vec 3 1 r32.1.Cells.length s32_0 (r32.1.Cells.flatMap enc3), .obj b28 (.row 55 .whole [(.str a1.Event), (.int .i64 a1.Time), (.int .i64 a1.C.Pair.A), (.int .i64 a1.C.Pair.B), (.int .i64 a1.C.Pair.Loud), (.int .i64 a1.C.Chance.N), (.int .i64 a1.C.Chance.Of), (.int .i64 a1.Limit), (.int .i64 a1.Grid), s1]), .obj b25 (.row 29 .whole [(.str a0.Event), (.int .i64 a0.Version), (.int .i64 a0.Time), (.int .i64 a0.Chance.N), (.int .i64 a0.Chance.Of), (.int .i64 a0.Grid), s0, (.bool a0.Withdrawn), (.int .i64 a0.Before)]), tb0, tb1, tb2] := hN41.1 _ _ hH38
  refine Run.opG wantS_none (ex_move rfl) rfl ?_
  refine Run.opG wantS_none (ex_extract rfl rfl) rfl ?_
  refine Run.opG wantS_none (ex_extract rfl rfl) rfl ?_
  refine Run.opX wantS_none rfl (ExG.new (v := fun b => .ptr b 0) (ex_alloc zer29) hH43) ?_
  rintro _ M46 ⟨b45, rfl, hH46⟩
  refine Run.opX wantS_none rfl (ExG.storeC (c' := [(.str r41.1.Event), (.int .i64 r41.1.Version), (.int .i64 r41.1.Time), (.int .i64 r41.1.Chance.N), (.int .i64 r41.1.Chance.Of), (.int .i64 r41.1.Grid), s41_0, (.bool r41.1.Withdrawn), (.int .i64 r41.1.Before)]) rfl rfl rfl hH46 (i := 0) rfl sz29 rfl rfl rfl (ones_cons rfl (ones_cons rfl (ones_cons rfl (ones_cons rfl (ones_cons rfl (ones_cons rfl (ones_cons (vec_one hH46 (i := 1) rfl) (ones_cons rfl (ones_cons rfl ones_nil))))))))) rfl) ?_
  rintro _ M47 ⟨rfl, (hH47 : Has (ro (frozen M)) M47 [.obj b45 (.row 29 .whole [(.str r41.1.Event), (.int .i64 r41.1.Version), (.int .i64 r41.1.Time), (.int .i64 r41.1.Chance.N), (.int .i64 r41.1.Chance.Of), (.int .i64 r41.1.Grid), s41_0, (.bool r41.1.Withdrawn), (.int .i64 r41.1.Before)]), .vec 3 1 r41.1.Cells.length s41_0 (r41.1.Cells.flatMap enc3), .obj b36 (.row 29 .whole [(.str r32.1.Event), (.int .i64 r32.1.Version), (.int .i64 r32.1.Time), (.int .i64 r32.1.Chance.N), (.int .i64 r32.1.Chance.Of), (.int .i64 r32.1.Grid), s32_0, (.bool r32.1.Withdrawn), (.int .i64 r32.1.Before)]), .vec 3 1 r32.1.Cells.length s32_0 (r32.1.Cells.flatMap enc3), .obj b28 (.row 55 .whole [(.str a1.Event), (.int .i64 a1.Time), (.int .i64 a1.C.Pair.A), (.int .i64 a1.C.Pair.B), (.int .i64 a1.C.Pair.Loud), (.int .i64 a1.C.Chance.N), (.int .i64 a1.C.Chance.Of), (.int .i64 a1.Limit), (.int .i64 a1.Grid), s1]), .obj b25 (.row 29 .whole [(.str a0.Event), (.int .i64 a0.Version), (.int .i64 a0.Time), (.int .i64 a0.Chance.N), (.int .i64 a0.Chance.Of), (.int .i64 a0.Grid), s0, (.bool a0.Withdrawn), (.int .i64 a0.Before)]), tb0, tb1, tb2])⟩
  refine Run.opG wantS_none (ex_assign rfl) rfl ?_
  refine Run.opsEnd (Run.seq (Run.seq (Run.region ?_)))
  refine Run.opG wantS_none (ex_loadA rfl (hH47.cells (i := 2) rfl 0 rfl) rdLe_rfl agg29 rfl rfl rfl) rfl ?_
  refine Run.opG wantS_none (ex_loadA rfl (hH47.cells (i := 0) rfl 0 rfl) rdLe_rfl agg29 rfl rfl rfl) rfl ?_
  obtain ⟨r49, hr49, h⟩ := bnd_some h
  refine Run.callP wantS_none (ex_call rfl mkk21 cal21) rfl (law10_same_ok F r32.1 r41.1 s32_0 s41_0 _ _ (hH47.slc (i := 3) rfl enc3_len) (hH47.slc (i := 1) rfl enc3_len) hr49) ?_
  refine Run.opG wantS_none (ex_not rfl) rfl ?_
  refine Run.opG wantS_none (ex_move rfl) rfl ?_
  rcases btf ((!r49)) with hc51 | hc51
  · have h := bif_t hc51 h
    refine Run.no (wantS_not' rfl rfl hc51) rfl ?_
    refine Run.no (wantS_not' rfl rfl hc51) rfl ?_
    refine Run.no (wantS_not' rfl rfl hc51) rfl ?_
    refine Run.opG wantS_none (ex_pickT' rfl hc51 rfl rfl) rfl ?_
    refine Run.opsEnd ?_
    exact Run.pick [2, 3, 5, 7, 51] (law10_AlertDrafts_1_ok F true a0.Event a0.Version a0.Time a0.Chance.N a0.Chance.Of a0.Grid a0.Cells a0.Withdrawn a0.Before a1.Event a1.Time a1.C.Pair.A a1.C.Pair.B a1.C.Pair.Loud a1.C.Chance.N a1.C.Chance.Of a1.Limit a1.Grid a1.Cells r32.1.Event r32.1.Version r32.1.Time r32.1.Chance.N r32.1.Chance.Of r32.1.Grid r32.1.Withdrawn r32.1.Before r41.1.Event r41.1.Version r41.1.Time r41.1.Chance.N r41.1.Chance.Of r41.1.Grid r41.1.Withdrawn r41.1.Before r32.1.Cells r41.1.Cells s0 s1 b25 b28 b36 s32_0 b45 s41_0 _ _ _ hs0 hs1 (hH47.pick [5, 4, 2, 3, 0, 1, 6, 7, 8] rfl rfl) h)
  · have h := bif_f hc51 h
    refine Run.opG (wantS_yes' rfl rfl hc51) (ex_move rfl) rfl ?_
    refine Run.opG (wantS_yes' rfl rfl hc51) (ex_move rfl) rfl ?_
    refine Run.opG (wantS_yes' rfl rfl hc51) (ex_neq rfl rfl) rfl ?_
    refine Run.opG wantS_none (ex_pickF' rfl hc51 rfl rfl) rfl ?_
    refine Run.opsEnd ?_
    exact Run.pick [2, 3, 5, 7, 51] (law10_AlertDrafts_1_ok F (!(r32.2 == r41.2)) a0.Event a0.Version a0.Time a0.Chance.N a0.Chance.Of a0.Grid a0.Cells a0.Withdrawn a0.Before a1.Event a1.Time a1.C.Pair.A a1.C.Pair.B a1.C.Pair.Loud a1.C.Chance.N a1.C.Chance.Of a1.Limit a1.Grid a1.Cells r32.1.Event r32.1.Version r32.1.Time r32.1.Chance.N r32.1.Chance.Of r32.1.Grid r32.1.Withdrawn r32.1.Before r41.1.Event r41.1.Version r41.1.Time r41.1.Chance.N r41.1.Chance.Of r41.1.Grid r41.1.Withdrawn r41.1.Before r32.1.Cells r41.1.Cells s0 s1 b25 b28 b36 s32_0 b45 s41_0 _ _ _ hs0 hs1 (hH47.pick [5, 4, 2, 3, 0, 1, 6, 7, 8] rfl rfl) h)

end Go.Ev.AlertDrafts
