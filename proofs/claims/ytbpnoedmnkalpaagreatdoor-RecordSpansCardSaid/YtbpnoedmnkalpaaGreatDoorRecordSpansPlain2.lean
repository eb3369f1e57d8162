/- Plain functions that say what functions of the program come to, and proofs of it, written by a program of the verifier's own. -/
import Derived.Test.YtbpnoedmnkalpaaGreatDoorRecordSpansPlain
namespace Go.Ev.RecordSpans
open Go Go.Ev Go.Proofs
set_option maxRecDepth 100000
set_option linter.unusedVariables false

abbrev ref00_Find_post (r : Int) : SV → Mem → Prop := fun s _ => s = (.int .i64 r)

def ref00_Find_1 (F : Nat) : Nat → (List Int) → Int → Int → Option (Int)
  | 0, _, _, _ => none
  | N + 1, v0, v1, v5 =>
    bif (decide (v5 < (v0.length : Int))) then
      bnd (idx v0 v5) fun x23 =>
      bif (x23 == v1) then
        some v5
      else
        (ref00_Find_1 F N) v0 v1 (w64 (v5 + (1 : Int)))
    else
      some ((-1) : Int)

theorem ref00_Find_1_ok (F : Nat) : ∀ (N : Nat), ∀ (v0 : (List Int)) (v1 v5 : Int) (sv0 : SV) (Fr : Rd) (M : Mem) (r : Int) (hv0 : Slc Fr 1 (FlatR enc3) sv0 v0) (hH : Has Fr M []), ref00_Find_1 F N v0 v1 v5 = some r → Run Tryz.prog ⟨⟨143, [], none⟩, []⟩ 19 (ref00_Find_post r) [(0, sv0), (1, (.int .i64 v1)), (5, (.int .i64 v5))] [codeC Tryz.prog 143 [1, 0, 1, 0, 0], loopC Tryz.prog 143 [1, 0, 1, 0, 0], .inBlock 0, codeC Tryz.prog 143 [1, 1]] M := by
  intro N
  induction N with
  | zero =>
    intro v0 v1 v5 sv0 Fr M r hv0 hH h
    simp [ref00_Find_1] at h
  | succ N ih =>
    intro v0 v1 v5 sv0 Fr M r hv0 hH h
    rw [ref00_Find_1] at h
    refine Run.seq (Run.seq (Run.region ?_))
    refine Run.opG wantS_none (ex_move rfl) rfl ?_
    refine Run.opG wantS_none (ex_move rfl) rfl ?_
    refine Run.opG wantS_none (ex_len' rfl hv0 lenk26) rfl ?_
    refine Run.opG wantS_none (ex_lss rfl rfl) rfl ?_
    refine Run.opsEnd ?_
    rcases btf ((decide (v5 < (v0.length : Int)))) with hc21 | hc21
    · have h := bif_t hc21 h
      refine Run.condT' rfl hc21 ?_
      refine Run.skip (Run.seq (Run.block (Run.seq (Run.region ?_))))
      refine Run.opG wantS_none (ex_move rfl) rfl ?_
      refine Run.opG wantS_none (ex_move rfl) rfl ?_
      obtain ⟨x23, hx23, h⟩ := bnd_some h
      obtain ⟨p23, o23, _, hx23, hp23, rfl⟩ := sl_elem (P := Tryz.prog) (t := 26) (kk := .i64) hv0 hx23 els26
      refine Run.opG wantS_none (ex_elX rfl rfl hx23) rfl ?_
      refine Run.opG wantS_none (ex_load1 rfl (hH.ptrF hp23) rdLe_rfl agg3) rfl ?_
      refine Run.opG wantS_none (ex_move rfl) rfl ?_
      refine Run.opG wantS_none (ex_eql rfl rfl) rfl ?_
      refine Run.opsEnd ?_
      rcases btf ((x23 == v1)) with hc24 | hc24
      · have h := bif_t hc24 h
        refine Run.condT' rfl hc24 ?_
        refine Run.seq (Run.region ?_)
        refine Run.opG wantS_none (ex_move rfl) rfl ?_
        refine Run.opG wantS_none (ex_assign rfl) rfl ?_
        refine Run.opsEnd ?_
        cases h
        exact Run.ret Tryz.func143 rfl (res_tmp rfl res_nil) rfl
      · have h := bif_f hc24 h
        refine Run.condF' rfl hc24 ?_
        refine Run.skip (Run.inBlock (Run.region ?_))
        refine Run.opG wantS_none (ex_move rfl) rfl ?_
        refine Run.opG wantS_none (ex_add rfl rfl) rfl ?_
        refine Run.opG wantS_none (ex_assign rfl) rfl ?_
        refine Run.opsEnd (Run.inLoop ?_)
        exact Run.pick [0, 1, 5] (ih v0 v1 (w64 (v5 + (1 : Int))) sv0 _ _ _ hv0 hH h)
    · have h := bif_f hc21 h
      refine Run.condF' rfl hc21 ?_
      refine Run.exit rfl (Run.seq (Run.region ?_))
      refine Run.opG wantS_none (ex_assign rfl) rfl ?_
      refine Run.opsEnd ?_
      cases h
      exact Run.ret Tryz.func143 rfl (res_tmp rfl res_nil) rfl

def ref00_Find (F : Nat) (a0 : (List Int)) (a1 : Int) : Option (Int) :=
  ref00_Find_1 F F a0 a1 (0 : Int)

theorem ref00_Find_ok (F : Nat) (a0 : (List Int)) (a1 : Int) (s0 : SV) (r : Int) (M : Mem) (hs0 : Slc (rd M) 1 (FlatR enc3) s0 a0) (h : ref00_Find F a0 a1 = some r) : CallsM Tryz.prog 143 [s0, (.int .i64 a1)] M (fun s M' => s = (.int .i64 r) ∧ M' = M) := by
  refine CallsM.plain Tryz.func143 rfl rfl rfl (show Run _ _ _ (ref00_Find_post r) _ _ _ from ?_)
  rw [ref00_Find] at h
  replace hs0 := hs0.mono (rdLe_frozen M) (fun _ _ h => h)
  have hH := Has.nil (frozen M)
  refine Run.seq (Run.region ?_)
  refine Run.opG wantS_none (ex_assign rfl) rfl ?_
  refine Run.opsEnd (Run.seq (Run.seq (Run.region ?_)))
  refine Run.opG wantS_none (ex_assign rfl) rfl ?_
  refine Run.opsEnd (Run.block (Run.loop ?_))
  exact Run.pick [0, 1, 5] (ref00_Find_1_ok F F a0 a1 (0 : Int) s0 _ _ _ hs0 hH h)

theorem mkk143 : makeK Tryz.prog 143 = none := by kernel_rfl
theorem cal143 : callable Tryz.prog 143 = true := by kernel_rfl
theorem plan117_1_1_0_1_0_0_1_0_0_1_1_1_0_0_1_0_0 : planOf Tryz.prog (opsC (atC Tryz.prog 117 [1, 1, 0, 1, 0, 0, 1, 0, 0, 1, 1, 1, 0, 0, 1, 0, 0])) = some [.fl 0, .fl 1, .fl 2, .fl 3, .fl 4, .fl 5, .fl 6, .fl 7, .fl 8, .fl 9, .fl 10, .an 11 [], .sync] := by kernel_rfl
abbrev ref05_CheckBook_post (r : Int) : SV → Mem → Prop := fun s _ => s = (.int .i64 r)

def ref05_CheckBook_6 (F : Nat) (hd5 : (List S_api_Channel) → Bool → Int → Int → S_api_Channel → Option (Int)) (v0 : (List S_api_Channel)) (v3 : Bool) (v4 v6 : Int) (c28 : S_api_Channel) : Option (Int) :=
  hd5 v0 v3 v4 (w64 (v6 + (1 : Int))) c28

theorem ref05_CheckBook_6_ok (F : Nat) (hd5 : (List S_api_Channel) → Bool → Int → Int → S_api_Channel → Option (Int)) (hhd5 : ∀ (v0 : (List S_api_Channel)) (v3 : Bool) (v4 v6 : Int) (c28 : S_api_Channel) (sv0 : SV) (b28 : Pos) (Fr : Rd) (M : Mem) (r : Int) (hv0 : Slc Fr 3 (FlatR enc86) sv0 v0) (hH : Has Fr M [.obj b28 (.row 86 .whole [(.str c28.Name), (.int .i64 c28.Rate), (.int .i64 c28.Bits)])]), hd5 v0 v3 v4 v6 c28 = some r → Run Tryz.prog ⟨⟨117, [], none⟩, []⟩ 56 (ref05_CheckBook_post r) [(0, sv0), (3, (.bool v3)), (4, (.int .i64 v4)), (5, (.ptr b28 0)), (6, (.int .i64 v6))] [codeC Tryz.prog 117 [1, 1, 0, 1, 0, 0, 1, 0, 0, 1, 1, 1, 0, 0], loopC Tryz.prog 117 [1, 1, 0, 1, 0, 0, 1, 0, 0, 1, 1, 1, 0, 0], .inBlock 2, .inBlock 1, codeC Tryz.prog 117 [1, 1, 0, 1, 0, 0, 1, 1], loopC Tryz.prog 117 [1, 1, 0, 1, 0, 0], .inBlock 0, codeC Tryz.prog 117 [1, 1, 1]] M) : ∀ (v0 : (List S_api_Channel)) (v3 : Bool) (v4 v6 : Int) (c28 : S_api_Channel) (sv0 : SV) (b28 : Pos) (Fr : Rd) (M : Mem) (r : Int) (hv0 : Slc Fr 3 (FlatR enc86) sv0 v0) (hH : Has Fr M [.obj b28 (.row 86 .whole [(.str c28.Name), (.int .i64 c28.Rate), (.int .i64 c28.Bits)])]), ref05_CheckBook_6 F hd5 v0 v3 v4 v6 c28 = some r → Run Tryz.prog ⟨⟨117, [], none⟩, []⟩ 56 (ref05_CheckBook_post r) [(0, sv0), (3, (.bool v3)), (4, (.int .i64 v4)), (5, (.ptr b28 0)), (6, (.int .i64 v6))] [itemC Tryz.prog 117 [1, 1, 0, 1, 0, 0, 1, 0, 0, 1, 1, 1, 0, 0, 1, 1] 0, loopC Tryz.prog 117 [1, 1, 0, 1, 0, 0, 1, 0, 0, 1, 1, 1, 0, 0], .inBlock 2, .inBlock 1, codeC Tryz.prog 117 [1, 1, 0, 1, 0, 0, 1, 1], loopC Tryz.prog 117 [1, 1, 0, 1, 0, 0], .inBlock 0, codeC Tryz.prog 117 [1, 1, 1]] M := by
  intro v0 v3 v4 v6 c28 sv0 b28 Fr M r hv0 hH h
  rw [ref05_CheckBook_6] at h
  refine Run.opG wantS_none (ex_move rfl) rfl ?_
  refine Run.opG wantS_none (ex_add rfl rfl) rfl ?_
  refine Run.opG wantS_none (ex_assign rfl) rfl ?_
  refine Run.opsEnd (Run.inLoop ?_)
  exact Run.pick [0, 3, 4, 5, 6] (hhd5 v0 v3 v4 (w64 (v6 + (1 : Int))) c28 sv0 b28 _ _ _ hv0 hH h)

def ref05_CheckBook_5 (F : Nat) (hd1 : (List S_api_Channel) → Bool → Int → Option (Int)) : Nat → (List S_api_Channel) → Bool → Int → Int → S_api_Channel → Option (Int)
  | 0, _, _, _, _, _ => none
  | N + 1, v0, v3, v4, v6, c28 =>
    bif (decide (v6 < v4)) then
      bif v3 then
        bnd (idx v0 v6) fun x48 =>
        ref05_CheckBook_6 F (ref05_CheckBook_5 F hd1 N) v0 (!(x48.Name == c28.Name)) v4 v6 c28
      else
        ref05_CheckBook_6 F (ref05_CheckBook_5 F hd1 N) v0 false v4 v6 c28
    else
      hd1 v0 v3 (w64 (v4 + (1 : Int)))

theorem ref05_CheckBook_5_ok (F : Nat) (hd1 : (List S_api_Channel) → Bool → Int → Option (Int)) (hhd1 : ∀ (v0 : (List S_api_Channel)) (v3 : Bool) (v4 : Int) (sv0 : SV) (Fr : Rd) (M : Mem) (r : Int) (hv0 : Slc Fr 3 (FlatR enc86) sv0 v0) (hH : Has Fr M []), hd1 v0 v3 v4 = some r → Run Tryz.prog ⟨⟨117, [], none⟩, []⟩ 56 (ref05_CheckBook_post r) [(0, sv0), (3, (.bool v3)), (4, (.int .i64 v4))] [codeC Tryz.prog 117 [1, 1, 0, 1, 0, 0], loopC Tryz.prog 117 [1, 1, 0, 1, 0, 0], .inBlock 0, codeC Tryz.prog 117 [1, 1, 1]] M) : ∀ (N : Nat), ∀ (v0 : (List S_api_Channel)) (v3 : Bool) (v4 v6 : Int) (c28 : S_api_Channel) (sv0 : SV) (b28 : Pos) (Fr : Rd) (M : Mem) (r : Int) (hv0 : Slc Fr 3 (FlatR enc86) sv0 v0) (hH : Has Fr M [.obj b28 (.row 86 .whole [(.str c28.Name), (.int .i64 c28.Rate), (.int .i64 c28.Bits)])]), ref05_CheckBook_5 F hd1 N v0 v3 v4 v6 c28 = some r → Run Tryz.prog ⟨⟨117, [], none⟩, []⟩ 56 (ref05_CheckBook_post r) [(0, sv0), (3, (.bool v3)), (4, (.int .i64 v4)), (5, (.ptr b28 0)), (6, (.int .i64 v6))] [codeC Tryz.prog 117 [1, 1, 0, 1, 0, 0, 1, 0, 0, 1, 1, 1, 0, 0], loopC Tryz.prog 117 [1, 1, 0, 1, 0, 0, 1, 0, 0, 1, 1, 1, 0, 0], .inBlock 2, .inBlock 1, codeC Tryz.prog 117 [1, 1, 0, 1, 0, 0, 1, 1], loopC Tryz.prog 117 [1, 1, 0, 1, 0, 0], .inBlock 0, codeC Tryz.prog 117 [1, 1, 1]] M := by
  intro N
  induction N with
  | zero =>
    intro v0 v3 v4 v6 c28 sv0 b28 Fr M r hv0 hH h
    simp [ref05_CheckBook_5] at h
  | succ N ih =>
    intro v0 v3 v4 v6 c28 sv0 b28 Fr M r hv0 hH h
    rw [ref05_CheckBook_5] at h
    refine Run.seq (Run.seq (Run.region ?_))
    refine Run.opG wantS_none (ex_move rfl) rfl ?_
    refine Run.opG wantS_none (ex_move rfl) rfl ?_
    refine Run.opG wantS_none (ex_lss rfl rfl) rfl ?_
    refine Run.opsEnd ?_
    rcases btf ((decide (v6 < v4))) with hc46 | hc46
    · have h := bif_t hc46 h
      refine Run.condT' rfl hc46 ?_
      refine Run.skip (Run.seq (Run.block ?_))
      refine Run.drawG plan117_1_1_0_1_0_0_1_0_0_1_1_1_0_0_1_0_0 ?_
      refine DrawG.fl rfl (ev_ex wantS_none (ex_move rfl)) rfl ?_
      refine DrawG.fl rfl (ev_ex wantS_none (ex_move rfl)) rfl ?_
      rcases btf (v3) with hc47 | hc47
      · have h := bif_t hc47 h
        refine DrawG.fl rfl (ev_ex (wantS_yes' rfl rfl hc47) (ex_move rfl)) rfl ?_
        refine DrawG.fl rfl (ev_ex (wantS_yes' rfl rfl hc47) (ex_move rfl)) rfl ?_
        obtain ⟨x48, hx48, h⟩ := bnd_some h
        obtain ⟨p48, o48, _, hx48, hp48, rfl⟩ := sl_elem (P := Tryz.prog) (t := 67) (kk := .i64) hv0 hx48 els67
        refine DrawG.fl rfl (ev_ex (wantS_yes' rfl rfl hc47) (ex_elX rfl rfl hx48)) rfl ?_
        have hp49 := (hp48.fld (o := 0) rfl)
        refine DrawG.fl rfl (ev_ex (wantS_yes' rfl rfl hc47) (ex_fieldAddr rfl off86_0)) rfl ?_
        refine DrawG.fl rfl (ev_ex (wantS_yes' rfl rfl hc47) (ex_load1 rfl (hH.ptrF hp49) rdLe_rfl agg9)) rfl ?_
        refine DrawG.fl rfl (ev_ex (wantS_yes' rfl rfl hc47) (ex_fieldAddr rfl off86_0)) rfl ?_
        refine DrawG.fl rfl (ev_ex (wantS_yes' rfl rfl hc47) (ex_load1 rfl (hH.cells (i := 0) rfl 0 rfl) rdLe_rfl agg9)) rfl ?_
        refine DrawG.fl rfl (ev_ex (wantS_yes' rfl rfl hc47) (ex_neqS rfl rfl)) rfl ?_
        refine DrawG.fl rfl (ev_ex wantS_none (ex_pickT' rfl hc47 rfl rfl)) rfl ?_
        refine DrawG.val rfl wantS_none (ex_assign rfl) rfl st_nil ?_
        refine DrawG.sync ?_
        refine DrawG.nil ?_
        refine Run.inBlock (Run.region ?_)
        exact Run.pick [0, 3, 4, 5, 6] (ref05_CheckBook_6_ok F (ref05_CheckBook_5 F hd1 N) ih v0 (!(x48.Name == c28.Name)) v4 v6 c28 sv0 b28 _ _ _ hv0 hH h)
      · have h := bif_f hc47 h
        refine DrawG.fl rfl (ev_no (wantS_not' rfl rfl hc47)) rfl ?_
        refine DrawG.fl rfl (ev_no (wantS_not' rfl rfl hc47)) rfl ?_
        refine DrawG.fl rfl (ev_no (wantS_not' rfl rfl hc47)) rfl ?_
        refine DrawG.fl rfl (ev_no (wantS_not' rfl rfl hc47)) rfl ?_
        refine DrawG.fl rfl (ev_no (wantS_not' rfl rfl hc47)) rfl ?_
        refine DrawG.fl rfl (ev_no (wantS_not' rfl rfl hc47)) rfl ?_
        refine DrawG.fl rfl (ev_no (wantS_not' rfl rfl hc47)) rfl ?_
        refine DrawG.fl rfl (ev_no (wantS_not' rfl rfl hc47)) rfl ?_
        refine DrawG.fl rfl (ev_ex wantS_none (ex_pickF' rfl hc47 rfl rfl)) rfl ?_
        refine DrawG.val rfl wantS_none (ex_assign rfl) rfl st_nil ?_
        refine DrawG.sync ?_
        refine DrawG.nil ?_
        refine Run.inBlock (Run.region ?_)
        exact Run.pick [0, 3, 4, 5, 6] (ref05_CheckBook_6_ok F (ref05_CheckBook_5 F hd1 N) ih v0 false v4 v6 c28 sv0 b28 _ _ _ hv0 hH h)
    · have h := bif_f hc46 h
      refine Run.condF' rfl hc46 ?_
      refine Run.exit rfl (Run.inBlock (Run.region ?_))
      refine Run.opG wantS_none (ex_move rfl) rfl ?_
      refine Run.opG wantS_none (ex_add rfl rfl) rfl ?_
      refine Run.opG wantS_none (ex_assign rfl) rfl ?_
      refine Run.opsEnd (Run.inLoop ?_)
      exact Run.pick [0, 3, 4] (hhd1 v0 v3 (w64 (v4 + (1 : Int))) sv0 _ _ _ hv0 (hH.pick [] rfl rfl) h)

def ref05_CheckBook_4 (F : Nat) (hd1 : (List S_api_Channel) → Bool → Int → Option (Int)) (v0 : (List S_api_Channel)) (v4 : Int) (v37 : Bool) (c28 : S_api_Channel) : Option (Int) :=
  ref05_CheckBook_5 F hd1 F v0 v37 v4 (0 : Int) c28

theorem ref05_CheckBook_4_ok (F : Nat) (hd1 : (List S_api_Channel) → Bool → Int → Option (Int)) (hhd1 : ∀ (v0 : (List S_api_Channel)) (v3 : Bool) (v4 : Int) (sv0 : SV) (Fr : Rd) (M : Mem) (r : Int) (hv0 : Slc Fr 3 (FlatR enc86) sv0 v0) (hH : Has Fr M []), hd1 v0 v3 v4 = some r → Run Tryz.prog ⟨⟨117, [], none⟩, []⟩ 56 (ref05_CheckBook_post r) [(0, sv0), (3, (.bool v3)), (4, (.int .i64 v4))] [codeC Tryz.prog 117 [1, 1, 0, 1, 0, 0], loopC Tryz.prog 117 [1, 1, 0, 1, 0, 0], .inBlock 0, codeC Tryz.prog 117 [1, 1, 1]] M) : ∀ (v0 : (List S_api_Channel)) (v4 : Int) (v37 : Bool) (c28 : S_api_Channel) (sv0 : SV) (b28 : Pos) (Fr : Rd) (M : Mem) (r : Int) (hv0 : Slc Fr 3 (FlatR enc86) sv0 v0) (hH : Has Fr M [.obj b28 (.row 86 .whole [(.str c28.Name), (.int .i64 c28.Rate), (.int .i64 c28.Bits)])]), ref05_CheckBook_4 F hd1 v0 v4 v37 c28 = some r → Run Tryz.prog ⟨⟨117, [], none⟩, []⟩ 56 (ref05_CheckBook_post r) [(0, sv0), (4, (.int .i64 v4)), (5, (.ptr b28 0)), (37, (.bool v37))] [itemC Tryz.prog 117 [1, 1, 0, 1, 0, 0, 1, 0, 0, 1, 0] 18, codeC Tryz.prog 117 [1, 1, 0, 1, 0, 0, 1, 0, 0, 1, 1], .inBlock 1, codeC Tryz.prog 117 [1, 1, 0, 1, 0, 0, 1, 1], loopC Tryz.prog 117 [1, 1, 0, 1, 0, 0], .inBlock 0, codeC Tryz.prog 117 [1, 1, 1]] M := by
  intro v0 v4 v37 c28 sv0 b28 Fr M r hv0 hH h
  rw [ref05_CheckBook_4] at h
  refine Run.opG wantS_none (ex_assign rfl) rfl ?_
  refine Run.opsEnd (Run.seq (Run.region ?_))
  refine Run.opG wantS_none (ex_assign rfl) rfl ?_
  refine Run.opsEnd (Run.block (Run.loop ?_))
  exact Run.pick [0, 3, 4, 5, 6] (ref05_CheckBook_5_ok F hd1 hhd1 F v0 v37 v4 (0 : Int) c28 sv0 b28 _ _ _ hv0 hH h)

def ref05_CheckBook_3 (F : Nat) (hd1 : (List S_api_Channel) → Bool → Int → Option (Int)) (v0 : (List S_api_Channel)) (v4 : Int) (v30 : Bool) (c28 : S_api_Channel) : Option (Int) :=
  bif v30 then
    bnd (ref00_Find F ([1, 2, 4, 8, 16, 32, 64] : List Int) c28.Rate) fun r44 =>
    ref05_CheckBook_4 F hd1 v0 v4 (decide ((0 : Int) ≤ r44)) c28
  else
    ref05_CheckBook_4 F hd1 v0 v4 false c28

theorem ref05_CheckBook_3_ok (F : Nat) (hd1 : (List S_api_Channel) → Bool → Int → Option (Int)) (hhd1 : ∀ (v0 : (List S_api_Channel)) (v3 : Bool) (v4 : Int) (sv0 : SV) (Fr : Rd) (M : Mem) (r : Int) (hv0 : Slc Fr 3 (FlatR enc86) sv0 v0) (hH : Has Fr M []), hd1 v0 v3 v4 = some r → Run Tryz.prog ⟨⟨117, [], none⟩, []⟩ 56 (ref05_CheckBook_post r) [(0, sv0), (3, (.bool v3)), (4, (.int .i64 v4))] [codeC Tryz.prog 117 [1, 1, 0, 1, 0, 0], loopC Tryz.prog 117 [1, 1, 0, 1, 0, 0], .inBlock 0, codeC Tryz.prog 117 [1, 1, 1]] M) : ∀ (v0 : (List S_api_Channel)) (v4 : Int) (v30 : Bool) (c28 : S_api_Channel) (sv0 : SV) (b28 : Pos) (Fr : Rd) (M : Mem) (r : Int) (hv0 : Slc Fr 3 (FlatR enc86) sv0 v0) (hH : Has Fr M [.obj b28 (.row 86 .whole [(.str c28.Name), (.int .i64 c28.Rate), (.int .i64 c28.Bits)])]), ref05_CheckBook_3 F hd1 v0 v4 v30 c28 = some r → Run Tryz.prog ⟨⟨117, [], none⟩, []⟩ 56 (ref05_CheckBook_post r) [(0, sv0), (4, (.int .i64 v4)), (5, (.ptr b28 0)), (30, (.bool v30))] [itemC Tryz.prog 117 [1, 1, 0, 1, 0, 0, 1, 0, 0, 1, 0] 11, codeC Tryz.prog 117 [1, 1, 0, 1, 0, 0, 1, 0, 0, 1, 1], .inBlock 1, codeC Tryz.prog 117 [1, 1, 0, 1, 0, 0, 1, 1], loopC Tryz.prog 117 [1, 1, 0, 1, 0, 0], .inBlock 0, codeC Tryz.prog 117 [1, 1, 1]] M := by
  intro v0 v4 v30 c28 sv0 b28 Fr M r hv0 hH h
  rw [ref05_CheckBook_3] at h
  refine Run.opG wantS_none (ex_move rfl) rfl ?_
  rcases btf (v30) with hc39 | hc39
  · have h := bif_t hc39 h
    refine Run.opX (wantS_yes' rfl rfl hc39) rfl (ExG.built (enc := enc3) (l := ([1, 2, 4, 8, 16, 32, 64] : List Int)) (z := 1) rfl elt26 rfl rfl rfl enc3_len hH) ?_
    rintro s41 M42 (hH42 : Has Fr M42 [.vec 3 1 ([1, 2, 4, 8, 16, 32, 64] : List Int).length s41 (([1, 2, 4, 8, 16, 32, 64] : List Int).flatMap enc3), .obj b28 (.row 86 .whole [(.str c28.Name), (.int .i64 c28.Rate), (.int .i64 c28.Bits)])])
    refine Run.opG (wantS_yes' rfl rfl hc39) (ex_fieldAddr rfl off86_1) rfl ?_
    refine Run.opG (wantS_yes' rfl rfl hc39) (ex_load1 rfl (hH42.cells (i := 1) rfl 1 rfl) rdLe_rfl agg3) rfl ?_
    obtain ⟨r44, hr44, h⟩ := bnd_some h
    refine Run.callP (wantS_yes' rfl rfl hc39) (ex_call rfl mkk143 cal143) rfl (ref00_Find_ok F ([1, 2, 4, 8, 16, 32, 64] : List Int) c28.Rate s41 _ _ (hH42.slc (i := 0) rfl enc3_len) hr44) ?_
    refine Run.opG (wantS_yes' rfl rfl hc39) (ex_geq rfl rfl) rfl ?_
    refine Run.opG wantS_none (ex_pickT' rfl hc39 rfl rfl) rfl ?_
    exact Run.pick [0, 4, 5, 37] (ref05_CheckBook_4_ok F hd1 hhd1 v0 v4 (decide ((0 : Int) ≤ r44)) c28 sv0 b28 _ _ _ hv0 (hH42.pick [1] rfl rfl) h)
  · have h := bif_f hc39 h
    refine Run.no (wantS_not' rfl rfl hc39) rfl ?_
    refine Run.no (wantS_not' rfl rfl hc39) rfl ?_
    refine Run.no (wantS_not' rfl rfl hc39) rfl ?_
    refine Run.no (wantS_not' rfl rfl hc39) rfl ?_
    refine Run.no (wantS_not' rfl rfl hc39) rfl ?_
    refine Run.opG wantS_none (ex_pickF' rfl hc39 rfl rfl) rfl ?_
    exact Run.pick [0, 4, 5, 37] (ref05_CheckBook_4_ok F hd1 hhd1 v0 v4 false c28 sv0 b28 _ _ _ hv0 hH h)

def ref05_CheckBook_2 (F : Nat) (hd1 : (List S_api_Channel) → Bool → Int → Option (Int)) (v0 : (List S_api_Channel)) (v4 : Int) (v25 : Bool) (c28 : S_api_Channel) : Option (Int) :=
  bif v25 then
    bnd (ref00_In F c28.Bits (2 : Int) (24 : Int)) fun r37 =>
    ref05_CheckBook_3 F hd1 v0 v4 r37 c28
  else
    ref05_CheckBook_3 F hd1 v0 v4 false c28

theorem ref05_CheckBook_2_ok (F : Nat) (hd1 : (List S_api_Channel) → Bool → Int → Option (Int)) (hhd1 : ∀ (v0 : (List S_api_Channel)) (v3 : Bool) (v4 : Int) (sv0 : SV) (Fr : Rd) (M : Mem) (r : Int) (hv0 : Slc Fr 3 (FlatR enc86) sv0 v0) (hH : Has Fr M []), hd1 v0 v3 v4 = some r → Run Tryz.prog ⟨⟨117, [], none⟩, []⟩ 56 (ref05_CheckBook_post r) [(0, sv0), (3, (.bool v3)), (4, (.int .i64 v4))] [codeC Tryz.prog 117 [1, 1, 0, 1, 0, 0], loopC Tryz.prog 117 [1, 1, 0, 1, 0, 0], .inBlock 0, codeC Tryz.prog 117 [1, 1, 1]] M) : ∀ (v0 : (List S_api_Channel)) (v4 : Int) (v25 : Bool) (c28 : S_api_Channel) (sv0 : SV) (b28 : Pos) (Fr : Rd) (M : Mem) (r : Int) (hv0 : Slc Fr 3 (FlatR enc86) sv0 v0) (hH : Has Fr M [.obj b28 (.row 86 .whole [(.str c28.Name), (.int .i64 c28.Rate), (.int .i64 c28.Bits)])]), ref05_CheckBook_2 F hd1 v0 v4 v25 c28 = some r → Run Tryz.prog ⟨⟨117, [], none⟩, []⟩ 56 (ref05_CheckBook_post r) [(0, sv0), (4, (.int .i64 v4)), (5, (.ptr b28 0)), (25, (.bool v25))] [itemC Tryz.prog 117 [1, 1, 0, 1, 0, 0, 1, 0, 0, 1, 0] 6, codeC Tryz.prog 117 [1, 1, 0, 1, 0, 0, 1, 0, 0, 1, 1], .inBlock 1, codeC Tryz.prog 117 [1, 1, 0, 1, 0, 0, 1, 1], loopC Tryz.prog 117 [1, 1, 0, 1, 0, 0], .inBlock 0, codeC Tryz.prog 117 [1, 1, 1]] M := by
  intro v0 v4 v25 c28 sv0 b28 Fr M r hv0 hH h
  rw [ref05_CheckBook_2] at h
  refine Run.opG wantS_none (ex_move rfl) rfl ?_
  rcases btf (v25) with hc35 | hc35
  · have h := bif_t hc35 h
    refine Run.opG (wantS_yes' rfl rfl hc35) (ex_fieldAddr rfl off86_2) rfl ?_
    refine Run.opG (wantS_yes' rfl rfl hc35) (ex_load1 rfl (hH.cells (i := 0) rfl 2 rfl) rdLe_rfl agg3) rfl ?_
    obtain ⟨r37, hr37, h⟩ := bnd_some h
    refine Run.callP (wantS_yes' rfl rfl hc35) (ex_call rfl mkk22 cal22) rfl (ref00_In_ok F c28.Bits (2 : Int) (24 : Int) _ _ hr37) ?_
    refine Run.opG wantS_none (ex_pickT' rfl hc35 rfl rfl) rfl ?_
    exact Run.pick [0, 4, 5, 30] (ref05_CheckBook_3_ok F hd1 hhd1 v0 v4 r37 c28 sv0 b28 _ _ _ hv0 hH h)
  · have h := bif_f hc35 h
    refine Run.no (wantS_not' rfl rfl hc35) rfl ?_
    refine Run.no (wantS_not' rfl rfl hc35) rfl ?_
    refine Run.no (wantS_not' rfl rfl hc35) rfl ?_
    refine Run.opG wantS_none (ex_pickF' rfl hc35 rfl rfl) rfl ?_
    exact Run.pick [0, 4, 5, 30] (ref05_CheckBook_3_ok F hd1 hhd1 v0 v4 false c28 sv0 b28 _ _ _ hv0 hH h)

def ref05_CheckBook_1 (F : Nat) : Nat → (List S_api_Channel) → Bool → Int → Option (Int)
  | 0, _, _, _ => none
  | N + 1, v0, v3, v4 =>
    bif (decide (v4 < (v0.length : Int))) then
      bnd (idx v0 v4) fun x26 =>
      bif v3 then
        bnd (ref01_IsName F x26.Name) fun r33 =>
        ref05_CheckBook_2 F (ref05_CheckBook_1 F N) v0 v4 r33 x26
      else
        ref05_CheckBook_2 F (ref05_CheckBook_1 F N) v0 v4 false x26
    else
      bif (!v3) then
        some (50 : Int)
      else
        some (0 : Int)

theorem ref05_CheckBook_1_ok (F : Nat) : ∀ (N : Nat), ∀ (v0 : (List S_api_Channel)) (v3 : Bool) (v4 : Int) (sv0 : SV) (Fr : Rd) (M : Mem) (r : Int) (hv0 : Slc Fr 3 (FlatR enc86) sv0 v0) (hH : Has Fr M []), ref05_CheckBook_1 F N v0 v3 v4 = some r → Run Tryz.prog ⟨⟨117, [], none⟩, []⟩ 56 (ref05_CheckBook_post r) [(0, sv0), (3, (.bool v3)), (4, (.int .i64 v4))] [codeC Tryz.prog 117 [1, 1, 0, 1, 0, 0], loopC Tryz.prog 117 [1, 1, 0, 1, 0, 0], .inBlock 0, codeC Tryz.prog 117 [1, 1, 1]] M := by
  intro N
  induction N with
  | zero =>
    intro v0 v3 v4 sv0 Fr M r hv0 hH h
    simp [ref05_CheckBook_1] at h
  | succ N ih =>
    intro v0 v3 v4 sv0 Fr M r hv0 hH h
    rw [ref05_CheckBook_1] at h
    refine Run.seq (Run.seq (Run.region ?_))
    refine Run.opG wantS_none (ex_move rfl) rfl ?_
    refine Run.opG wantS_none (ex_move rfl) rfl ?_
    refine Run.opG wantS_none (ex_len' rfl hv0 lenk67) rfl ?_
    refine Run.opG wantS_none (ex_lss rfl rfl) rfl ?_
    refine Run.opsEnd ?_
    rcases btf ((decide (v4 < (v0.length : Int)))) with hc24 | hc24
    · have h := bif_t hc24 h
      refine Run.condT' rfl hc24 ?_
      refine Run.skip (Run.seq (Run.block (Run.seq (Run.region ?_))))
      refine Run.opG wantS_none (ex_move rfl) rfl ?_
      refine Run.opG wantS_none (ex_move rfl) rfl ?_
      obtain ⟨x26, hx26, h⟩ := bnd_some h
      obtain ⟨p26, o26, _, hx26, hp26, rfl⟩ := sl_elem (P := Tryz.prog) (t := 67) (kk := .i64) hv0 hx26 els67
      refine Run.opG wantS_none (ex_elX rfl rfl hx26) rfl ?_
      refine Run.opG wantS_none (ex_loadA rfl (hH.ptrF hp26) rdLe_rfl agg86 rfl rfl rfl) rfl ?_
      refine Run.opX wantS_none rfl (ExG.new (v := fun b => .ptr b 0) (ex_alloc zer86) hH) ?_
      rintro _ M29 ⟨b28, rfl, hH29⟩
      refine Run.opX wantS_none rfl (ExG.storeC (c' := [(.str x26.Name), (.int .i64 x26.Rate), (.int .i64 x26.Bits)]) rfl rfl rfl hH29 (i := 0) rfl sz86 rfl rfl rfl rfl rfl) ?_
      rintro _ M30 ⟨rfl, (hH30 : Has Fr M30 [.obj b28 (.row 86 .whole [(.str x26.Name), (.int .i64 x26.Rate), (.int .i64 x26.Bits)])])⟩
      refine Run.opsEnd (Run.seq (Run.region ?_))
      refine Run.opG wantS_none (ex_move rfl) rfl ?_
      refine Run.opG wantS_none (ex_move rfl) rfl ?_
      rcases btf (v3) with hc31 | hc31
      · have h := bif_t hc31 h
        refine Run.opG (wantS_yes' rfl rfl hc31) (ex_fieldAddr rfl off86_0) rfl ?_
        refine Run.opG (wantS_yes' rfl rfl hc31) (ex_load1 rfl (hH30.cells (i := 0) rfl 0 rfl) rdLe_rfl agg9) rfl ?_
        obtain ⟨r33, hr33, h⟩ := bnd_some h
        refine Run.callP (wantS_yes' rfl rfl hc31) (ex_call rfl mkk142 cal142) rfl (ref01_IsName_ok F x26.Name _ _ hr33) ?_
        refine Run.opG wantS_none (ex_pickT' rfl hc31 rfl rfl) rfl ?_
        exact Run.pick [0, 4, 5, 25] (ref05_CheckBook_2_ok F (ref05_CheckBook_1 F N) ih v0 v4 r33 x26 sv0 b28 _ _ _ hv0 hH30 h)
      · have h := bif_f hc31 h
        refine Run.no (wantS_not' rfl rfl hc31) rfl ?_
        refine Run.no (wantS_not' rfl rfl hc31) rfl ?_
        refine Run.no (wantS_not' rfl rfl hc31) rfl ?_
        refine Run.opG wantS_none (ex_pickF' rfl hc31 rfl rfl) rfl ?_
        exact Run.pick [0, 4, 5, 25] (ref05_CheckBook_2_ok F (ref05_CheckBook_1 F N) ih v0 v4 false x26 sv0 b28 _ _ _ hv0 hH30 h)
    · have h := bif_f hc24 h
      refine Run.condF' rfl hc24 ?_
      refine Run.exit rfl (Run.seq (Run.seq (Run.region ?_)))
      refine Run.opG wantS_none (ex_move rfl) rfl ?_
      refine Run.opG wantS_none (ex_not rfl) rfl ?_
      refine Run.opsEnd ?_
      rcases btf ((!v3)) with hc50 | hc50
      · have h := bif_t hc50 h
        refine Run.condT' rfl hc50 ?_
        refine Run.seq (Run.region ?_)
        refine Run.opG wantS_none (ex_assign rfl) rfl ?_
        refine Run.opsEnd ?_
        cases h
        exact Run.ret Tryz.func117 rfl (res_tmp rfl res_nil) rfl
      · have h := bif_f hc50 h
        refine Run.condF' rfl hc50 ?_
        refine Run.skip (Run.seq (Run.region ?_))
        refine Run.opG wantS_none (ex_assign rfl) rfl ?_
        refine Run.opsEnd ?_
        cases h
        exact Run.ret Tryz.func117 rfl (res_tmp rfl res_nil) rfl

def ref05_CheckBook (F : Nat) (a0 : (List S_api_Channel)) : Option (Int) :=
  bnd (ref00_In F (a0.length : Int) (1 : Int) (16 : Int)) fun r22 =>
  ref05_CheckBook_1 F F a0 r22 (0 : Int)

theorem ref05_CheckBook_ok (F : Nat) (a0 : (List S_api_Channel)) (s0 : SV) (r : Int) (M : Mem) (hs0 : Slc (rd M) 3 (FlatR enc86) s0 a0) (h : ref05_CheckBook F a0 = some r) : CallsM Tryz.prog 117 [s0] M (fun s M' => s = (.int .i64 r) ∧ M' = M) := by
  refine CallsM.plain Tryz.func117 rfl rfl rfl (show Run _ _ _ (ref05_CheckBook_post r) _ _ _ from ?_)
  rw [ref05_CheckBook] at h
  replace hs0 := hs0.mono (rdLe_frozen M) (fun _ _ h => h)
  have hH := Has.nil (frozen M)
  refine Run.seq (Run.region ?_)
  refine Run.opG wantS_none (ex_assign rfl) rfl ?_
  refine Run.opsEnd (Run.seq (Run.region ?_))
  refine Run.opG wantS_none (ex_move rfl) rfl ?_
  refine Run.opG wantS_none (ex_len' rfl hs0 lenk67) rfl ?_
  obtain ⟨r22, hr22, h⟩ := bnd_some h
  refine Run.callP wantS_none (ex_call rfl mkk22 cal22) rfl (ref00_In_ok F (a0.length : Int) (1 : Int) (16 : Int) _ _ hr22) ?_
  refine Run.opG wantS_none (ex_assign rfl) rfl ?_
  refine Run.opsEnd (Run.seq (Run.seq (Run.region ?_)))
  refine Run.opG wantS_none (ex_assign rfl) rfl ?_
  refine Run.opsEnd (Run.block (Run.loop ?_))
  exact Run.pick [0, 3, 4] (ref05_CheckBook_1_ok F F a0 r22 (0 : Int) s0 _ _ _ hs0 hH h)

theorem mkk117 : makeK Tryz.prog 117 = none := by kernel_rfl
theorem cal117 : callable Tryz.prog 117 = true := by kernel_rfl
theorem plan118_1_1_0_1_0_0_1_0_0_1_0_0 : planOf Tryz.prog (opsC (atC Tryz.prog 118 [1, 1, 0, 1, 0, 0, 1, 0, 0, 1, 0, 0])) = some [.fl 0, .fl 1, .fl 2, .fl 3, .fl 4, .fl 5, .fl 6, .fl 7, .fl 8, .fl 9, .fl 10, .fl 11, .sync] := by kernel_rfl
abbrev ref05_frame_post (r : Bool) : SV → Mem → Prop := fun s _ => s = (.bool r)

def ref05_frame_3 (F : Nat) (hd2 : (List S_api_Channel) → Int → Int → (List (List Int)) → Option (Bool)) : Nat → (List S_api_Channel) → Int → Int → Int → Int → (List (List Int)) → Option (Bool)
  | 0, _, _, _, _, _, _ => none
  | N + 1, v0, v5, v6, v7, c22_0, c22_1 =>
    bnd (idx c22_1 v5) fun x41 =>
    bif (decide (v7 < (x41.length : Int))) then
      bnd (idx c22_1 v5) fun x44 =>
      bnd (idx x44 v7) fun x46 =>
      bnd (ref00_In F x46 (w64 (-v6)) (w64 (v6 - (1 : Int)))) fun r48 =>
      bif (!r48) then
        some false
      else
        (ref05_frame_3 F hd2 N) v0 v5 v6 (w64 (v7 + (1 : Int))) c22_0 c22_1
    else
      hd2 v0 (w64 (v5 + (1 : Int))) c22_0 c22_1

theorem ref05_frame_3_ok (F : Nat) (hd2 : (List S_api_Channel) → Int → Int → (List (List Int)) → Option (Bool)) (hhd2 : ∀ (v0 : (List S_api_Channel)) (v5 c22_0 : Int) (c22_1 : (List (List Int))) (sv0 sc22_1 : SV) (b22 : Pos) (Fr : Rd) (M : Mem) (r : Bool) (hv0 : Slc Fr 3 (FlatR enc86) sv0 v0) (hc22_1 : Slc Fr 1 (rep26 Fr) sc22_1 c22_1) (hH : Has Fr M [.obj b22 (.row 84 .whole [(.int .i64 c22_0), sc22_1])]), hd2 v0 v5 c22_0 c22_1 = some r → Run Tryz.prog ⟨⟨118, [], none⟩, []⟩ 69 (ref05_frame_post r) [(0, sv0), (3, (.ptr b22 0)), (5, (.int .i64 v5))] [codeC Tryz.prog 118 [1, 1, 0, 1, 0, 0], loopC Tryz.prog 118 [1, 1, 0, 1, 0, 0], .inBlock 0, codeC Tryz.prog 118 [1, 1, 1]] M) : ∀ (N : Nat), ∀ (v0 : (List S_api_Channel)) (v5 v6 v7 c22_0 : Int) (c22_1 : (List (List Int))) (sv0 sc22_1 : SV) (b22 : Pos) (Fr : Rd) (M : Mem) (r : Bool) (hv0 : Slc Fr 3 (FlatR enc86) sv0 v0) (hc22_1 : Slc Fr 1 (rep26 Fr) sc22_1 c22_1) (hH : Has Fr M [.obj b22 (.row 84 .whole [(.int .i64 c22_0), sc22_1])]), ref05_frame_3 F hd2 N v0 v5 v6 v7 c22_0 c22_1 = some r → Run Tryz.prog ⟨⟨118, [], none⟩, []⟩ 69 (ref05_frame_post r) [(0, sv0), (3, (.ptr b22 0)), (5, (.int .i64 v5)), (6, (.int .i64 v6)), (7, (.int .i64 v7))] [codeC Tryz.prog 118 [1, 1, 0, 1, 0, 0, 1, 0, 0, 1, 1, 1, 0, 0], loopC Tryz.prog 118 [1, 1, 0, 1, 0, 0, 1, 0, 0, 1, 1, 1, 0, 0], .inBlock 2, .inBlock 1, codeC Tryz.prog 118 [1, 1, 0, 1, 0, 0, 1, 1], loopC Tryz.prog 118 [1, 1, 0, 1, 0, 0], .inBlock 0, codeC Tryz.prog 118 [1, 1, 1]] M := by
  intro N
  induction N with
  | zero =>
    intro v0 v5 v6 v7 c22_0 c22_1 sv0 sc22_1 b22 Fr M r hv0 hc22_1 hH h
    simp [ref05_frame_3] at h
  | succ N ih =>
    intro v0 v5 v6 v7 c22_0 c22_1 sv0 sc22_1 b22 Fr M r hv0 hc22_1 hH h
    rw [ref05_frame_3] at h
    refine Run.seq (Run.seq (Run.region ?_))
    refine Run.opG wantS_none (ex_move rfl) rfl ?_
    refine Run.opG wantS_none (ex_fieldAddr rfl off84_1) rfl ?_
    refine Run.opG wantS_none (ex_load1 rfl (hH.cells (i := 0) rfl 1 rfl) rdLe_rfl agg82) rfl ?_
    refine Run.opG wantS_none (ex_move rfl) rfl ?_
    obtain ⟨x41, hx41, h⟩ := bnd_some h
    obtain ⟨p41, o41, _, hx41, hp41, ⟨q41_0, rfl, hq41_0⟩⟩ := sl_elem (P := Tryz.prog) (t := 82) (kk := .i64) hc22_1 hx41 els82
    refine Run.opG wantS_none (ex_elX rfl rfl hx41) rfl ?_
    refine Run.opG wantS_none (ex_load1 rfl (hH.ptrF hp41) rdLe_rfl agg26) rfl ?_
    refine Run.opG wantS_none (ex_len' rfl hq41_0 lenk26) rfl ?_
    refine Run.opG wantS_none (ex_lss rfl rfl) rfl ?_
    refine Run.opsEnd ?_
    rcases btf ((decide (v7 < (x41.length : Int)))) with hc42 | hc42
    · have h := bif_t hc42 h
      refine Run.condT' rfl hc42 ?_
      refine Run.skip (Run.seq (Run.block (Run.seq (Run.region ?_))))
      refine Run.opG wantS_none (ex_fieldAddr rfl off84_1) rfl ?_
      refine Run.opG wantS_none (ex_load1 rfl (hH.cells (i := 0) rfl 1 rfl) rdLe_rfl agg82) rfl ?_
      refine Run.opG wantS_none (ex_move rfl) rfl ?_
      obtain ⟨x44, hx44, h⟩ := bnd_some h
      obtain ⟨p44, o44, _, hx44, hp44, ⟨q44_0, rfl, hq44_0⟩⟩ := sl_elem (P := Tryz.prog) (t := 82) (kk := .i64) hc22_1 hx44 els82
      refine Run.opG wantS_none (ex_elX rfl rfl hx44) rfl ?_
      refine Run.opG wantS_none (ex_load1 rfl (hH.ptrF hp44) rdLe_rfl agg26) rfl ?_
      refine Run.opG wantS_none (ex_move rfl) rfl ?_
      obtain ⟨x46, hx46, h⟩ := bnd_some h
      obtain ⟨p46, o46, _, hx46, hp46, rfl⟩ := sl_elem (P := Tryz.prog) (t := 26) (kk := .i64) hq44_0 hx46 els26
      refine Run.opG wantS_none (ex_elX rfl rfl hx46) rfl ?_
      refine Run.opG wantS_none (ex_load1 rfl (hH.ptrF hp46) rdLe_rfl agg3) rfl ?_
      refine Run.opG wantS_none (ex_move rfl) rfl ?_
      refine Run.opG wantS_none (ex_neg rfl) rfl ?_
      refine Run.opG wantS_none (ex_move rfl) rfl ?_
      refine Run.opG wantS_none (ex_sub rfl rfl) rfl ?_
      obtain ⟨r48, hr48, h⟩ := bnd_some h
      refine Run.callP wantS_none (ex_call rfl mkk22 cal22) rfl (ref00_In_ok F x46 (w64 (-v6)) (w64 (v6 - (1 : Int))) _ _ hr48) ?_
      refine Run.opG wantS_none (ex_not rfl) rfl ?_
      refine Run.opsEnd ?_
      rcases btf ((!r48)) with hc50 | hc50
      · have h := bif_t hc50 h
        refine Run.condT' rfl hc50 ?_
        refine Run.seq (Run.region ?_)
        refine Run.opG wantS_none (ex_assign rfl) rfl ?_
        refine Run.opsEnd ?_
        cases h
        exact Run.ret Tryz.func118 rfl (res_tmp rfl res_nil) rfl
      · have h := bif_f hc50 h
        refine Run.condF' rfl hc50 ?_
        refine Run.skip (Run.inBlock (Run.region ?_))
        refine Run.opG wantS_none (ex_move rfl) rfl ?_
        refine Run.opG wantS_none (ex_add rfl rfl) rfl ?_
        refine Run.opG wantS_none (ex_assign rfl) rfl ?_
        refine Run.opsEnd (Run.inLoop ?_)
        exact Run.pick [0, 3, 5, 6, 7] (ih v0 v5 v6 (w64 (v7 + (1 : Int))) c22_0 c22_1 sv0 sc22_1 b22 _ _ _ hv0 hc22_1 hH h)
    · have h := bif_f hc42 h
      refine Run.condF' rfl hc42 ?_
      refine Run.exit rfl (Run.inBlock (Run.region ?_))
      refine Run.opG wantS_none (ex_move rfl) rfl ?_
      refine Run.opG wantS_none (ex_add rfl rfl) rfl ?_
      refine Run.opG wantS_none (ex_assign rfl) rfl ?_
      refine Run.opsEnd (Run.inLoop ?_)
      exact Run.pick [0, 3, 5] (hhd2 v0 (w64 (v5 + (1 : Int))) c22_0 c22_1 sv0 sc22_1 b22 _ _ _ hv0 hc22_1 hH h)

def ref05_frame_2 (F : Nat) : Nat → (List S_api_Channel) → Int → Int → (List (List Int)) → Option (Bool)
  | 0, _, _, _, _ => none
  | N + 1, v0, v5, c22_0, c22_1 =>
    bif (decide (v5 < (v0.length : Int))) then
      bnd (idx v0 v5) fun x31 =>
      bnd (shn (w64 (x31.Bits - (1 : Int)))) fun j35 =>
      bnd (idx c22_1 v5) fun x36 =>
      bnd (idx v0 v5) fun x37 =>
      bif (!((x36.length : Int) == x37.Rate)) then
        some false
      else
        ref05_frame_3 F (ref05_frame_2 F N) F v0 v5 (w64 ((1 : Int) * 2 ^ (min j35 (IntKind.bits .i64)))) (0 : Int) c22_0 c22_1
    else
      some true

theorem ref05_frame_2_ok (F : Nat) : ∀ (N : Nat), ∀ (v0 : (List S_api_Channel)) (v5 c22_0 : Int) (c22_1 : (List (List Int))) (sv0 sc22_1 : SV) (b22 : Pos) (Fr : Rd) (M : Mem) (r : Bool) (hv0 : Slc Fr 3 (FlatR enc86) sv0 v0) (hc22_1 : Slc Fr 1 (rep26 Fr) sc22_1 c22_1) (hH : Has Fr M [.obj b22 (.row 84 .whole [(.int .i64 c22_0), sc22_1])]), ref05_frame_2 F N v0 v5 c22_0 c22_1 = some r → Run Tryz.prog ⟨⟨118, [], none⟩, []⟩ 69 (ref05_frame_post r) [(0, sv0), (3, (.ptr b22 0)), (5, (.int .i64 v5))] [codeC Tryz.prog 118 [1, 1, 0, 1, 0, 0], loopC Tryz.prog 118 [1, 1, 0, 1, 0, 0], .inBlock 0, codeC Tryz.prog 118 [1, 1, 1]] M := by
  intro N
  induction N with
  | zero =>
    intro v0 v5 c22_0 c22_1 sv0 sc22_1 b22 Fr M r hv0 hc22_1 hH h
    simp [ref05_frame_2] at h
  | succ N ih =>
    intro v0 v5 c22_0 c22_1 sv0 sc22_1 b22 Fr M r hv0 hc22_1 hH h
    rw [ref05_frame_2] at h
    refine Run.seq (Run.seq (Run.region ?_))
    refine Run.opG wantS_none (ex_move rfl) rfl ?_
    refine Run.opG wantS_none (ex_move rfl) rfl ?_
    refine Run.opG wantS_none (ex_len' rfl hv0 lenk67) rfl ?_
    refine Run.opG wantS_none (ex_lss rfl rfl) rfl ?_
    refine Run.opsEnd ?_
    rcases btf ((decide (v5 < (v0.length : Int)))) with hc29 | hc29
    · have h := bif_t hc29 h
      refine Run.condT' rfl hc29 ?_
      refine Run.skip (Run.seq (Run.block (Run.seq (Run.region ?_))))
      refine Run.opG wantS_none (ex_move rfl) rfl ?_
      refine Run.opG wantS_none (ex_move rfl) rfl ?_
      obtain ⟨x31, hx31, h⟩ := bnd_some h
      obtain ⟨p31, o31, _, hx31, hp31, rfl⟩ := sl_elem (P := Tryz.prog) (t := 67) (kk := .i64) hv0 hx31 els67
      refine Run.opG wantS_none (ex_elX rfl rfl hx31) rfl ?_
      have hp33 := (hp31.fld (o := 2) rfl)
      refine Run.opG wantS_none (ex_fieldAddr rfl off86_2) rfl ?_
      refine Run.opG wantS_none (ex_load1 rfl (hH.ptrF hp33) rdLe_rfl agg3) rfl ?_
      refine Run.opG wantS_none (ex_sub rfl rfl) rfl ?_
      obtain ⟨j35, hj35, h⟩ := bnd_some h
      refine Run.opG wantS_none (ex_shl' rfl rfl hj35) rfl ?_
      refine Run.opG wantS_none (ex_assign rfl) rfl ?_
      refine Run.opsEnd (Run.seq (Run.seq ?_))
      refine Run.drawG plan118_1_1_0_1_0_0_1_0_0_1_0_0 ?_
      refine DrawG.fl rfl (ev_ex wantS_none (ex_fieldAddr rfl off84_1)) rfl ?_
      refine DrawG.fl rfl (ev_ex wantS_none (ex_load1 rfl (hH.cells (i := 0) rfl 1 rfl) rdLe_rfl agg82)) rfl ?_
      refine DrawG.fl rfl (ev_ex wantS_none (ex_move rfl)) rfl ?_
      obtain ⟨x36, hx36, h⟩ := bnd_some h
      obtain ⟨p36, o36, _, hx36, hp36, ⟨q36_0, rfl, hq36_0⟩⟩ := sl_elem (P := Tryz.prog) (t := 82) (kk := .i64) hc22_1 hx36 els82
      refine DrawG.fl rfl (ev_ex wantS_none (ex_elX rfl rfl hx36)) rfl ?_
      refine DrawG.fl rfl (ev_ex wantS_none (ex_load1 rfl (hH.ptrF hp36) rdLe_rfl agg26)) rfl ?_
      refine DrawG.fl rfl (ev_ex wantS_none (ex_len' rfl hq36_0 lenk26)) rfl ?_
      refine DrawG.fl rfl (ev_ex wantS_none (ex_move rfl)) rfl ?_
      refine DrawG.fl rfl (ev_ex wantS_none (ex_move rfl)) rfl ?_
      obtain ⟨x37, hx37, h⟩ := bnd_some h
      obtain ⟨p37, o37, _, hx37, hp37, rfl⟩ := sl_elem (P := Tryz.prog) (t := 67) (kk := .i64) hv0 hx37 els67
      refine DrawG.fl rfl (ev_ex wantS_none (ex_elX rfl rfl hx37)) rfl ?_
      have hp38 := (hp37.fld (o := 1) rfl)
      refine DrawG.fl rfl (ev_ex wantS_none (ex_fieldAddr rfl off86_1)) rfl ?_
      refine DrawG.fl rfl (ev_ex wantS_none (ex_load1 rfl (hH.ptrF hp38) rdLe_rfl agg3)) rfl ?_
      refine DrawG.fl rfl (ev_ex wantS_none (ex_neq rfl rfl)) rfl ?_
      refine DrawG.sync ?_
      refine DrawG.nil ?_
      rcases btf ((!((x36.length : Int) == x37.Rate))) with hc39 | hc39
      · have h := bif_t hc39 h
        refine Run.condT' rfl hc39 ?_
        refine Run.seq (Run.region ?_)
        refine Run.opG wantS_none (ex_assign rfl) rfl ?_
        refine Run.opsEnd ?_
        cases h
        exact Run.ret Tryz.func118 rfl (res_tmp rfl res_nil) rfl
      · have h := bif_f hc39 h
        refine Run.condF' rfl hc39 ?_
        refine Run.skip (Run.seq (Run.region ?_))
        refine Run.opG wantS_none (ex_assign rfl) rfl ?_
        refine Run.opsEnd (Run.block (Run.loop ?_))
        exact Run.pick [0, 3, 5, 6, 7] (ref05_frame_3_ok F (ref05_frame_2 F N) ih F v0 v5 (w64 ((1 : Int) * 2 ^ (min j35 (IntKind.bits .i64)))) (0 : Int) c22_0 c22_1 sv0 sc22_1 b22 _ _ _ hv0 hc22_1 hH h)
    · have h := bif_f hc29 h
      refine Run.condF' rfl hc29 ?_
      refine Run.exit rfl (Run.seq (Run.region ?_))
      refine Run.opG wantS_none (ex_assign rfl) rfl ?_
      refine Run.opsEnd ?_
      cases h
      exact Run.ret Tryz.func118 rfl (res_tmp rfl res_nil) rfl

def ref05_frame_1 (F : Nat) (v0 : (List S_api_Channel)) (v19 : Bool) (c22_0 : Int) (c22_1 : (List (List Int))) : Option (Bool) :=
  bif v19 then
    some false
  else
    ref05_frame_2 F F v0 (0 : Int) c22_0 c22_1

theorem ref05_frame_1_ok (F : Nat) : ∀ (v0 : (List S_api_Channel)) (v19 : Bool) (c22_0 : Int) (c22_1 : (List (List Int))) (sv0 sc22_1 : SV) (b22 : Pos) (Fr : Rd) (M : Mem) (r : Bool) (hv0 : Slc Fr 3 (FlatR enc86) sv0 v0) (hc22_1 : Slc Fr 1 (rep26 Fr) sc22_1 c22_1) (hH : Has Fr M [.obj b22 (.row 84 .whole [(.int .i64 c22_0), sc22_1])]), ref05_frame_1 F v0 v19 c22_0 c22_1 = some r → Run Tryz.prog ⟨⟨118, [], none⟩, []⟩ 69 (ref05_frame_post r) [(0, sv0), (3, (.ptr b22 0)), (19, (.bool v19))] [codeC Tryz.prog 118 [1, 0, 1], codeC Tryz.prog 118 [1, 1]] M := by
  intro v0 v19 c22_0 c22_1 sv0 sc22_1 b22 Fr M r hv0 hc22_1 hH h
  rw [ref05_frame_1] at h
  rcases btf (v19) with hc28 | hc28
  · have h := bif_t hc28 h
    refine Run.condT' rfl hc28 ?_
    refine Run.seq (Run.region ?_)
    refine Run.opG wantS_none (ex_assign rfl) rfl ?_
    refine Run.opsEnd ?_
    cases h
    exact Run.ret Tryz.func118 rfl (res_tmp rfl res_nil) rfl
  · have h := bif_f hc28 h
    refine Run.condF' rfl hc28 ?_
    refine Run.skip (Run.seq (Run.seq (Run.region ?_)))
    refine Run.opG wantS_none (ex_assign rfl) rfl ?_
    refine Run.opsEnd (Run.block (Run.loop ?_))
    exact Run.pick [0, 3, 5] (ref05_frame_2_ok F F v0 (0 : Int) c22_0 c22_1 sv0 sc22_1 b22 _ _ _ hv0 hc22_1 hH h)

def ref05_frame (F : Nat) (a0 : (List S_api_Channel)) (a1 : S_api_Frame) : Option (Bool) :=
  bnd (ref00_In F a1.Start (0 : Int) (1073741824 : Int)) fun r25 =>
  bif (!r25) then
    ref05_frame_1 F a0 true a1.Start a1.Samples
  else
    ref05_frame_1 F a0 (!((a1.Samples.length : Int) == (a0.length : Int))) a1.Start a1.Samples

theorem ref05_frame_ok (F : Nat) (a0 : (List S_api_Channel)) (a1 : S_api_Frame) (s0 s1 : SV) (r : Bool) (M : Mem) (hs0 : Slc (rd M) 3 (FlatR enc86) s0 a0) (hs1 : Slc (rd M) 1 (rep26 (rd M)) s1 a1.Samples) (h : ref05_frame F a0 a1 = some r) : CallsM Tryz.prog 118 [s0, (.agg [(.int .i64 a1.Start), s1])] M (fun s M' => s = (.bool r) ∧ M' = M) := by
  refine CallsM.plain Tryz.func118 rfl rfl rfl (show Run _ _ _ (ref05_frame_post r) _ _ _ from ?_)
  rw [ref05_frame] at h
  replace hs0 := hs0.mono (rdLe_frozen M) (fun _ _ h => h)
  replace hs1 := hs1.mono (rdLe_frozen M) (fun _ _ => rep26_mo (rdLe_frozen M))
  have hH := Has.nil (frozen M)
  refine Run.seq (Run.region ?_)
  refine Run.opX wantS_none rfl (ExG.box rfl rfl hH) ?_
  rintro _ M23 ⟨b22, rfl, hH23⟩
  refine Run.opG wantS_none (ex_assign rfl) rfl ?_
  refine Run.opsEnd (Run.seq (Run.seq (Run.region ?_)))
  refine Run.opG wantS_none (ex_fieldAddr rfl off84_0) rfl ?_
  refine Run.opG wantS_none (ex_load1 rfl (hH23.cells (i := 0) rfl 0 rfl) rdLe_rfl agg3) rfl ?_
  obtain ⟨r25, hr25, h⟩ := bnd_some h
  refine Run.callP wantS_none (ex_call rfl mkk22 cal22) rfl (ref00_In_ok F a1.Start (0 : Int) (1073741824 : Int) _ _ hr25) ?_
  refine Run.opG wantS_none (ex_not rfl) rfl ?_
  refine Run.opG wantS_none (ex_move rfl) rfl ?_
  rcases btf ((!r25)) with hc27 | hc27
  · have h := bif_t hc27 h
    refine Run.no (wantS_not' rfl rfl hc27) rfl ?_
    refine Run.no (wantS_not' rfl rfl hc27) rfl ?_
    refine Run.no (wantS_not' rfl rfl hc27) rfl ?_
    refine Run.no (wantS_not' rfl rfl hc27) rfl ?_
    refine Run.no (wantS_not' rfl rfl hc27) rfl ?_
    refine Run.no (wantS_not' rfl rfl hc27) rfl ?_
    refine Run.opG wantS_none (ex_pickT' rfl hc27 rfl rfl) rfl ?_
    refine Run.opsEnd ?_
    exact Run.pick [0, 3, 19] (ref05_frame_1_ok F a0 true a1.Start a1.Samples s0 s1 b22 _ _ _ hs0 hs1 hH23 h)
  · have h := bif_f hc27 h
    refine Run.opG (wantS_yes' rfl rfl hc27) (ex_fieldAddr rfl off84_1) rfl ?_
    refine Run.opG (wantS_yes' rfl rfl hc27) (ex_load1 rfl (hH23.cells (i := 0) rfl 1 rfl) rdLe_rfl agg82) rfl ?_
    refine Run.opG (wantS_yes' rfl rfl hc27) (ex_len' rfl hs1 lenk82) rfl ?_
    refine Run.opG (wantS_yes' rfl rfl hc27) (ex_move rfl) rfl ?_
    refine Run.opG (wantS_yes' rfl rfl hc27) (ex_len' rfl hs0 lenk67) rfl ?_
    refine Run.opG (wantS_yes' rfl rfl hc27) (ex_neq rfl rfl) rfl ?_
    refine Run.opG wantS_none (ex_pickF' rfl hc27 rfl rfl) rfl ?_
    refine Run.opsEnd ?_
    exact Run.pick [0, 3, 19] (ref05_frame_1_ok F a0 (!((a1.Samples.length : Int) == (a0.length : Int))) a1.Start a1.Samples s0 s1 b22 _ _ _ hs0 hs1 hH23 h)

theorem mkk118 : makeK Tryz.prog 118 = none := by kernel_rfl
theorem cal118 : callable Tryz.prog 118 = true := by kernel_rfl
theorem plan85_1_1_1_1_0_1_0_0_1_0_0_0 : planOf Tryz.prog (opsC (atC Tryz.prog 85 [1, 1, 1, 1, 0, 1, 0, 0, 1, 0, 0, 0])) = some [.fl 0, .fl 1, .fl 2, .fl 3, .fl 4, .fl 5, .fl 6, .fl 7, .fl 8, .fl 9, .fl 10, .fl 11, .sync] := by kernel_rfl
abbrev ref05_CheckRecord_post (r : Int) : SV → Mem → Prop := fun s _ => s = (.int .i64 r)

def ref05_CheckRecord_2 (F : Nat) : Nat → (List S_api_Frame) → Int → Option (Int)
  | 0, _, _ => none
  | N + 1, v1, v7 =>
    bif (decide (v7 < (v1.length : Int))) then
      bnd (idx v1 (w64 (v7 - (1 : Int)))) fun x34 =>
      bnd (idx v1 v7) fun x36 =>
      bif (decide (x36.Start ≤ x34.Start)) then
        some (52 : Int)
      else
        (ref05_CheckRecord_2 F N) v1 (w64 (v7 + (1 : Int)))
    else
      some (0 : Int)

theorem ref05_CheckRecord_2_ok (F : Nat) : ∀ (N : Nat), ∀ (v1 : (List S_api_Frame)) (v7 : Int) (sv1 : SV) (Fr : Rd) (M : Mem) (r : Int) (hv1 : Slc Fr 2 (rep84 Fr) sv1 v1) (hH : Has Fr M []), ref05_CheckRecord_2 F N v1 v7 = some r → Run Tryz.prog ⟨⟨85, [], none⟩, []⟩ 47 (ref05_CheckRecord_post r) [(1, sv1), (7, (.int .i64 v7))] [codeC Tryz.prog 85 [1, 1, 1, 1, 0, 1, 0, 0], loopC Tryz.prog 85 [1, 1, 1, 1, 0, 1, 0, 0], .inBlock 2, codeC Tryz.prog 85 [1, 1, 1, 1, 1]] M := by
  intro N
  induction N with
  | zero =>
    intro v1 v7 sv1 Fr M r hv1 hH h
    simp [ref05_CheckRecord_2] at h
  | succ N ih =>
    intro v1 v7 sv1 Fr M r hv1 hH h
    rw [ref05_CheckRecord_2] at h
    refine Run.seq (Run.seq (Run.region ?_))
    refine Run.opG wantS_none (ex_move rfl) rfl ?_
    refine Run.opG wantS_none (ex_move rfl) rfl ?_
    refine Run.opG wantS_none (ex_len' rfl hv1 lenk68) rfl ?_
    refine Run.opG wantS_none (ex_lss rfl rfl) rfl ?_
    refine Run.opsEnd ?_
    rcases btf ((decide (v7 < (v1.length : Int)))) with hc33 | hc33
    · have h := bif_t hc33 h
      refine Run.condT' rfl hc33 ?_
      refine Run.skip (Run.seq (Run.block (Run.seq ?_)))
      refine Run.drawG plan85_1_1_1_1_0_1_0_0_1_0_0_0 ?_
      refine DrawG.fl rfl (ev_ex wantS_none (ex_move rfl)) rfl ?_
      refine DrawG.fl rfl (ev_ex wantS_none (ex_move rfl)) rfl ?_
      refine DrawG.fl rfl (ev_ex wantS_none (ex_sub rfl rfl)) rfl ?_
      obtain ⟨x34, hx34, h⟩ := bnd_some h
      obtain ⟨p34, o34, _, hx34, hp34, ⟨q34_0, rfl, hq34_0⟩⟩ := sl_elem (P := Tryz.prog) (t := 68) (kk := .i64) hv1 hx34 els68
      refine DrawG.fl rfl (ev_ex wantS_none (ex_elX rfl rfl hx34)) rfl ?_
      have hp35 := (hp34.fld (o := 0) rfl)
      refine DrawG.fl rfl (ev_ex wantS_none (ex_fieldAddr rfl off84_0)) rfl ?_
      refine DrawG.fl rfl (ev_ex wantS_none (ex_load1 rfl (hH.ptrF hp35) rdLe_rfl agg3)) rfl ?_
      refine DrawG.fl rfl (ev_ex wantS_none (ex_move rfl)) rfl ?_
      refine DrawG.fl rfl (ev_ex wantS_none (ex_move rfl)) rfl ?_
      obtain ⟨x36, hx36, h⟩ := bnd_some h
      obtain ⟨p36, o36, _, hx36, hp36, ⟨q36_0, rfl, hq36_0⟩⟩ := sl_elem (P := Tryz.prog) (t := 68) (kk := .i64) hv1 hx36 els68
      refine DrawG.fl rfl (ev_ex wantS_none (ex_elX rfl rfl hx36)) rfl ?_
      have hp37 := (hp36.fld (o := 0) rfl)
      refine DrawG.fl rfl (ev_ex wantS_none (ex_fieldAddr rfl off84_0)) rfl ?_
      refine DrawG.fl rfl (ev_ex wantS_none (ex_load1 rfl (hH.ptrF hp37) rdLe_rfl agg3)) rfl ?_
      refine DrawG.fl rfl (ev_ex wantS_none (ex_geq rfl rfl)) rfl ?_
      refine DrawG.sync ?_
      refine DrawG.nil ?_
      rcases btf ((decide (x36.Start ≤ x34.Start))) with hc38 | hc38
      · have h := bif_t hc38 h
        refine Run.condT' rfl hc38 ?_
        refine Run.seq (Run.region ?_)
        refine Run.opG wantS_none (ex_assign rfl) rfl ?_
        refine Run.opsEnd ?_
        cases h
        exact Run.ret Tryz.func85 rfl (res_tmp rfl res_nil) rfl
      · have h := bif_f hc38 h
        refine Run.condF' rfl hc38 ?_
        refine Run.skip (Run.inBlock (Run.region ?_))
        refine Run.opG wantS_none (ex_move rfl) rfl ?_
        refine Run.opG wantS_none (ex_add rfl rfl) rfl ?_
        refine Run.opG wantS_none (ex_assign rfl) rfl ?_
        refine Run.opsEnd (Run.inLoop ?_)
        exact Run.pick [1, 7] (ih v1 (w64 (v7 + (1 : Int))) sv1 _ _ _ hv1 hH h)
    · have h := bif_f hc33 h
      refine Run.condF' rfl hc33 ?_
      refine Run.exit rfl (Run.seq (Run.region ?_))
      refine Run.opG wantS_none (ex_assign rfl) rfl ?_
      refine Run.opsEnd ?_
      cases h
      exact Run.ret Tryz.func85 rfl (res_tmp rfl res_nil) rfl

def ref05_CheckRecord_1 (F : Nat) : Nat → (List S_api_Channel) → (List S_api_Frame) → Int → Option (Int)
  | 0, _, _, _ => none
  | N + 1, v0, v1, v6 =>
    bif (decide (v6 < (v1.length : Int))) then
      bnd (idx v1 v6) fun x28 =>
      bnd (ref05_frame F v0 x28) fun r30 =>
      bif (!r30) then
        some (51 : Int)
      else
        (ref05_CheckRecord_1 F N) v0 v1 (w64 (v6 + (1 : Int)))
    else
      ref05_CheckRecord_2 F F v1 (1 : Int)

theorem ref05_CheckRecord_1_ok (F : Nat) : ∀ (N : Nat), ∀ (v0 : (List S_api_Channel)) (v1 : (List S_api_Frame)) (v6 : Int) (sv0 sv1 : SV) (Fr : Rd) (M : Mem) (r : Int) (hv0 : Slc Fr 3 (FlatR enc86) sv0 v0) (hv1 : Slc Fr 2 (rep84 Fr) sv1 v1) (hH : Has Fr M []), ref05_CheckRecord_1 F N v0 v1 v6 = some r → Run Tryz.prog ⟨⟨85, [], none⟩, []⟩ 47 (ref05_CheckRecord_post r) [(0, sv0), (1, sv1), (6, (.int .i64 v6))] [codeC Tryz.prog 85 [1, 1, 1, 0, 1, 0, 0], loopC Tryz.prog 85 [1, 1, 1, 0, 1, 0, 0], .inBlock 0, codeC Tryz.prog 85 [1, 1, 1, 1]] M := by
  intro N
  induction N with
  | zero =>
    intro v0 v1 v6 sv0 sv1 Fr M r hv0 hv1 hH h
    simp [ref05_CheckRecord_1] at h
  | succ N ih =>
    intro v0 v1 v6 sv0 sv1 Fr M r hv0 hv1 hH h
    rw [ref05_CheckRecord_1] at h
    refine Run.seq (Run.seq (Run.region ?_))
    refine Run.opG wantS_none (ex_move rfl) rfl ?_
    refine Run.opG wantS_none (ex_move rfl) rfl ?_
    refine Run.opG wantS_none (ex_len' rfl hv1 lenk68) rfl ?_
    refine Run.opG wantS_none (ex_lss rfl rfl) rfl ?_
    refine Run.opsEnd ?_
    rcases btf ((decide (v6 < (v1.length : Int)))) with hc26 | hc26
    · have h := bif_t hc26 h
      refine Run.condT' rfl hc26 ?_
      refine Run.skip (Run.seq (Run.block (Run.seq (Run.region ?_))))
      refine Run.opG wantS_none (ex_move rfl) rfl ?_
      refine Run.opG wantS_none (ex_move rfl) rfl ?_
      refine Run.opG wantS_none (ex_move rfl) rfl ?_
      obtain ⟨x28, hx28, h⟩ := bnd_some h
      obtain ⟨p28, o28, _, hx28, hp28, ⟨q28_0, rfl, hq28_0⟩⟩ := sl_elem (P := Tryz.prog) (t := 68) (kk := .i64) hv1 hx28 els68
      refine Run.opG wantS_none (ex_elX rfl rfl hx28) rfl ?_
      refine Run.opG wantS_none (ex_loadA rfl (hH.ptrF hp28) rdLe_rfl agg84 rfl rfl rfl) rfl ?_
      obtain ⟨r30, hr30, h⟩ := bnd_some h
      refine Run.callP wantS_none (ex_call rfl mkk118 cal118) rfl (ref05_frame_ok F v0 x28 sv0 q28_0 _ _ (hH.slcF hv0) ((hq28_0).mono hH.le (fun _ _ => rep26_mo hH.le)) hr30) ?_
      refine Run.opG wantS_none (ex_not rfl) rfl ?_
      refine Run.opsEnd ?_
      rcases btf ((!r30)) with hc32 | hc32
      · have h := bif_t hc32 h
        refine Run.condT' rfl hc32 ?_
        refine Run.seq (Run.region ?_)
        refine Run.opG wantS_none (ex_assign rfl) rfl ?_
        refine Run.opsEnd ?_
        cases h
        exact Run.ret Tryz.func85 rfl (res_tmp rfl res_nil) rfl
      · have h := bif_f hc32 h
        refine Run.condF' rfl hc32 ?_
        refine Run.skip (Run.inBlock (Run.region ?_))
        refine Run.opG wantS_none (ex_move rfl) rfl ?_
        refine Run.opG wantS_none (ex_add rfl rfl) rfl ?_
        refine Run.opG wantS_none (ex_assign rfl) rfl ?_
        refine Run.opsEnd (Run.inLoop ?_)
        exact Run.pick [0, 1, 6] (ih v0 v1 (w64 (v6 + (1 : Int))) sv0 sv1 _ _ _ hv0 hv1 hH h)
    · have h := bif_f hc26 h
      refine Run.condF' rfl hc26 ?_
      refine Run.exit rfl (Run.seq (Run.seq (Run.region ?_)))
      refine Run.opG wantS_none (ex_assign rfl) rfl ?_
      refine Run.opsEnd (Run.block (Run.loop ?_))
      exact Run.pick [1, 7] (ref05_CheckRecord_2_ok F F v1 (1 : Int) sv1 _ _ _ hv1 hH h)

def ref05_CheckRecord (F : Nat) (a0 : (List S_api_Channel)) (a1 : (List S_api_Frame)) : Option (Int) :=
  bnd (ref05_CheckBook F a0) fun r22 =>
  bif (!(r22 == (0 : Int))) then
    some r22
  else
    bif (decide ((64 : Int) < (a1.length : Int))) then
      some (3 : Int)
    else
      ref05_CheckRecord_1 F F a0 a1 (0 : Int)

theorem ref05_CheckRecord_ok (F : Nat) (a0 : (List S_api_Channel)) (a1 : (List S_api_Frame)) (s0 s1 : SV) (r : Int) (M : Mem) (hs0 : Slc (rd M) 3 (FlatR enc86) s0 a0) (hs1 : Slc (rd M) 2 (rep84 (rd M)) s1 a1) (h : ref05_CheckRecord F a0 a1 = some r) : CallsM Tryz.prog 85 [s0, s1] M (fun s M' => s = (.int .i64 r) ∧ M' = M) := by
  refine CallsM.plain Tryz.func85 rfl rfl rfl (show Run _ _ _ (ref05_CheckRecord_post r) _ _ _ from ?_)
  rw [ref05_CheckRecord] at h
  replace hs0 := hs0.mono (rdLe_frozen M) (fun _ _ h => h)
  replace hs1 := hs1.mono (rdLe_frozen M) (fun _ _ => rep84_mo (rdLe_frozen M))
  have hH := Has.nil (frozen M)
  refine Run.seq (Run.region ?_)
  refine Run.opG wantS_none (ex_assign rfl) rfl ?_
  refine Run.opsEnd (Run.seq (Run.seq (Run.region ?_)))
  refine Run.opG wantS_none (ex_move rfl) rfl ?_
  obtain ⟨r22, hr22, h⟩ := bnd_some h
  refine Run.callP wantS_none (ex_call rfl mkk117 cal117) rfl (ref05_CheckBook_ok F a0 s0 _ _ (hH.slcF hs0) hr22) ?_
  refine Run.opG wantS_none (ex_assign rfl) rfl ?_
  refine Run.opsEnd (Run.seq (Run.region ?_))
  refine Run.opG wantS_none (ex_move rfl) rfl ?_
  refine Run.opG wantS_none (ex_neq rfl rfl) rfl ?_
  refine Run.opsEnd ?_
  rcases btf ((!(r22 == (0 : Int)))) with hc24 | hc24
  · have h := bif_t hc24 h
    refine Run.condT' rfl hc24 ?_
    refine Run.seq (Run.region ?_)
    refine Run.opG wantS_none (ex_move rfl) rfl ?_
    refine Run.opG wantS_none (ex_assign rfl) rfl ?_
    refine Run.opsEnd ?_
    cases h
    exact Run.ret Tryz.func85 rfl (res_tmp rfl res_nil) rfl
  · have h := bif_f hc24 h
    refine Run.condF' rfl hc24 ?_
    refine Run.skip (Run.seq (Run.seq (Run.region ?_)))
    refine Run.opG wantS_none (ex_move rfl) rfl ?_
    refine Run.opG wantS_none (ex_len' rfl hs1 lenk68) rfl ?_
    refine Run.opG wantS_none (ex_gtr rfl rfl) rfl ?_
    refine Run.opsEnd ?_
    rcases btf ((decide ((64 : Int) < (a1.length : Int)))) with hc25 | hc25
    · have h := bif_t hc25 h
      refine Run.condT' rfl hc25 ?_
      refine Run.seq (Run.region ?_)
      refine Run.opG wantS_none (ex_assign rfl) rfl ?_
      refine Run.opsEnd ?_
      cases h
      exact Run.ret Tryz.func85 rfl (res_tmp rfl res_nil) rfl
    · have h := bif_f hc25 h
      refine Run.condF' rfl hc25 ?_
      refine Run.skip (Run.seq (Run.seq (Run.region ?_)))
      refine Run.opG wantS_none (ex_assign rfl) rfl ?_
      refine Run.opsEnd (Run.block (Run.loop ?_))
      exact Run.pick [0, 1, 6] (ref05_CheckRecord_1_ok F F a0 a1 (0 : Int) s0 s1 _ _ _ hs0 hs1 hH h)

theorem mkk85 : makeK Tryz.prog 85 = none := by kernel_rfl
theorem cal85 : callable Tryz.prog 85 = true := by kernel_rfl
abbrev ref05_span_post (r : Int) : SV → Mem → Prop := fun s _ => s = (.int .i64 r)

def ref05_span_2 (F : Nat) (v26 : Bool) : Option (Int) :=
  bif v26 then
    some (8 : Int)
  else
    some (0 : Int)

theorem ref05_span_2_ok (F : Nat) : ∀ (v26 : Bool) (Fr : Rd) (M : Mem) (r : Int) (hH : Has Fr M []), ref05_span_2 F v26 = some r → Run Tryz.prog ⟨⟨56, [], none⟩, []⟩ 27 (ref05_span_post r) [(26, (.bool v26))] [codeC Tryz.prog 56 [1, 1, 0, 1], codeC Tryz.prog 56 [1, 1, 1]] M := by
  intro v26 Fr M r hH h
  rw [ref05_span_2] at h
  rcases btf (v26) with hc27 | hc27
  · have h := bif_t hc27 h
    refine Run.condT' rfl hc27 ?_
    refine Run.seq (Run.region ?_)
    refine Run.opG wantS_none (ex_assign rfl) rfl ?_
    refine Run.opsEnd ?_
    cases h
    exact Run.ret Tryz.func56 rfl (res_tmp rfl res_nil) rfl
  · have h := bif_f hc27 h
    refine Run.condF' rfl hc27 ?_
    refine Run.skip (Run.seq (Run.region ?_))
    refine Run.opG wantS_none (ex_assign rfl) rfl ?_
    refine Run.opsEnd ?_
    cases h
    exact Run.ret Tryz.func56 rfl (res_tmp rfl res_nil) rfl

def ref05_span_1 (F : Nat) (v3 : Int) (v22 : Bool) : Option (Int) :=
  bif v22 then
    ref05_span_2 F true
  else
    ref05_span_2 F (decide ((1073741824 : Int) < v3))

theorem ref05_span_1_ok (F : Nat) : ∀ (v3 : Int) (v22 : Bool) (Fr : Rd) (M : Mem) (r : Int) (hH : Has Fr M []), ref05_span_1 F v3 v22 = some r → Run Tryz.prog ⟨⟨56, [], none⟩, []⟩ 27 (ref05_span_post r) [(3, (.int .i64 v3)), (22, (.bool v22))] [itemC Tryz.prog 56 [1, 1, 0, 0] 7, codeC Tryz.prog 56 [1, 1, 0, 1], codeC Tryz.prog 56 [1, 1, 1]] M := by
  intro v3 v22 Fr M r hH h
  rw [ref05_span_1] at h
  refine Run.opG wantS_none (ex_move rfl) rfl ?_
  rcases btf (v22) with hc26 | hc26
  · have h := bif_t hc26 h
    refine Run.no (wantS_not' rfl rfl hc26) rfl ?_
    refine Run.no (wantS_not' rfl rfl hc26) rfl ?_
    refine Run.opG wantS_none (ex_pickT' rfl hc26 rfl rfl) rfl ?_
    refine Run.opsEnd ?_
    exact Run.pick [26] (ref05_span_2_ok F true _ _ _ hH h)
  · have h := bif_f hc26 h
    refine Run.opG (wantS_yes' rfl rfl hc26) (ex_move rfl) rfl ?_
    refine Run.opG (wantS_yes' rfl rfl hc26) (ex_gtr rfl rfl) rfl ?_
    refine Run.opG wantS_none (ex_pickF' rfl hc26 rfl rfl) rfl ?_
    refine Run.opsEnd ?_
    exact Run.pick [26] (ref05_span_2_ok F (decide ((1073741824 : Int) < v3)) _ _ _ hH h)

def ref05_span (F : Nat) (a0 : (List S_api_Channel)) (a1 : (List S_api_Frame)) (a2 a3 : Int) : Option (Int) :=
  bnd (ref05_CheckRecord F a0 a1) fun r22 =>
  bif (!(r22 == (0 : Int))) then
    some r22
  else
    bif (decide (a2 < (0 : Int))) then
      ref05_span_1 F a3 true
    else
      ref05_span_1 F a3 (decide (a3 < a2))

theorem ref05_span_ok (F : Nat) (a0 : (List S_api_Channel)) (a1 : (List S_api_Frame)) (a2 a3 : Int) (s0 s1 : SV) (r : Int) (M : Mem) (hs0 : Slc (rd M) 3 (FlatR enc86) s0 a0) (hs1 : Slc (rd M) 2 (rep84 (rd M)) s1 a1) (h : ref05_span F a0 a1 a2 a3 = some r) : CallsM Tryz.prog 56 [s0, s1, (.int .i64 a2), (.int .i64 a3)] M (fun s M' => s = (.int .i64 r) ∧ M' = M) := by
  refine CallsM.plain Tryz.func56 rfl rfl rfl (show Run _ _ _ (ref05_span_post r) _ _ _ from ?_)
  rw [ref05_span] at h
  replace hs0 := hs0.mono (rdLe_frozen M) (fun _ _ h => h)
  replace hs1 := hs1.mono (rdLe_frozen M) (fun _ _ => rep84_mo (rdLe_frozen M))
  have hH := Has.nil (frozen M)
  refine Run.seq (Run.region ?_)
  refine Run.opG wantS_none (ex_assign rfl) rfl ?_
  refine Run.opsEnd (Run.seq (Run.seq (Run.region ?_)))
  refine Run.opG wantS_none (ex_move rfl) rfl ?_
  refine Run.opG wantS_none (ex_move rfl) rfl ?_
  obtain ⟨r22, hr22, h⟩ := bnd_some h
  refine Run.callP wantS_none (ex_call rfl mkk85 cal85) rfl (ref05_CheckRecord_ok F a0 a1 s0 s1 _ _ (hH.slcF hs0) ((hs1).mono hH.le (fun _ _ => rep84_mo hH.le)) hr22) ?_
  refine Run.opG wantS_none (ex_assign rfl) rfl ?_
  refine Run.opsEnd (Run.seq (Run.region ?_))
  refine Run.opG wantS_none (ex_move rfl) rfl ?_
  refine Run.opG wantS_none (ex_neq rfl rfl) rfl ?_
  refine Run.opsEnd ?_
  rcases btf ((!(r22 == (0 : Int)))) with hc24 | hc24
  · have h := bif_t hc24 h
    refine Run.condT' rfl hc24 ?_
    refine Run.seq (Run.region ?_)
    refine Run.opG wantS_none (ex_move rfl) rfl ?_
    refine Run.opG wantS_none (ex_assign rfl) rfl ?_
    refine Run.opsEnd ?_
    cases h
    exact Run.ret Tryz.func56 rfl (res_tmp rfl res_nil) rfl
  · have h := bif_f hc24 h
    refine Run.condF' rfl hc24 ?_
    refine Run.skip (Run.seq (Run.seq (Run.region ?_)))
    refine Run.opG wantS_none (ex_move rfl) rfl ?_
    refine Run.opG wantS_none (ex_lss rfl rfl) rfl ?_
    refine Run.opG wantS_none (ex_move rfl) rfl ?_
    rcases btf ((decide (a2 < (0 : Int)))) with hc25 | hc25
    · have h := bif_t hc25 h
      refine Run.no (wantS_not' rfl rfl hc25) rfl ?_
      refine Run.no (wantS_not' rfl rfl hc25) rfl ?_
      refine Run.no (wantS_not' rfl rfl hc25) rfl ?_
      refine Run.opG wantS_none (ex_pickT' rfl hc25 rfl rfl) rfl ?_
      exact Run.pick [3, 22] (ref05_span_1_ok F a3 true _ _ _ hH h)
    · have h := bif_f hc25 h
      refine Run.opG (wantS_yes' rfl rfl hc25) (ex_move rfl) rfl ?_
      refine Run.opG (wantS_yes' rfl rfl hc25) (ex_move rfl) rfl ?_
      refine Run.opG (wantS_yes' rfl rfl hc25) (ex_gtr rfl rfl) rfl ?_
      refine Run.opG wantS_none (ex_pickF' rfl hc25 rfl rfl) rfl ?_
      exact Run.pick [3, 22] (ref05_span_1_ok F a3 (decide (a3 < a2)) _ _ _ hH h)

theorem mkk56 : makeK Tryz.prog 56 = none := by kernel_rfl
theorem cal56 : callable Tryz.prog 56 = true := by kernel_rfl
abbrev ref05_Gaps_post (r : (List S_api_Span) × Int) : SV → Mem → Prop := fun s Me => ∃ q1, s = (.tuple [q1, (.int .i64 r.2)]) ∧ Has (fun _ => none) Me [.vec 81 2 r.1.length q1 (r.1.flatMap enc81)]

def ref05_Gaps_4 (F : Nat) (hd1 : (List S_api_Frame) → Int → Int → Int → (List S_api_Span) → Option ((List S_api_Span) × Int)) (v1 : (List S_api_Frame)) (v2 v3 v12 : Int) (l43 : (List S_api_Span)) : Option ((List S_api_Span) × Int) :=
  hd1 v1 v2 v3 (w64 (v12 + (1 : Int))) l43

theorem ref05_Gaps_4_ok (F : Nat) (hd1 : (List S_api_Frame) → Int → Int → Int → (List S_api_Span) → Option ((List S_api_Span) × Int)) (hhd1 : ∀ (v1 : (List S_api_Frame)) (v2 v3 v12 : Int) (l27 : (List S_api_Span)) (sv1 s27 : SV) (Fr : Rd) (M : Mem) (r : (List S_api_Span) × Int) (hv1 : Slc Fr 2 (rep84 Fr) sv1 v1) (hH : Has Fr M [.vec 81 2 l27.length s27 (l27.flatMap enc81)]), hd1 v1 v2 v3 v12 l27 = some r → Run Tryz.prog ⟨⟨24, [], none⟩, []⟩ 62 (ref05_Gaps_post r) [(1, sv1), (2, (.int .i64 v2)), (3, (.int .i64 v3)), (11, s27), (12, (.int .i64 v12))] [codeC Tryz.prog 24 [1, 1, 1, 0, 1, 0, 0], loopC Tryz.prog 24 [1, 1, 1, 0, 1, 0, 0], .inBlock 0, codeC Tryz.prog 24 [1, 1, 1, 1]] M) : ∀ (v1 : (List S_api_Frame)) (v2 v3 v12 : Int) (l43 : (List S_api_Span)) (sv1 s43 : SV) (Fr : Rd) (M : Mem) (r : (List S_api_Span) × Int) (hv1 : Slc Fr 2 (rep84 Fr) sv1 v1) (hH : Has Fr M [.vec 81 2 l43.length s43 (l43.flatMap enc81)]), ref05_Gaps_4 F hd1 v1 v2 v3 v12 l43 = some r → Run Tryz.prog ⟨⟨24, [], none⟩, []⟩ 62 (ref05_Gaps_post r) [(1, sv1), (2, (.int .i64 v2)), (3, (.int .i64 v3)), (11, s43), (12, (.int .i64 v12))] [itemC Tryz.prog 24 [1, 1, 1, 0, 1, 0, 0, 1, 1] 0, loopC Tryz.prog 24 [1, 1, 1, 0, 1, 0, 0], .inBlock 0, codeC Tryz.prog 24 [1, 1, 1, 1]] M := by
  intro v1 v2 v3 v12 l43 sv1 s43 Fr M r hv1 hH h
  rw [ref05_Gaps_4] at h
  refine Run.opG wantS_none (ex_move rfl) rfl ?_
  refine Run.opG wantS_none (ex_add rfl rfl) rfl ?_
  refine Run.opG wantS_none (ex_assign rfl) rfl ?_
  refine Run.opsEnd (Run.inLoop ?_)
  exact Run.pick [1, 2, 3, 11, 12] (hhd1 v1 v2 v3 (w64 (v12 + (1 : Int))) l43 sv1 s43 _ _ _ hv1 hH h)

def ref05_Gaps_3 (F : Nat) (hd1 : (List S_api_Frame) → Int → Int → Int → (List S_api_Span) → Option ((List S_api_Span) × Int)) (v1 : (List S_api_Frame)) (v3 v12 v13 : Int) (l43 : (List S_api_Span)) : Option ((List S_api_Span) × Int) :=
  ref05_Gaps_4 F hd1 v1 (w64 (v13 + (1 : Int))) v3 v12 l43

theorem ref05_Gaps_3_ok (F : Nat) (hd1 : (List S_api_Frame) → Int → Int → Int → (List S_api_Span) → Option ((List S_api_Span) × Int)) (hhd1 : ∀ (v1 : (List S_api_Frame)) (v2 v3 v12 : Int) (l27 : (List S_api_Span)) (sv1 s27 : SV) (Fr : Rd) (M : Mem) (r : (List S_api_Span) × Int) (hv1 : Slc Fr 2 (rep84 Fr) sv1 v1) (hH : Has Fr M [.vec 81 2 l27.length s27 (l27.flatMap enc81)]), hd1 v1 v2 v3 v12 l27 = some r → Run Tryz.prog ⟨⟨24, [], none⟩, []⟩ 62 (ref05_Gaps_post r) [(1, sv1), (2, (.int .i64 v2)), (3, (.int .i64 v3)), (11, s27), (12, (.int .i64 v12))] [codeC Tryz.prog 24 [1, 1, 1, 0, 1, 0, 0], loopC Tryz.prog 24 [1, 1, 1, 0, 1, 0, 0], .inBlock 0, codeC Tryz.prog 24 [1, 1, 1, 1]] M) : ∀ (v1 : (List S_api_Frame)) (v3 v12 v13 : Int) (l43 : (List S_api_Span)) (sv1 s43 : SV) (Fr : Rd) (M : Mem) (r : (List S_api_Span) × Int) (hv1 : Slc Fr 2 (rep84 Fr) sv1 v1) (hH : Has Fr M [.vec 81 2 l43.length s43 (l43.flatMap enc81)]), ref05_Gaps_3 F hd1 v1 v3 v12 v13 l43 = some r → Run Tryz.prog ⟨⟨24, [], none⟩, []⟩ 62 (ref05_Gaps_post r) [(1, sv1), (3, (.int .i64 v3)), (11, s43), (12, (.int .i64 v12)), (13, (.int .i64 v13))] [itemC Tryz.prog 24 [1, 1, 1, 0, 1, 0, 0, 1, 0, 0, 1, 1, 0, 1] 0, .inBlock 1, codeC Tryz.prog 24 [1, 1, 1, 0, 1, 0, 0, 1, 1], loopC Tryz.prog 24 [1, 1, 1, 0, 1, 0, 0], .inBlock 0, codeC Tryz.prog 24 [1, 1, 1, 1]] M := by
  intro v1 v3 v12 v13 l43 sv1 s43 Fr M r hv1 hH h
  rw [ref05_Gaps_3] at h
  refine Run.opG wantS_none (ex_move rfl) rfl ?_
  refine Run.opG wantS_none (ex_add rfl rfl) rfl ?_
  refine Run.opG wantS_none (ex_assign rfl) rfl ?_
  refine Run.opsEnd (Run.inBlock (Run.region ?_))
  exact Run.pick [1, 2, 3, 11, 12] (ref05_Gaps_4_ok F hd1 hhd1 v1 (w64 (v13 + (1 : Int))) v3 v12 l43 sv1 s43 _ _ _ hv1 hH h)

def ref05_Gaps_2 (F : Nat) (hd1 : (List S_api_Frame) → Int → Int → Int → (List S_api_Span) → Option ((List S_api_Span) × Int)) (v1 : (List S_api_Frame)) (v2 v3 v12 v13 : Int) (v40 : Bool) (l27 : (List S_api_Span)) : Option ((List S_api_Span) × Int) :=
  bif v40 then
    bif (decide (v2 < v13)) then
      bnd (apd 16 l27 ([(S_api_Span.mk v2 v13)] : List S_api_Span)) fun l42 =>
      ref05_Gaps_3 F hd1 v1 v3 v12 v13 l42
    else
      ref05_Gaps_3 F hd1 v1 v3 v12 v13 l27
  else
    ref05_Gaps_4 F hd1 v1 v2 v3 v12 l27

theorem ref05_Gaps_2_ok (F : Nat) (hd1 : (List S_api_Frame) → Int → Int → Int → (List S_api_Span) → Option ((List S_api_Span) × Int)) (hhd1 : ∀ (v1 : (List S_api_Frame)) (v2 v3 v12 : Int) (l27 : (List S_api_Span)) (sv1 s27 : SV) (Fr : Rd) (M : Mem) (r : (List S_api_Span) × Int) (hv1 : Slc Fr 2 (rep84 Fr) sv1 v1) (hH : Has Fr M [.vec 81 2 l27.length s27 (l27.flatMap enc81)]), hd1 v1 v2 v3 v12 l27 = some r → Run Tryz.prog ⟨⟨24, [], none⟩, []⟩ 62 (ref05_Gaps_post r) [(1, sv1), (2, (.int .i64 v2)), (3, (.int .i64 v3)), (11, s27), (12, (.int .i64 v12))] [codeC Tryz.prog 24 [1, 1, 1, 0, 1, 0, 0], loopC Tryz.prog 24 [1, 1, 1, 0, 1, 0, 0], .inBlock 0, codeC Tryz.prog 24 [1, 1, 1, 1]] M) : ∀ (v1 : (List S_api_Frame)) (v2 v3 v12 v13 : Int) (v40 : Bool) (l27 : (List S_api_Span)) (sv1 s27 : SV) (Fr : Rd) (M : Mem) (r : (List S_api_Span) × Int) (hv1 : Slc Fr 2 (rep84 Fr) sv1 v1) (hH : Has Fr M [.vec 81 2 l27.length s27 (l27.flatMap enc81)]), ref05_Gaps_2 F hd1 v1 v2 v3 v12 v13 v40 l27 = some r → Run Tryz.prog ⟨⟨24, [], none⟩, []⟩ 62 (ref05_Gaps_post r) [(1, sv1), (2, (.int .i64 v2)), (3, (.int .i64 v3)), (11, s27), (12, (.int .i64 v12)), (13, (.int .i64 v13)), (40, (.bool v40))] [codeC Tryz.prog 24 [1, 1, 1, 0, 1, 0, 0, 1, 0, 0, 1, 1], .inBlock 1, codeC Tryz.prog 24 [1, 1, 1, 0, 1, 0, 0, 1, 1], loopC Tryz.prog 24 [1, 1, 1, 0, 1, 0, 0], .inBlock 0, codeC Tryz.prog 24 [1, 1, 1, 1]] M := by
  intro v1 v2 v3 v12 v13 v40 l27 sv1 s27 Fr M r hv1 hH h
  rw [ref05_Gaps_2] at h
  rcases btf (v40) with hc35 | hc35
  · have h := bif_t hc35 h
    refine Run.condT' rfl hc35 ?_
    refine Run.seq (Run.seq (Run.region ?_))
    refine Run.opG wantS_none (ex_move rfl) rfl ?_
    refine Run.opG wantS_none (ex_move rfl) rfl ?_
    refine Run.opG wantS_none (ex_gtr rfl rfl) rfl ?_
    refine Run.opsEnd ?_
    rcases btf ((decide (v2 < v13))) with hc36 | hc36
    · have h := bif_t hc36 h
      refine Run.condT' rfl hc36 ?_
      refine Run.region ?_
      refine Run.opG wantS_none (ex_move rfl) rfl ?_
      refine Run.opG wantS_none (ex_move rfl) rfl ?_
      refine Run.opG wantS_none (ex_move rfl) rfl ?_
      refine Run.opG wantS_none (ex_build (r := [(.int .i64 v2), (.int .i64 v13)]) rfl zer81 pls81 rfl) rfl ?_
      refine Run.opX wantS_none rfl (ExG.built (enc := enc81) (l := ([(S_api_Span.mk v2 v13)] : List S_api_Span)) (z := 2) rfl elt71 rfl rfl rfl enc81_len hH) ?_
      rintro s38 M39 (hH39 : Has Fr M39 [.vec 81 2 ([(S_api_Span.mk v2 v13)] : List S_api_Span).length s38 (([(S_api_Span.mk v2 v13)] : List S_api_Span).flatMap enc81), .vec 81 2 l27.length s27 (l27.flatMap enc81)])
      obtain ⟨l42, hl42, h⟩ := bnd_some h
      refine Run.opX wantS_none rfl (ExG.append rfl rfl hH39 (i := 1) rfl enc81_len rfl enc81_ones appt71_71 rfl (len_slc (hH39.slc (i := 0) rfl enc81_len)) (first_slc (hH39.slc (i := 0) rfl enc81_len) (rdLe_rdRow _) enc81_len) hl42) ?_
      rintro s42 M44 (hH44 : Has Fr M44 [.vec 81 2 ([(S_api_Span.mk v2 v13)] : List S_api_Span).length s38 (([(S_api_Span.mk v2 v13)] : List S_api_Span).flatMap enc81), .vec 81 2 l42.length s42 (l42.flatMap enc81)])
      refine Run.opG wantS_none (ex_assign rfl) rfl ?_
      refine Run.opsEnd (Run.region ?_)
      exact Run.pick [1, 3, 11, 12, 13] (ref05_Gaps_3_ok F hd1 hhd1 v1 v3 v12 v13 l42 sv1 s42 _ _ _ hv1 (hH44.pick [1] rfl rfl) h)
    · have h := bif_f hc36 h
      refine Run.condF' rfl hc36 ?_
      refine Run.skip (Run.region ?_)
      exact Run.pick [1, 3, 11, 12, 13] (ref05_Gaps_3_ok F hd1 hhd1 v1 v3 v12 v13 l27 sv1 s27 _ _ _ hv1 hH h)
  · have h := bif_f hc35 h
    refine Run.condF' rfl hc35 ?_
    refine Run.skip (Run.inBlock (Run.region ?_))
    exact Run.pick [1, 2, 3, 11, 12] (ref05_Gaps_4_ok F hd1 hhd1 v1 v2 v3 v12 l27 sv1 s27 _ _ _ hv1 hH h)

def ref05_Gaps_5 (F : Nat) (l52 : (List S_api_Span)) : Option ((List S_api_Span) × Int) :=
  some (l52, (0 : Int))

theorem ref05_Gaps_5_ok (F : Nat) : ∀ (l52 : (List S_api_Span)) (s52 : SV) (Fr : Rd) (M : Mem) (r : (List S_api_Span) × Int) (hH : Has Fr M [.vec 81 2 l52.length s52 (l52.flatMap enc81)]), ref05_Gaps_5 F l52 = some r → Run Tryz.prog ⟨⟨24, [], none⟩, []⟩ 62 (ref05_Gaps_post r) [(11, s52)] [itemC Tryz.prog 24 [1, 1, 1, 1, 1, 0] 0, codeC Tryz.prog 24 [1, 1, 1, 1, 1, 1]] M := by
  intro l52 s52 Fr M r hH h
  rw [ref05_Gaps_5] at h
  refine Run.opG wantS_none (ex_move rfl) rfl ?_
  refine Run.opG wantS_none (ex_assign rfl) rfl ?_
  refine Run.opG wantS_none (ex_assign rfl) rfl ?_
  refine Run.opsEnd ?_
  cases h
  exact Run.ret Tryz.func24 rfl (res_tmp rfl (res_tmp rfl res_nil)) ⟨_, rfl, (hH.pick [0] rfl rfl).upF (none_le _)⟩

def ref05_Gaps_1 (F : Nat) : Nat → (List S_api_Frame) → Int → Int → Int → (List S_api_Span) → Option ((List S_api_Span) × Int)
  | 0, _, _, _, _, _ => none
  | N + 1, v1, v2, v3, v12, l27 =>
    bif (decide (v12 < (v1.length : Int))) then
      bnd (idx v1 v12) fun x31 =>
      bif (decide (v2 ≤ x31.Start)) then
        ref05_Gaps_2 F (ref05_Gaps_1 F N) v1 v2 v3 v12 x31.Start (decide (x31.Start < v3)) l27
      else
        ref05_Gaps_2 F (ref05_Gaps_1 F N) v1 v2 v3 v12 x31.Start false l27
    else
      bif (decide (v2 < v3)) then
        bnd (apd 16 l27 ([(S_api_Span.mk v2 v3)] : List S_api_Span)) fun l51 =>
        ref05_Gaps_5 F l51
      else
        ref05_Gaps_5 F l27

theorem ref05_Gaps_1_ok (F : Nat) : ∀ (N : Nat), ∀ (v1 : (List S_api_Frame)) (v2 v3 v12 : Int) (l27 : (List S_api_Span)) (sv1 s27 : SV) (Fr : Rd) (M : Mem) (r : (List S_api_Span) × Int) (hv1 : Slc Fr 2 (rep84 Fr) sv1 v1) (hH : Has Fr M [.vec 81 2 l27.length s27 (l27.flatMap enc81)]), ref05_Gaps_1 F N v1 v2 v3 v12 l27 = some r → Run Tryz.prog ⟨⟨24, [], none⟩, []⟩ 62 (ref05_Gaps_post r) [(1, sv1), (2, (.int .i64 v2)), (3, (.int .i64 v3)), (11, s27), (12, (.int .i64 v12))] [codeC Tryz.prog 24 [1, 1, 1, 0, 1, 0, 0], loopC Tryz.prog 24 [1, 1, 1, 0, 1, 0, 0], .inBlock 0, codeC Tryz.prog 24 [1, 1, 1, 1]] M := by
  intro N
  induction N with
  | zero =>
    intro v1 v2 v3 v12 l27 sv1 s27 Fr M r hv1 hH h
    simp [ref05_Gaps_1] at h
  | succ N ih =>
    intro v1 v2 v3 v12 l27 sv1 s27 Fr M r hv1 hH h
    rw [ref05_Gaps_1] at h
    refine Run.seq (Run.seq (Run.region ?_))
    refine Run.opG wantS_none (ex_move rfl) rfl ?_
    refine Run.opG wantS_none (ex_move rfl) rfl ?_
    refine Run.opG wantS_none (ex_len' rfl hv1 lenk68) rfl ?_
    refine Run.opG wantS_none (ex_lss rfl rfl) rfl ?_
    refine Run.opsEnd ?_
    rcases btf ((decide (v12 < (v1.length : Int)))) with hc29 | hc29
    · have h := bif_t hc29 h
      refine Run.condT' rfl hc29 ?_
      refine Run.skip (Run.seq (Run.block (Run.seq (Run.region ?_))))
      refine Run.opG wantS_none (ex_move rfl) rfl ?_
      refine Run.opG wantS_none (ex_move rfl) rfl ?_
      obtain ⟨x31, hx31, h⟩ := bnd_some h
      obtain ⟨p31, o31, _, hx31, hp31, ⟨q31_0, rfl, hq31_0⟩⟩ := sl_elem (P := Tryz.prog) (t := 68) (kk := .i64) hv1 hx31 els68
      refine Run.opG wantS_none (ex_elX rfl rfl hx31) rfl ?_
      have hp33 := (hp31.fld (o := 0) rfl)
      refine Run.opG wantS_none (ex_fieldAddr rfl off84_0) rfl ?_
      refine Run.opG wantS_none (ex_load1 rfl (hH.ptrF hp33) rdLe_rfl agg3) rfl ?_
      refine Run.opG wantS_none (ex_assign rfl) rfl ?_
      refine Run.opsEnd (Run.seq (Run.region ?_))
      refine Run.opG wantS_none (ex_move rfl) rfl ?_
      refine Run.opG wantS_none (ex_move rfl) rfl ?_
      refine Run.opG wantS_none (ex_geq rfl rfl) rfl ?_
      refine Run.opG wantS_none (ex_move rfl) rfl ?_
      rcases btf ((decide (v2 ≤ x31.Start))) with hc34 | hc34
      · have h := bif_t hc34 h
        refine Run.opG (wantS_yes' rfl rfl hc34) (ex_move rfl) rfl ?_
        refine Run.opG (wantS_yes' rfl rfl hc34) (ex_move rfl) rfl ?_
        refine Run.opG (wantS_yes' rfl rfl hc34) (ex_lss rfl rfl) rfl ?_
        refine Run.opG wantS_none (ex_pickT' rfl hc34 rfl rfl) rfl ?_
        refine Run.opsEnd ?_
        exact Run.pick [1, 2, 3, 11, 12, 13, 40] (ref05_Gaps_2_ok F (ref05_Gaps_1 F N) ih v1 v2 v3 v12 x31.Start (decide (x31.Start < v3)) l27 sv1 s27 _ _ _ hv1 hH h)
      · have h := bif_f hc34 h
        refine Run.no (wantS_not' rfl rfl hc34) rfl ?_
        refine Run.no (wantS_not' rfl rfl hc34) rfl ?_
        refine Run.no (wantS_not' rfl rfl hc34) rfl ?_
        refine Run.opG wantS_none (ex_pickF' rfl hc34 rfl rfl) rfl ?_
        refine Run.opsEnd ?_
        exact Run.pick [1, 2, 3, 11, 12, 13, 40] (ref05_Gaps_2_ok F (ref05_Gaps_1 F N) ih v1 v2 v3 v12 x31.Start false l27 sv1 s27 _ _ _ hv1 hH h)
    · have h := bif_f hc29 h
      refine Run.condF' rfl hc29 ?_
      refine Run.exit rfl (Run.seq (Run.seq (Run.region ?_)))
      refine Run.opG wantS_none (ex_move rfl) rfl ?_
      refine Run.opG wantS_none (ex_move rfl) rfl ?_
      refine Run.opG wantS_none (ex_lss rfl rfl) rfl ?_
      refine Run.opsEnd ?_
      rcases btf ((decide (v2 < v3))) with hc45 | hc45
      · have h := bif_t hc45 h
        refine Run.condT' rfl hc45 ?_
        refine Run.region ?_
        refine Run.opG wantS_none (ex_move rfl) rfl ?_
        refine Run.opG wantS_none (ex_move rfl) rfl ?_
        refine Run.opG wantS_none (ex_move rfl) rfl ?_
        refine Run.opG wantS_none (ex_build (r := [(.int .i64 v2), (.int .i64 v3)]) rfl zer81 pls81 rfl) rfl ?_
        refine Run.opX wantS_none rfl (ExG.built (enc := enc81) (l := ([(S_api_Span.mk v2 v3)] : List S_api_Span)) (z := 2) rfl elt71 rfl rfl rfl enc81_len hH) ?_
        rintro s47 M48 (hH48 : Has Fr M48 [.vec 81 2 ([(S_api_Span.mk v2 v3)] : List S_api_Span).length s47 (([(S_api_Span.mk v2 v3)] : List S_api_Span).flatMap enc81), .vec 81 2 l27.length s27 (l27.flatMap enc81)])
        obtain ⟨l51, hl51, h⟩ := bnd_some h
        refine Run.opX wantS_none rfl (ExG.append rfl rfl hH48 (i := 1) rfl enc81_len rfl enc81_ones appt71_71 rfl (len_slc (hH48.slc (i := 0) rfl enc81_len)) (first_slc (hH48.slc (i := 0) rfl enc81_len) (rdLe_rdRow _) enc81_len) hl51) ?_
        rintro s51 M53 (hH53 : Has Fr M53 [.vec 81 2 ([(S_api_Span.mk v2 v3)] : List S_api_Span).length s47 (([(S_api_Span.mk v2 v3)] : List S_api_Span).flatMap enc81), .vec 81 2 l51.length s51 (l51.flatMap enc81)])
        refine Run.opG wantS_none (ex_assign rfl) rfl ?_
        refine Run.opsEnd (Run.seq (Run.region ?_))
        exact Run.pick [11] (ref05_Gaps_5_ok F l51 s51 _ _ _ (hH53.pick [1] rfl rfl) h)
      · have h := bif_f hc45 h
        refine Run.condF' rfl hc45 ?_
        refine Run.skip (Run.seq (Run.region ?_))
        exact Run.pick [11] (ref05_Gaps_5_ok F l27 s27 _ _ _ hH h)

def ref05_Gaps (F : Nat) (a0 : (List S_api_Channel)) (a1 : (List S_api_Frame)) (a2 a3 : Int) : Option ((List S_api_Span) × Int) :=
  bnd (ref05_span F a0 a1 a2 a3) fun r22 =>
  bif (!(r22 == (0 : Int))) then
    some (([] : List S_api_Span), r22)
  else
    ref05_Gaps_1 F F a1 a2 a3 (0 : Int) ([] : List S_api_Span)

theorem ref05_Gaps_ok (F : Nat) (a0 : (List S_api_Channel)) (a1 : (List S_api_Frame)) (a2 a3 : Int) (s0 s1 : SV) (r : (List S_api_Span) × Int) (M : Mem) (hs0 : Slc (rd M) 3 (FlatR enc86) s0 a0) (hs1 : Slc (rd M) 2 (rep84 (rd M)) s1 a1) (h : ref05_Gaps F a0 a1 a2 a3 = some r) : CallsM Tryz.prog 24 [s0, s1, (.int .i64 a2), (.int .i64 a3)] M (fun s M' => ∃ q1, s = (.tuple [q1, (.int .i64 r.2)]) ∧ New M M' [.vec 81 2 r.1.length q1 (r.1.flatMap enc81)]) := by
  refine CallsM.fresh (Q := ref05_Gaps_post r) Tryz.func24 rfl rfl ?_ (by rintro s Me ⟨q1, rfl, hx⟩ ha hw; exact ⟨_, rfl, New.of rfl hx ha hw⟩)
  rw [ref05_Gaps] at h
  replace hs0 := hs0.mono (rdLe_frozen M) (fun _ _ h => h)
  replace hs1 := hs1.mono (rdLe_frozen M) (fun _ _ => rep84_mo (rdLe_frozen M))
  have hH := Has.nil (frozen M)
  refine Run.seq (Run.region ?_)
  refine Run.opG wantS_none (ex_assign rfl) rfl ?_
  refine Run.opG wantS_none (ex_assign rfl) rfl ?_
  refine Run.opsEnd (Run.seq (Run.seq (Run.region ?_)))
  refine Run.opG wantS_none (ex_move rfl) rfl ?_
  refine Run.opG wantS_none (ex_move rfl) rfl ?_
  refine Run.opG wantS_none (ex_move rfl) rfl ?_
  refine Run.opG wantS_none (ex_move rfl) rfl ?_
  obtain ⟨r22, hr22, h⟩ := bnd_some h
  refine Run.callP wantS_none (ex_call rfl mkk56 cal56) rfl (ref05_span_ok F a0 a1 a2 a3 s0 s1 _ _ (hH.slcF hs0) ((hs1).mono hH.le (fun _ _ => rep84_mo hH.le)) hr22) ?_
  refine Run.opG wantS_none (ex_assign rfl) rfl ?_
  refine Run.opsEnd (Run.seq (Run.region ?_))
  refine Run.opG wantS_none (ex_move rfl) rfl ?_
  refine Run.opG wantS_none (ex_neq rfl rfl) rfl ?_
  refine Run.opsEnd ?_
  rcases btf ((!(r22 == (0 : Int)))) with hc24 | hc24
  · have h := bif_t hc24 h
    refine Run.condT' rfl hc24 ?_
    refine Run.seq (Run.region ?_)
    refine Run.opG wantS_none (ex_move rfl) rfl ?_
    refine Run.opG wantS_none (ex_assign rfl) rfl ?_
    refine Run.opG wantS_none (ex_assign rfl) rfl ?_
    refine Run.opsEnd ?_
    have hH26 : Has (ro (frozen M)) (frozen M) [.vec 81 2 ([] : List S_api_Span).length .nils (([] : List S_api_Span).flatMap enc81)] := hH.nils 81 2
    cases h
    exact Run.ret Tryz.func24 rfl (res_tmp rfl (res_tmp rfl res_nil)) ⟨_, rfl, (hH26.pick [0] rfl rfl).upF (none_le _)⟩
  · have h := bif_f hc24 h
    refine Run.condF' rfl hc24 ?_
    refine Run.skip (Run.seq (Run.region ?_))
    refine Run.opG wantS_none (ex_assign rfl) rfl ?_
    refine Run.opsEnd (Run.seq (Run.seq (Run.region ?_)))
    refine Run.opG wantS_none (ex_assign rfl) rfl ?_
    refine Run.opsEnd (Run.block (Run.loop ?_))
    have hH28 : Has (ro (frozen M)) (frozen M) [.vec 81 2 ([] : List S_api_Span).length .nils (([] : List S_api_Span).flatMap enc81)] := hH.nils 81 2
    exact Run.pick [1, 2, 3, 11, 12] (ref05_Gaps_1_ok F F a1 a2 a3 (0 : Int) ([] : List S_api_Span) s1 .nils _ _ _ hs1 hH28 h)

theorem mkk24 : makeK Tryz.prog 24 = none := by kernel_rfl
theorem cal24 : callable Tryz.prog 24 = true := by kernel_rfl
theorem agk3 : aggK Tryz.prog 3 = some .int := by kernel_rfl
theorem agk81 : aggK Tryz.prog 81 = some (.st [⟨ "From", 3, 0, false, "", "", 0⟩, ⟨ "To", 3, 1, false, "", "", 8⟩]) := by kernel_rfl
theorem aeq81 : aggEq Tryz.prog 81 = false := by kernel_rfl
theorem plan25_1_1_0_1_0_0_1_0_0_0 : planOf Tryz.prog (opsC (atC Tryz.prog 25 [1, 1, 0, 1, 0, 0, 1, 0, 0, 0])) = some [.fl 0, .fl 1, .fl 2, .fl 3, .fl 4, .fl 5, .fl 6, .fl 7, .fl 8, .sync] := by kernel_rfl
abbrev law05_sameSpans_post (r : Bool) : SV → Mem → Prop := fun s _ => s = (.bool r)

def law05_sameSpans_1 (F : Nat) : Nat → (List S_api_Span) → (List S_api_Span) → Int → Option (Bool)
  | 0, _, _, _ => none
  | N + 1, v0, v1, v5 =>
    bif (decide (v5 < (v0.length : Int))) then
      bnd (idx v0 v5) fun x23 =>
      bnd (idx v1 v5) fun x24 =>
      bif (!((x23.From == x24.From) && ((x23.To == x24.To) && true))) then
        some false
      else
        (law05_sameSpans_1 F N) v0 v1 (w64 (v5 + (1 : Int)))
    else
      some true

theorem law05_sameSpans_1_ok (F : Nat) : ∀ (N : Nat), ∀ (v0 v1 : (List S_api_Span)) (v5 : Int) (sv0 sv1 : SV) (Fr : Rd) (M : Mem) (r : Bool) (hv0 : Slc Fr 2 (FlatR enc81) sv0 v0) (hv1 : Slc Fr 2 (FlatR enc81) sv1 v1) (hH : Has Fr M []), law05_sameSpans_1 F N v0 v1 v5 = some r → Run Tryz.prog ⟨⟨25, [], none⟩, []⟩ 26 (law05_sameSpans_post r) [(0, sv0), (1, sv1), (5, (.int .i64 v5))] [codeC Tryz.prog 25 [1, 1, 0, 1, 0, 0], loopC Tryz.prog 25 [1, 1, 0, 1, 0, 0], .inBlock 0, codeC Tryz.prog 25 [1, 1, 1]] M := by
  intro N
  induction N with
  | zero =>
    intro v0 v1 v5 sv0 sv1 Fr M r hv0 hv1 hH h
    simp [law05_sameSpans_1] at h
  | succ N ih =>
    intro v0 v1 v5 sv0 sv1 Fr M r hv0 hv1 hH h
    rw [law05_sameSpans_1] at h
    refine Run.seq (Run.seq (Run.region ?_))
    refine Run.opG wantS_none (ex_move rfl) rfl ?_
    refine Run.opG wantS_none (ex_move rfl) rfl ?_
    refine Run.opG wantS_none (ex_len' rfl hv0 lenk71) rfl ?_
    refine Run.opG wantS_none (ex_lss rfl rfl) rfl ?_
    refine Run.opsEnd ?_
    rcases btf ((decide (v5 < (v0.length : Int)))) with hc22 | hc22
    · have h := bif_t hc22 h
      refine Run.condT' rfl hc22 ?_
      refine Run.skip (Run.seq (Run.block (Run.seq ?_)))
      refine Run.drawG plan25_1_1_0_1_0_0_1_0_0_0 ?_
      refine DrawG.fl rfl (ev_ex wantS_none (ex_move rfl)) rfl ?_
      refine DrawG.fl rfl (ev_ex wantS_none (ex_move rfl)) rfl ?_
      obtain ⟨x23, hx23, h⟩ := bnd_some h
      obtain ⟨p23, o23, _, hx23, hp23, rfl⟩ := sl_elem (P := Tryz.prog) (t := 71) (kk := .i64) hv0 hx23 els71
      refine DrawG.fl rfl (ev_ex wantS_none (ex_elX rfl rfl hx23)) rfl ?_
      refine DrawG.fl rfl (ev_ex wantS_none (ex_loadA rfl (hH.ptrF hp23) rdLe_rfl agg81 rfl rfl rfl)) rfl ?_
      refine DrawG.fl rfl (ev_ex wantS_none (ex_move rfl)) rfl ?_
      refine DrawG.fl rfl (ev_ex wantS_none (ex_move rfl)) rfl ?_
      obtain ⟨x24, hx24, h⟩ := bnd_some h
      obtain ⟨p24, o24, _, hx24, hp24, rfl⟩ := sl_elem (P := Tryz.prog) (t := 71) (kk := .i64) hv1 hx24 els71
      refine DrawG.fl rfl (ev_ex wantS_none (ex_elX rfl rfl hx24)) rfl ?_
      refine DrawG.fl rfl (ev_ex wantS_none (ex_loadA rfl (hH.ptrF hp24) rdLe_rfl agg81 rfl rfl rfl)) rfl ?_
      refine DrawG.fl rfl (ev_ex wantS_none (ex_neqA rfl rfl aeq81 (eqA_st agk81 (eqFs_cons (by decide) (part_one agg3 rfl) (part_one agg3 rfl) (eqA_int agk3) (eqFs_cons (by decide) (part_one agg3 rfl) (part_one agg3 rfl) (eqA_int agk3) eqFs_nil))))) rfl ?_
      refine DrawG.sync ?_
      refine DrawG.nil ?_
      rcases btf ((!((x23.From == x24.From) && ((x23.To == x24.To) && true)))) with hc25 | hc25
      · have h := bif_t hc25 h
        refine Run.condT' rfl hc25 ?_
        refine Run.seq (Run.region ?_)
        refine Run.opG wantS_none (ex_assign rfl) rfl ?_
        refine Run.opsEnd ?_
        cases h
        exact Run.ret Tryz.func25 rfl (res_tmp rfl res_nil) rfl
      · have h := bif_f hc25 h
        refine Run.condF' rfl hc25 ?_
        refine Run.skip (Run.inBlock (Run.region ?_))
        refine Run.opG wantS_none (ex_move rfl) rfl ?_
        refine Run.opG wantS_none (ex_add rfl rfl) rfl ?_
        refine Run.opG wantS_none (ex_assign rfl) rfl ?_
        refine Run.opsEnd (Run.inLoop ?_)
        exact Run.pick [0, 1, 5] (ih v0 v1 (w64 (v5 + (1 : Int))) sv0 sv1 _ _ _ hv0 hv1 hH h)
    · have h := bif_f hc22 h
      refine Run.condF' rfl hc22 ?_
      refine Run.exit rfl (Run.seq (Run.region ?_))
      refine Run.opG wantS_none (ex_assign rfl) rfl ?_
      refine Run.opsEnd ?_
      cases h
      exact Run.ret Tryz.func25 rfl (res_tmp rfl res_nil) rfl

def law05_sameSpans (F : Nat) (a0 a1 : (List S_api_Span)) : Option (Bool) :=
  bif (!((a0.length : Int) == (a1.length : Int))) then
    some false
  else
    law05_sameSpans_1 F F a0 a1 (0 : Int)

theorem law05_sameSpans_ok (F : Nat) (a0 a1 : (List S_api_Span)) (s0 s1 : SV) (r : Bool) (M : Mem) (hs0 : Slc (rd M) 2 (FlatR enc81) s0 a0) (hs1 : Slc (rd M) 2 (FlatR enc81) s1 a1) (h : law05_sameSpans F a0 a1 = some r) : CallsM Tryz.prog 25 [s0, s1] M (fun s M' => s = (.bool r) ∧ M' = M) := by
  refine CallsM.plain Tryz.func25 rfl rfl rfl (show Run _ _ _ (law05_sameSpans_post r) _ _ _ from ?_)
  rw [law05_sameSpans] at h
  replace hs0 := hs0.mono (rdLe_frozen M) (fun _ _ h => h)
  replace hs1 := hs1.mono (rdLe_frozen M) (fun _ _ h => h)
  have hH := Has.nil (frozen M)
  refine Run.seq (Run.region ?_)
  refine Run.opG wantS_none (ex_assign rfl) rfl ?_
  refine Run.opsEnd (Run.seq (Run.seq (Run.region ?_)))
  refine Run.opG wantS_none (ex_move rfl) rfl ?_
  refine Run.opG wantS_none (ex_len' rfl hs0 lenk71) rfl ?_
  refine Run.opG wantS_none (ex_move rfl) rfl ?_
  refine Run.opG wantS_none (ex_len' rfl hs1 lenk71) rfl ?_
  refine Run.opG wantS_none (ex_neq rfl rfl) rfl ?_
  refine Run.opsEnd ?_
  rcases btf ((!((a0.length : Int) == (a1.length : Int)))) with hc21 | hc21
  · have h := bif_t hc21 h
    refine Run.condT' rfl hc21 ?_
    refine Run.seq (Run.region ?_)
    refine Run.opG wantS_none (ex_assign rfl) rfl ?_
    refine Run.opsEnd ?_
    cases h
    exact Run.ret Tryz.func25 rfl (res_tmp rfl res_nil) rfl
  · have h := bif_f hc21 h
    refine Run.condF' rfl hc21 ?_
    refine Run.skip (Run.seq (Run.seq (Run.region ?_)))
    refine Run.opG wantS_none (ex_assign rfl) rfl ?_
    refine Run.opsEnd (Run.block (Run.loop ?_))
    exact Run.pick [0, 1, 5] (law05_sameSpans_1_ok F F a0 a1 (0 : Int) s0 s1 _ _ _ hs0 hs1 hH h)

theorem mkk25 : makeK Tryz.prog 25 = none := by kernel_rfl
theorem cal25 : callable Tryz.prog 25 = true := by kernel_rfl
theorem mkk57 : makeK Tryz.prog 57 = none := by kernel_rfl
theorem cal57 : callable Tryz.prog 57 = true := by kernel_rfl
theorem mkk58 : makeK Tryz.prog 58 = none := by kernel_rfl
theorem cal58 : callable Tryz.prog 58 = true := by kernel_rfl
theorem appt26_26 : appT Tryz.prog 26 26 = some (⟨1, 8, [(.int .i64 0)], 3⟩ : Elt) := by kernel_rfl
abbrev record_Series_post (r : (List Int) × Int) : SV → Mem → Prop := fun s Me => ∃ q1, s = (.tuple [q1, (.int .i64 r.2)]) ∧ Has (fun _ => none) Me [.vec 3 1 r.1.length q1 (r.1.flatMap enc3)]

def record_Series_4 (F : Nat) (hd2 : Int → Int → Int → (List S_api_Frame) → Int → Int → (List Int) → Option ((List Int) × Int)) (v3 v4 v13 : Int) (v38 : (List S_api_Frame)) (v39 v40 : Int) (l64 : (List Int)) : Option ((List Int) × Int) :=
  hd2 v3 v4 v13 v38 v39 (w64 (v40 + (1 : Int))) l64

theorem record_Series_4_ok (F : Nat) (hd2 : Int → Int → Int → (List S_api_Frame) → Int → Int → (List Int) → Option ((List Int) × Int)) (hhd2 : ∀ (v3 v4 v13 : Int) (v38 : (List S_api_Frame)) (v39 v40 : Int) (l48 : (List Int)) (sv38 s48 : SV) (Fr : Rd) (M : Mem) (r : (List Int) × Int) (hv38 : Slc Fr 2 (rep84 Fr) sv38 v38) (hH : Has Fr M [.vec 3 1 l48.length s48 (l48.flatMap enc3)]), hd2 v3 v4 v13 v38 v39 v40 l48 = some r → Run Tryz.prog ⟨⟨26, [], none⟩, []⟩ 63 (record_Series_post r) [(3, (.int .i64 v3)), (4, (.int .i64 v4)), (13, (.int .i64 v13)), (14, s48), (38, sv38), (39, (.int .i64 v39)), (40, (.int .i64 v40))] [codeC Tryz.prog 26 [1, 1, 1, 1, 1, 0, 1, 0, 0], loopC Tryz.prog 26 [1, 1, 1, 1, 1, 0, 1, 0, 0], .inBlock 1, codeC Tryz.prog 26 [1, 1, 1, 1, 1, 1]] M) : ∀ (v3 v4 v13 : Int) (v38 : (List S_api_Frame)) (v39 v40 : Int) (l64 : (List Int)) (sv38 s64 : SV) (Fr : Rd) (M : Mem) (r : (List Int) × Int) (hv38 : Slc Fr 2 (rep84 Fr) sv38 v38) (hH : Has Fr M [.vec 3 1 l64.length s64 (l64.flatMap enc3)]), record_Series_4 F hd2 v3 v4 v13 v38 v39 v40 l64 = some r → Run Tryz.prog ⟨⟨26, [], none⟩, []⟩ 63 (record_Series_post r) [(3, (.int .i64 v3)), (4, (.int .i64 v4)), (13, (.int .i64 v13)), (14, s64), (38, sv38), (39, (.int .i64 v39)), (40, (.int .i64 v40))] [itemC Tryz.prog 26 [1, 1, 1, 1, 1, 0, 1, 0, 0, 1, 1, 1] 0, loopC Tryz.prog 26 [1, 1, 1, 1, 1, 0, 1, 0, 0], .inBlock 1, codeC Tryz.prog 26 [1, 1, 1, 1, 1, 1]] M := by
  intro v3 v4 v13 v38 v39 v40 l64 sv38 s64 Fr M r hv38 hH h
  rw [record_Series_4] at h
  refine Run.opG wantS_none (ex_add rfl rfl) rfl ?_
  refine Run.opG wantS_none (ex_move rfl) rfl ?_
  refine Run.opsEnd (Run.inLoop ?_)
  exact Run.pick [3, 4, 13, 14, 38, 39, 40] (hhd2 v3 v4 v13 v38 v39 (w64 (v40 + (1 : Int))) l64 sv38 s64 _ _ _ hv38 hH h)

def record_Series_3 (F : Nat) (hd2 : Int → Int → Int → (List S_api_Frame) → Int → Int → (List Int) → Option ((List Int) × Int)) (v3 v4 v13 : Int) (v38 : (List S_api_Frame)) (v39 v40 : Int) (v53 : Bool) (c54_0 : Int) (c54_1 : (List (List Int))) (l48 : (List Int)) : Option ((List Int) × Int) :=
  bif v53 then
    bnd (idx c54_1 v13) fun x60 =>
    bnd (apd 8 l48 x60) fun l63 =>
    record_Series_4 F hd2 v3 v4 v13 v38 v39 v40 l63
  else
    record_Series_4 F hd2 v3 v4 v13 v38 v39 v40 l48

theorem record_Series_3_ok (F : Nat) (hd2 : Int → Int → Int → (List S_api_Frame) → Int → Int → (List Int) → Option ((List Int) × Int)) (hhd2 : ∀ (v3 v4 v13 : Int) (v38 : (List S_api_Frame)) (v39 v40 : Int) (l48 : (List Int)) (sv38 s48 : SV) (Fr : Rd) (M : Mem) (r : (List Int) × Int) (hv38 : Slc Fr 2 (rep84 Fr) sv38 v38) (hH : Has Fr M [.vec 3 1 l48.length s48 (l48.flatMap enc3)]), hd2 v3 v4 v13 v38 v39 v40 l48 = some r → Run Tryz.prog ⟨⟨26, [], none⟩, []⟩ 63 (record_Series_post r) [(3, (.int .i64 v3)), (4, (.int .i64 v4)), (13, (.int .i64 v13)), (14, s48), (38, sv38), (39, (.int .i64 v39)), (40, (.int .i64 v40))] [codeC Tryz.prog 26 [1, 1, 1, 1, 1, 0, 1, 0, 0], loopC Tryz.prog 26 [1, 1, 1, 1, 1, 0, 1, 0, 0], .inBlock 1, codeC Tryz.prog 26 [1, 1, 1, 1, 1, 1]] M) : ∀ (v3 v4 v13 : Int) (v38 : (List S_api_Frame)) (v39 v40 : Int) (v53 : Bool) (c54_0 : Int) (c54_1 : (List (List Int))) (l48 : (List Int)) (sv38 sc54_1 s48 : SV) (b54 : Pos) (Fr : Rd) (M : Mem) (r : (List Int) × Int) (hv38 : Slc Fr 2 (rep84 Fr) sv38 v38) (hc54_1 : Slc Fr 1 (rep26 Fr) sc54_1 c54_1) (hH : Has Fr M [.vec 3 1 l48.length s48 (l48.flatMap enc3), .obj b54 (.row 84 .whole [(.int .i64 c54_0), sc54_1])]), record_Series_3 F hd2 v3 v4 v13 v38 v39 v40 v53 c54_0 c54_1 l48 = some r → Run Tryz.prog ⟨⟨26, [], none⟩, []⟩ 63 (record_Series_post r) [(3, (.int .i64 v3)), (4, (.int .i64 v4)), (13, (.int .i64 v13)), (14, s48), (16, (.ptr b54 0)), (38, sv38), (39, (.int .i64 v39)), (40, (.int .i64 v40)), (53, (.bool v53))] [codeC Tryz.prog 26 [1, 1, 1, 1, 1, 0, 1, 0, 0, 1, 1, 0, 0, 1, 1], .inBlock 2, codeC Tryz.prog 26 [1, 1, 1, 1, 1, 0, 1, 0, 0, 1, 1, 1], loopC Tryz.prog 26 [1, 1, 1, 1, 1, 0, 1, 0, 0], .inBlock 1, codeC Tryz.prog 26 [1, 1, 1, 1, 1, 1]] M := by
  intro v3 v4 v13 v38 v39 v40 v53 c54_0 c54_1 l48 sv38 sc54_1 s48 b54 Fr M r hv38 hc54_1 hH h
  rw [record_Series_3] at h
  rcases btf (v53) with hc58 | hc58
  · have h := bif_t hc58 h
    refine Run.condT' rfl hc58 ?_
    refine Run.region ?_
    refine Run.opG wantS_none (ex_move rfl) rfl ?_
    refine Run.opG wantS_none (ex_fieldAddr rfl off84_1) rfl ?_
    refine Run.opG wantS_none (ex_load1 rfl (hH.cells (i := 1) rfl 1 rfl) rdLe_rfl agg82) rfl ?_
    refine Run.opG wantS_none (ex_move rfl) rfl ?_
    obtain ⟨x60, hx60, h⟩ := bnd_some h
    obtain ⟨p60, o60, _, hx60, hp60, ⟨q60_0, rfl, hq60_0⟩⟩ := sl_elem (P := Tryz.prog) (t := 82) (kk := .i64) hc54_1 hx60 els82
    refine Run.opG wantS_none (ex_elX rfl rfl hx60) rfl ?_
    refine Run.opG wantS_none (ex_load1 rfl (hH.ptrF hp60) rdLe_rfl agg26) rfl ?_
    obtain ⟨l63, hl63, h⟩ := bnd_some h
    refine Run.opX wantS_none rfl (ExG.append rfl rfl hH (i := 0) rfl enc3_len rfl enc3_ones appt26_26 rfl (len_slc hq60_0) (first_slc hq60_0 (rdLe_roF hH) enc3_len) hl63) ?_
    rintro s63 M65 (hH65 : Has Fr M65 [.vec 3 1 l63.length s63 (l63.flatMap enc3), .obj b54 (.row 84 .whole [(.int .i64 c54_0), sc54_1])])
    refine Run.opG wantS_none (ex_assign rfl) rfl ?_
    refine Run.opsEnd (Run.inBlock (Run.region ?_))
    exact Run.pick [3, 4, 13, 14, 38, 39, 40] (record_Series_4_ok F hd2 hhd2 v3 v4 v13 v38 v39 v40 l63 sv38 s63 _ _ _ hv38 (hH65.pick [0] rfl rfl) h)
  · have h := bif_f hc58 h
    refine Run.condF' rfl hc58 ?_
    refine Run.skip (Run.inBlock (Run.region ?_))
    exact Run.pick [3, 4, 13, 14, 38, 39, 40] (record_Series_4_ok F hd2 hhd2 v3 v4 v13 v38 v39 v40 l48 sv38 s48 _ _ _ hv38 (hH.pick [0] rfl rfl) h)

def record_Series_2 (F : Nat) : Nat → Int → Int → Int → (List S_api_Frame) → Int → Int → (List Int) → Option ((List Int) × Int)
  | 0, _, _, _, _, _, _, _ => none
  | N + 1, v3, v4, v13, v38, v39, v40, l48 =>
    bif (decide (v40 < v39)) then
      bnd (idx v38 v40) fun x52 =>
      bif (decide (v3 ≤ x52.Start)) then
        record_Series_3 F (record_Series_2 F N) v3 v4 v13 v38 v39 v40 (decide (x52.Start < v4)) x52.Start x52.Samples l48
      else
        record_Series_3 F (record_Series_2 F N) v3 v4 v13 v38 v39 v40 false x52.Start x52.Samples l48
    else
      some (l48, (0 : Int))

theorem record_Series_2_ok (F : Nat) : ∀ (N : Nat), ∀ (v3 v4 v13 : Int) (v38 : (List S_api_Frame)) (v39 v40 : Int) (l48 : (List Int)) (sv38 s48 : SV) (Fr : Rd) (M : Mem) (r : (List Int) × Int) (hv38 : Slc Fr 2 (rep84 Fr) sv38 v38) (hH : Has Fr M [.vec 3 1 l48.length s48 (l48.flatMap enc3)]), record_Series_2 F N v3 v4 v13 v38 v39 v40 l48 = some r → Run Tryz.prog ⟨⟨26, [], none⟩, []⟩ 63 (record_Series_post r) [(3, (.int .i64 v3)), (4, (.int .i64 v4)), (13, (.int .i64 v13)), (14, s48), (38, sv38), (39, (.int .i64 v39)), (40, (.int .i64 v40))] [codeC Tryz.prog 26 [1, 1, 1, 1, 1, 0, 1, 0, 0], loopC Tryz.prog 26 [1, 1, 1, 1, 1, 0, 1, 0, 0], .inBlock 1, codeC Tryz.prog 26 [1, 1, 1, 1, 1, 1]] M := by
  intro N
  induction N with
  | zero =>
    intro v3 v4 v13 v38 v39 v40 l48 sv38 s48 Fr M r hv38 hH h
    simp [record_Series_2] at h
  | succ N ih =>
    intro v3 v4 v13 v38 v39 v40 l48 sv38 s48 Fr M r hv38 hH h
    rw [record_Series_2] at h
    refine Run.seq (Run.region ?_)
    refine Run.opG wantS_none (ex_lss rfl rfl) rfl ?_
    refine Run.opsEnd (Run.seq ?_)
    rcases btf ((decide (v40 < v39))) with hc50 | hc50
    · have h := bif_t hc50 h
      refine Run.condT' rfl hc50 ?_
      refine Run.skip (Run.seq (Run.block (Run.seq (Run.region ?_))))
      obtain ⟨x52, hx52, h⟩ := bnd_some h
      obtain ⟨p52, o52, _, hx52, hp52, ⟨q52_0, rfl, hq52_0⟩⟩ := sl_elem (P := Tryz.prog) (t := 68) (kk := .i64) hv38 hx52 els68
      refine Run.opG wantS_none (ex_elX rfl rfl hx52) rfl ?_
      refine Run.opG wantS_none (ex_loadA rfl (hH.ptrF hp52) rdLe_rfl agg84 rfl rfl rfl) rfl ?_
      refine Run.opX wantS_none rfl (ExG.new (v := fun b => .ptr b 0) (ex_alloc zer84) hH) ?_
      rintro _ M55 ⟨b54, rfl, hH55⟩
      refine Run.opX wantS_none rfl (ExG.storeC (c' := [(.int .i64 x52.Start), q52_0]) rfl rfl rfl hH55 (i := 0) rfl sz84 rfl rfl rfl (ones_cons rfl (ones_cons (slc_one hq52_0) ones_nil)) rfl) ?_
      rintro _ M56 ⟨rfl, (hH56 : Has Fr M56 [.obj b54 (.row 84 .whole [(.int .i64 x52.Start), q52_0]), .vec 3 1 l48.length s48 (l48.flatMap enc3)])⟩
      refine Run.opsEnd (Run.seq (Run.region ?_))
      refine Run.opG wantS_none (ex_move rfl) rfl ?_
      refine Run.opG wantS_none (ex_fieldAddr rfl off84_0) rfl ?_
      refine Run.opG wantS_none (ex_load1 rfl (hH56.cells (i := 0) rfl 0 rfl) rdLe_rfl agg3) rfl ?_
      refine Run.opG wantS_none (ex_leq rfl rfl) rfl ?_
      refine Run.opG wantS_none (ex_move rfl) rfl ?_
      rcases btf ((decide (v3 ≤ x52.Start))) with hc57 | hc57
      · have h := bif_t hc57 h
        refine Run.opG (wantS_yes' rfl rfl hc57) (ex_fieldAddr rfl off84_0) rfl ?_
        refine Run.opG (wantS_yes' rfl rfl hc57) (ex_load1 rfl (hH56.cells (i := 0) rfl 0 rfl) rdLe_rfl agg3) rfl ?_
        refine Run.opG (wantS_yes' rfl rfl hc57) (ex_move rfl) rfl ?_
        refine Run.opG (wantS_yes' rfl rfl hc57) (ex_lss rfl rfl) rfl ?_
        refine Run.opG wantS_none (ex_pickT' rfl hc57 rfl rfl) rfl ?_
        refine Run.opsEnd ?_
        exact Run.pick [3, 4, 13, 14, 16, 38, 39, 40, 53] (record_Series_3_ok F (record_Series_2 F N) ih v3 v4 v13 v38 v39 v40 (decide (x52.Start < v4)) x52.Start x52.Samples l48 sv38 q52_0 s48 b54 _ _ _ hv38 hq52_0 (hH56.pick [1, 0] rfl rfl) h)
      · have h := bif_f hc57 h
        refine Run.no (wantS_not' rfl rfl hc57) rfl ?_
        refine Run.no (wantS_not' rfl rfl hc57) rfl ?_
        refine Run.no (wantS_not' rfl rfl hc57) rfl ?_
        refine Run.no (wantS_not' rfl rfl hc57) rfl ?_
        refine Run.opG wantS_none (ex_pickF' rfl hc57 rfl rfl) rfl ?_
        refine Run.opsEnd ?_
        exact Run.pick [3, 4, 13, 14, 16, 38, 39, 40, 53] (record_Series_3_ok F (record_Series_2 F N) ih v3 v4 v13 v38 v39 v40 false x52.Start x52.Samples l48 sv38 q52_0 s48 b54 _ _ _ hv38 hq52_0 (hH56.pick [1, 0] rfl rfl) h)
    · have h := bif_f hc50 h
      refine Run.condF' rfl hc50 ?_
      refine Run.exit rfl (Run.seq (Run.region ?_))
      refine Run.opG wantS_none (ex_move rfl) rfl ?_
      refine Run.opG wantS_none (ex_assign rfl) rfl ?_
      refine Run.opG wantS_none (ex_assign rfl) rfl ?_
      refine Run.opsEnd ?_
      cases h
      exact Run.ret Tryz.func26 rfl (res_tmp rfl (res_tmp rfl res_nil)) ⟨_, rfl, (hH.pick [0] rfl rfl).upF (none_le _)⟩

def record_Series_1 (F : Nat) : Nat → (List S_api_Channel) → Int → Int → (List S_api_Frame) → Int → Int → (List UInt8) → Option ((List Int) × Int)
  | 0, _, _, _, _, _, _, _ => none
  | N + 1, v0, v7, v8, v1_f1, v3_f1, v4_f1, c22_0 =>
    bif (decide (v8 < v7)) then
      bnd (idx v0 v8) fun x32 =>
      bif (x32.Name == c22_0) then
        bif (decide (v8 < (0 : Int))) then
          some (([] : List Int), (2 : Int))
        else
          bnd (record_gaps F v1_f1 v3_f1 v4_f1) fun r42 =>
          bif (decide ((0 : Int) < (r42.length : Int))) then
            some (([] : List Int), (4 : Int))
          else
            record_Series_2 F F v3_f1 v4_f1 v8 v1_f1 (v1_f1.length : Int) (0 : Int) ([] : List Int)
      else
        (record_Series_1 F N) v0 v7 (w64 (v8 + (1 : Int))) v1_f1 v3_f1 v4_f1 c22_0
    else
      bif (decide (((-1) : Int) < (0 : Int))) then
        some (([] : List Int), (2 : Int))
      else
        bnd (record_gaps F v1_f1 v3_f1 v4_f1) fun r71 =>
        bif (decide ((0 : Int) < (r71.length : Int))) then
          some (([] : List Int), (4 : Int))
        else
          record_Series_2 F F v3_f1 v4_f1 ((-1) : Int) v1_f1 (v1_f1.length : Int) (0 : Int) ([] : List Int)

theorem record_Series_1_ok (F : Nat) : ∀ (N : Nat), ∀ (v0 : (List S_api_Channel)) (v7 v8 : Int) (v1_f1 : (List S_api_Frame)) (v3_f1 v4_f1 : Int) (c22_0 : (List UInt8)) (sv0 sv1_f1 : SV) (b22 : Pos) (Fr : Rd) (M : Mem) (r : (List Int) × Int) (hv0 : Slc Fr 3 (FlatR enc86) sv0 v0) (hv1_f1 : Slc Fr 2 (rep84 Fr) sv1_f1 v1_f1) (hH : Has Fr M [.obj b22 (.row 9 .whole [(.str c22_0)])]), record_Series_1 F N v0 v7 v8 v1_f1 v3_f1 v4_f1 c22_0 = some r → Run Tryz.prog ⟨⟨57, [], none⟩, [.mk ⟨26, [], none⟩ 63 (treeOf [(1, sv1_f1), (3, (.int .i64 v3_f1)), (4, (.int .i64 v4_f1))]) [itemC Tryz.prog 26 [1, 1, 0] 2, codeC Tryz.prog 26 [1, 1, 1]]]⟩ 19 (record_Series_post r) [(0, sv0), (1, (.fn (.func 58) [] [(.ptr b22 0)])), (7, (.int .i64 v7)), (8, (.int .i64 v8))] [codeC Tryz.prog 57 [1, 0, 1, 0, 0], loopC Tryz.prog 57 [1, 0, 1, 0, 0], .inBlock 0, codeC Tryz.prog 57 [1, 1]] M := by
  intro N
  induction N with
  | zero =>
    intro v0 v7 v8 v1_f1 v3_f1 v4_f1 c22_0 sv0 sv1_f1 b22 Fr M r hv0 hv1_f1 hH h
    simp [record_Series_1] at h
  | succ N ih =>
    intro v0 v7 v8 v1_f1 v3_f1 v4_f1 c22_0 sv0 sv1_f1 b22 Fr M r hv0 hv1_f1 hH h
    rw [record_Series_1] at h
    refine Run.seq (Run.region ?_)
    refine Run.opG wantS_none (ex_lss rfl rfl) rfl ?_
    refine Run.opsEnd (Run.seq ?_)
    rcases btf ((decide (v8 < v7))) with hc30 | hc30
    · have h := bif_t hc30 h
      refine Run.condT' rfl hc30 ?_
      refine Run.skip (Run.seq (Run.block (Run.seq (Run.region ?_))))
      refine Run.opG wantS_none (ex_move rfl) rfl ?_
      refine Run.opG wantS_none (ex_assign rfl) rfl ?_
      refine Run.opsEnd (Run.seq (Run.region ?_))
      refine Run.opG wantS_none (ex_move rfl) rfl ?_
      refine Run.opG wantS_none (ex_move rfl) rfl ?_
      refine Run.opG wantS_none (ex_move rfl) rfl ?_
      obtain ⟨x32, hx32, h⟩ := bnd_some h
      obtain ⟨p32, o32, _, hx32, hp32, rfl⟩ := sl_elem (P := Tryz.prog) (t := 67) (kk := .i64) hv0 hx32 els67
      refine Run.opG wantS_none (ex_elX rfl rfl hx32) rfl ?_
      refine Run.opG wantS_none (ex_loadA rfl (hH.ptrF hp32) rdLe_rfl agg86 rfl rfl rfl) rfl ?_
      refine Run.enter wantS_none (ex_closure rfl rfl mkk58 cal58) Tryz.func58 rfl rfl ?_
      refine Run.seq (Run.region ?_)
      refine Run.opX wantS_none rfl (ExG.box rfl rfl hH) ?_
      rintro _ M35 ⟨b34, rfl, hH35⟩
      refine Run.opG wantS_none (ex_assign rfl) rfl ?_
      refine Run.opsEnd (Run.seq (Run.region ?_))
      refine Run.opG wantS_none (ex_fieldAddr rfl off86_0) rfl ?_
      refine Run.opG wantS_none (ex_load1 rfl (hH35.cells (i := 0) rfl 0 rfl) rdLe_rfl agg9) rfl ?_
      refine Run.opG wantS_none (ex_load1 rfl (hH35.cells (i := 1) rfl 0 rfl) rdLe_rfl agg9) rfl ?_
      refine Run.opG wantS_none (ex_eqlS rfl rfl) rfl ?_
      refine Run.opG wantS_none (ex_assign rfl) rfl ?_
      refine Run.opsEnd ?_
      refine Run.retTo Tryz.func58 rfl (res_tmp rfl res_nil) rfl ?_
      refine Run.opsEnd ?_
      rcases btf ((x32.Name == c22_0)) with hc36 | hc36
      · have h := bif_t hc36 h
        refine Run.condT' rfl hc36 ?_
        refine Run.seq (Run.region ?_)
        refine Run.opG wantS_none (ex_move rfl) rfl ?_
        refine Run.opG wantS_none (ex_assign rfl) rfl ?_
        refine Run.opsEnd ?_
        refine Run.retTo Tryz.func57 rfl (res_tmp rfl res_nil) rfl ?_
        refine Run.opG wantS_none (ex_assign rfl) rfl ?_
        refine Run.opsEnd (Run.seq (Run.block (Run.seq (Run.region ?_))))
        refine Run.opG wantS_none (ex_move rfl) rfl ?_
        refine Run.opG wantS_none (ex_lss rfl rfl) rfl ?_
        refine Run.opG wantS_none (ex_assign rfl) rfl ?_
        refine Run.opsEnd ?_
        rcases btf ((decide (v8 < (0 : Int)))) with hc37 | hc37
        · have h := bif_t hc37 h
          refine Run.condT' rfl hc37 ?_
          refine Run.seq (Run.region ?_)
          refine Run.opG wantS_none (ex_assign rfl) rfl ?_
          refine Run.opG wantS_none (ex_assign rfl) rfl ?_
          refine Run.opsEnd ?_
          have hH39 : Has Fr M35 [.vec 3 1 ([] : List Int).length .nils (([] : List Int).flatMap enc3), .obj b34 (.row 86 .whole [(.str x32.Name), (.int .i64 x32.Rate), (.int .i64 x32.Bits)]), .obj b22 (.row 9 .whole [(.str c22_0)])] := hH35.nils 3 1
          cases h
          exact Run.ret Tryz.func26 rfl (res_tmp rfl (res_tmp rfl res_nil)) ⟨_, rfl, (hH39.pick [0] rfl rfl).upF (none_le _)⟩
        · have h := bif_f hc37 h
          refine Run.condF' rfl hc37 ?_
          refine Run.seq (Run.region ?_)
          refine Run.opG wantS_none (ex_move rfl) rfl ?_
          refine Run.opG wantS_none (ex_move rfl) rfl ?_
          refine Run.opG wantS_none (ex_move rfl) rfl ?_
          obtain ⟨r42, hr42, h⟩ := bnd_some h
          refine Run.callX wantS_none (ex_call rfl mkk55 cal55) rfl (record_gaps_ok F v1_f1 v3_f1 v4_f1 sv1_f1 _ _ ((hv1_f1).mono hH35.le (fun _ _ => rep84_mo hH35.le)) hr42) ?_
          rintro s42_0 M44 ⟨_, rfl, hN42⟩
          have hH44 : Has Fr M44 [.vec 81 2 r42.length s42_0 (r42.flatMap enc81), .obj b34 (.row 86 .whole [(.str x32.Name), (.int .i64 x32.Rate), (.int .i64 x32.Bits)]), .obj b22 (.row 9 .whole [(.str c22_0)])] := hN42.1 _ _ hH35
          refine Run.opG wantS_none (ex_len' rfl (hH44.slc (i := 0) rfl enc81_len) lenk71) rfl ?_
          refine Run.opG wantS_none (ex_gtr rfl rfl) rfl ?_
          refine Run.opG wantS_none (ex_assign rfl) rfl ?_
          refine Run.opsEnd ?_
          rcases btf ((decide ((0 : Int) < (r42.length : Int)))) with hc45 | hc45
          · have h := bif_t hc45 h
            refine Run.condT' rfl hc45 ?_
            refine Run.seq (Run.region ?_)
            refine Run.opG wantS_none (ex_assign rfl) rfl ?_
            refine Run.opG wantS_none (ex_assign rfl) rfl ?_
            refine Run.opsEnd ?_
            have hH47 : Has Fr M44 [.vec 3 1 ([] : List Int).length .nils (([] : List Int).flatMap enc3), .vec 81 2 r42.length s42_0 (r42.flatMap enc81), .obj b34 (.row 86 .whole [(.str x32.Name), (.int .i64 x32.Rate), (.int .i64 x32.Bits)]), .obj b22 (.row 9 .whole [(.str c22_0)])] := hH44.nils 3 1
            cases h
            exact Run.ret Tryz.func26 rfl (res_tmp rfl (res_tmp rfl res_nil)) ⟨_, rfl, (hH47.pick [0] rfl rfl).upF (none_le _)⟩
          · have h := bif_f hc45 h
            refine Run.condF' rfl hc45 ?_
            refine Run.skip (Run.inBlock (Run.seq (Run.region ?_)))
            refine Run.opG wantS_none (ex_assign rfl) rfl ?_
            refine Run.opsEnd (Run.seq (Run.seq (Run.region ?_)))
            refine Run.opG wantS_none (ex_move rfl) rfl ?_
            refine Run.opG wantS_none (ex_len' rfl hv1_f1 lenk68) rfl ?_
            refine Run.opG wantS_none (ex_move rfl) rfl ?_
            refine Run.opsEnd (Run.block (Run.loop ?_))
            have hH49 : Has Fr M44 [.vec 3 1 ([] : List Int).length .nils (([] : List Int).flatMap enc3), .vec 81 2 r42.length s42_0 (r42.flatMap enc81), .obj b34 (.row 86 .whole [(.str x32.Name), (.int .i64 x32.Rate), (.int .i64 x32.Bits)]), .obj b22 (.row 9 .whole [(.str c22_0)])] := hH44.nils 3 1
            exact Run.pick [3, 4, 13, 14, 38, 39, 40] (record_Series_2_ok F F v3_f1 v4_f1 v8 v1_f1 (v1_f1.length : Int) (0 : Int) ([] : List Int) sv1_f1 .nils _ _ _ hv1_f1 (hH49.pick [0] rfl rfl) h)
      · have h := bif_f hc36 h
        refine Run.condF' rfl hc36 ?_
        refine Run.skip (Run.inBlock (Run.region ?_))
        refine Run.opG wantS_none (ex_add rfl rfl) rfl ?_
        refine Run.opG wantS_none (ex_move rfl) rfl ?_
        refine Run.opsEnd (Run.inLoop ?_)
        exact Run.low (.cons (fle_pick [1, 3, 4] rfl) .nil) (Run.pick [0, 1, 7, 8] (ih v0 v7 (w64 (v8 + (1 : Int))) v1_f1 v3_f1 v4_f1 c22_0 sv0 sv1_f1 b22 _ _ _ hv0 hv1_f1 (hH35.pick [1] rfl rfl) h))
    · have h := bif_f hc30 h
      refine Run.condF' rfl hc30 ?_
      refine Run.exit rfl (Run.seq (Run.region ?_))
      refine Run.opG wantS_none (ex_assign rfl) rfl ?_
      refine Run.opsEnd ?_
      refine Run.retTo Tryz.func57 rfl (res_tmp rfl res_nil) rfl ?_
      refine Run.opG wantS_none (ex_assign rfl) rfl ?_
      refine Run.opsEnd (Run.seq (Run.block (Run.seq (Run.region ?_))))
      refine Run.opG wantS_none (ex_move rfl) rfl ?_
      refine Run.opG wantS_none (ex_lss rfl rfl) rfl ?_
      refine Run.opG wantS_none (ex_assign rfl) rfl ?_
      refine Run.opsEnd ?_
      rcases btf ((decide (((-1) : Int) < (0 : Int)))) with hc66 | hc66
      · have h := bif_t hc66 h
        refine Run.condT' rfl hc66 ?_
        refine Run.seq (Run.region ?_)
        refine Run.opG wantS_none (ex_assign rfl) rfl ?_
        refine Run.opG wantS_none (ex_assign rfl) rfl ?_
        refine Run.opsEnd ?_
        have hH68 : Has Fr M [.vec 3 1 ([] : List Int).length .nils (([] : List Int).flatMap enc3), .obj b22 (.row 9 .whole [(.str c22_0)])] := hH.nils 3 1
        cases h
        exact Run.ret Tryz.func26 rfl (res_tmp rfl (res_tmp rfl res_nil)) ⟨_, rfl, (hH68.pick [0] rfl rfl).upF (none_le _)⟩
      · have h := bif_f hc66 h
        refine Run.condF' rfl hc66 ?_
        refine Run.seq (Run.region ?_)
        refine Run.opG wantS_none (ex_move rfl) rfl ?_
        refine Run.opG wantS_none (ex_move rfl) rfl ?_
        refine Run.opG wantS_none (ex_move rfl) rfl ?_
        obtain ⟨r71, hr71, h⟩ := bnd_some h
        refine Run.callX wantS_none (ex_call rfl mkk55 cal55) rfl (record_gaps_ok F v1_f1 v3_f1 v4_f1 sv1_f1 _ _ ((hv1_f1).mono hH.le (fun _ _ => rep84_mo hH.le)) hr71) ?_
        rintro s71_0 M73 ⟨_, rfl, hN71⟩
        have hH73 : Has Fr M73 [.vec 81 2 r71.length s71_0 (r71.flatMap enc81), .obj b22 (.row 9 .whole [(.str c22_0)])] := hN71.1 _ _ hH
        refine Run.opG wantS_none (ex_len' rfl (hH73.slc (i := 0) rfl enc81_len) lenk71) rfl ?_
        refine Run.opG wantS_none (ex_gtr rfl rfl) rfl ?_
        refine Run.opG wantS_none (ex_assign rfl) rfl ?_
        refine Run.opsEnd ?_
        rcases btf ((decide ((0 : Int) < (r71.length : Int)))) with hc74 | hc74
        · have h := bif_t hc74 h
          refine Run.condT' rfl hc74 ?_
          refine Run.seq (Run.region ?_)
          refine Run.opG wantS_none (ex_assign rfl) rfl ?_
          refine Run.opG wantS_none (ex_assign rfl) rfl ?_
          refine Run.opsEnd ?_
          have hH76 : Has Fr M73 [.vec 3 1 ([] : List Int).length .nils (([] : List Int).flatMap enc3), .vec 81 2 r71.length s71_0 (r71.flatMap enc81), .obj b22 (.row 9 .whole [(.str c22_0)])] := hH73.nils 3 1
          cases h
          exact Run.ret Tryz.func26 rfl (res_tmp rfl (res_tmp rfl res_nil)) ⟨_, rfl, (hH76.pick [0] rfl rfl).upF (none_le _)⟩
        · have h := bif_f hc74 h
          refine Run.condF' rfl hc74 ?_
          refine Run.skip (Run.inBlock (Run.seq (Run.region ?_)))
          refine Run.opG wantS_none (ex_assign rfl) rfl ?_
          refine Run.opsEnd (Run.seq (Run.seq (Run.region ?_)))
          refine Run.opG wantS_none (ex_move rfl) rfl ?_
          refine Run.opG wantS_none (ex_len' rfl hv1_f1 lenk68) rfl ?_
          refine Run.opG wantS_none (ex_move rfl) rfl ?_
          refine Run.opsEnd (Run.block (Run.loop ?_))
          have hH78 : Has Fr M73 [.vec 3 1 ([] : List Int).length .nils (([] : List Int).flatMap enc3), .vec 81 2 r71.length s71_0 (r71.flatMap enc81), .obj b22 (.row 9 .whole [(.str c22_0)])] := hH73.nils 3 1
          exact Run.pick [3, 4, 13, 14, 38, 39, 40] (record_Series_2_ok F F v3_f1 v4_f1 ((-1) : Int) v1_f1 (v1_f1.length : Int) (0 : Int) ([] : List Int) sv1_f1 .nils _ _ _ hv1_f1 (hH78.pick [0] rfl rfl) h)

def record_Series (F : Nat) (a0 : (List S_api_Channel)) (a1 : (List S_api_Frame)) (a2 : (List UInt8)) (a3 a4 : Int) : Option ((List Int) × Int) :=
  bnd (record_checkSeconds F a0 a1 a3 a4) fun r25 =>
  bif (!(r25 == (0 : Int))) then
    some (([] : List Int), r25)
  else
    record_Series_1 F F a0 (a0.length : Int) (0 : Int) a1 a3 a4 a2

theorem record_Series_ok (F : Nat) (a0 : (List S_api_Channel)) (a1 : (List S_api_Frame)) (a2 : (List UInt8)) (a3 a4 : Int) (s0 s1 : SV) (r : (List Int) × Int) (M : Mem) (hs0 : Slc (rd M) 3 (FlatR enc86) s0 a0) (hs1 : Slc (rd M) 2 (rep84 (rd M)) s1 a1) (h : record_Series F a0 a1 a2 a3 a4 = some r) : CallsM Tryz.prog 26 [s0, s1, (.str a2), (.int .i64 a3), (.int .i64 a4)] M (fun s M' => ∃ q1, s = (.tuple [q1, (.int .i64 r.2)]) ∧ New M M' [.vec 3 1 r.1.length q1 (r.1.flatMap enc3)]) := by
  refine CallsM.fresh (Q := record_Series_post r) Tryz.func26 rfl rfl ?_ (by rintro s Me ⟨q1, rfl, hx⟩ ha hw; exact ⟨_, rfl, New.of rfl hx ha hw⟩)
  rw [record_Series] at h
  replace hs0 := hs0.mono (rdLe_frozen M) (fun _ _ h => h)
  replace hs1 := hs1.mono (rdLe_frozen M) (fun _ _ => rep84_mo (rdLe_frozen M))
  have hH := Has.nil (frozen M)
  refine Run.seq (Run.region ?_)
  refine Run.opX wantS_none rfl (ExG.box rfl rfl hH) ?_
  rintro _ M23 ⟨b22, rfl, hH23⟩
  refine Run.opG wantS_none (ex_assign rfl) rfl ?_
  refine Run.opG wantS_none (ex_assign rfl) rfl ?_
  refine Run.opsEnd (Run.seq (Run.seq (Run.region ?_)))
  refine Run.opG wantS_none (ex_move rfl) rfl ?_
  refine Run.opG wantS_none (ex_move rfl) rfl ?_
  refine Run.opG wantS_none (ex_move rfl) rfl ?_
  refine Run.opG wantS_none (ex_move rfl) rfl ?_
  obtain ⟨r25, hr25, h⟩ := bnd_some h
  refine Run.callP wantS_none (ex_call rfl mkk54 cal54) rfl (record_checkSeconds_ok F a0 a1 a3 a4 s0 s1 _ _ (hH23.slcF hs0) ((hs1).mono hH23.le (fun _ _ => rep84_mo hH23.le)) hr25) ?_
  refine Run.opG wantS_none (ex_assign rfl) rfl ?_
  refine Run.opsEnd (Run.seq (Run.region ?_))
  refine Run.opG wantS_none (ex_move rfl) rfl ?_
  refine Run.opG wantS_none (ex_neq rfl rfl) rfl ?_
  refine Run.opsEnd ?_
  rcases btf ((!(r25 == (0 : Int)))) with hc27 | hc27
  · have h := bif_t hc27 h
    refine Run.condT' rfl hc27 ?_
    refine Run.seq (Run.region ?_)
    refine Run.opG wantS_none (ex_move rfl) rfl ?_
    refine Run.opG wantS_none (ex_assign rfl) rfl ?_
    refine Run.opG wantS_none (ex_assign rfl) rfl ?_
    refine Run.opsEnd ?_
    have hH29 : Has (ro (frozen M)) M23 [.vec 3 1 ([] : List Int).length .nils (([] : List Int).flatMap enc3), .obj b22 (.row 9 .whole [(.str a2)])] := hH23.nils 3 1
    cases h
    exact Run.ret Tryz.func26 rfl (res_tmp rfl (res_tmp rfl res_nil)) ⟨_, rfl, (hH29.pick [0] rfl rfl).upF (none_le _)⟩
  · have h := bif_f hc27 h
    refine Run.condF' rfl hc27 ?_
    refine Run.skip (Run.seq (Run.region ?_))
    refine Run.opG wantS_none (ex_move rfl) rfl ?_
    refine Run.opG wantS_none (ex_makeFunc rfl rfl) rfl ?_
    refine Run.enter wantS_none (ex_call rfl mkk57 cal57) Tryz.func57 rfl rfl ?_
    refine Run.seq (Run.region ?_)
    refine Run.opG wantS_none (ex_assign rfl) rfl ?_
    refine Run.opsEnd (Run.seq (Run.seq (Run.region ?_)))
    refine Run.opG wantS_none (ex_move rfl) rfl ?_
    refine Run.opG wantS_none (ex_len' rfl hs0 lenk67) rfl ?_
    refine Run.opG wantS_none (ex_move rfl) rfl ?_
    refine Run.opsEnd (Run.block (Run.loop ?_))
    exact Run.low (.cons (fle_pick [1, 3, 4] rfl) .nil) (Run.pick [0, 1, 7, 8] (record_Series_1_ok F F a0 (a0.length : Int) (0 : Int) a1 a3 a4 a2 s0 s1 b22 _ _ _ hs0 hs1 hH23 h))

theorem mkk26 : makeK Tryz.prog 26 = none := by kernel_rfl
theorem cal26 : callable Tryz.prog 26 = true := by kernel_rfl
abbrev ref05_Series_post (r : (List Int) × Int) : SV → Mem → Prop := fun s Me => ∃ q1, s = (.tuple [q1, (.int .i64 r.2)]) ∧ Has (fun _ => none) Me [.vec 3 1 r.1.length q1 (r.1.flatMap enc3)]

def ref05_Series_2 (F : Nat) (hd1 : (List S_api_Channel) → (List S_api_Frame) → (List UInt8) → Int → Int → Int → Int → Option ((List Int) × Int)) (v0 : (List S_api_Channel)) (v1 : (List S_api_Frame)) (v2 : (List UInt8)) (v3 v4 v13 v14 : Int) : Option ((List Int) × Int) :=
  hd1 v0 v1 v2 v3 v4 v13 (w64 (v14 + (1 : Int)))

theorem ref05_Series_2_ok (F : Nat) (hd1 : (List S_api_Channel) → (List S_api_Frame) → (List UInt8) → Int → Int → Int → Int → Option ((List Int) × Int)) (hhd1 : ∀ (v0 : (List S_api_Channel)) (v1 : (List S_api_Frame)) (v2 : (List UInt8)) (v3 v4 v13 v14 : Int) (sv0 sv1 : SV) (Fr : Rd) (M : Mem) (r : (List Int) × Int) (hv0 : Slc Fr 3 (FlatR enc86) sv0 v0) (hv1 : Slc Fr 2 (rep84 Fr) sv1 v1) (hH : Has Fr M []), hd1 v0 v1 v2 v3 v4 v13 v14 = some r → Run Tryz.prog ⟨⟨27, [], none⟩, []⟩ 75 (ref05_Series_post r) [(0, sv0), (1, sv1), (2, (.str v2)), (3, (.int .i64 v3)), (4, (.int .i64 v4)), (13, (.int .i64 v13)), (14, (.int .i64 v14))] [codeC Tryz.prog 27 [1, 1, 1, 0, 1, 0, 0], loopC Tryz.prog 27 [1, 1, 1, 0, 1, 0, 0], .inBlock 0, codeC Tryz.prog 27 [1, 1, 1, 1]] M) : ∀ (v0 : (List S_api_Channel)) (v1 : (List S_api_Frame)) (v2 : (List UInt8)) (v3 v4 v13 v14 : Int) (sv0 sv1 : SV) (Fr : Rd) (M : Mem) (r : (List Int) × Int) (hv0 : Slc Fr 3 (FlatR enc86) sv0 v0) (hv1 : Slc Fr 2 (rep84 Fr) sv1 v1) (hH : Has Fr M []), ref05_Series_2 F hd1 v0 v1 v2 v3 v4 v13 v14 = some r → Run Tryz.prog ⟨⟨27, [], none⟩, []⟩ 75 (ref05_Series_post r) [(0, sv0), (1, sv1), (2, (.str v2)), (3, (.int .i64 v3)), (4, (.int .i64 v4)), (13, (.int .i64 v13)), (14, (.int .i64 v14))] [itemC Tryz.prog 27 [1, 1, 1, 0, 1, 0, 0, 1, 1] 0, loopC Tryz.prog 27 [1, 1, 1, 0, 1, 0, 0], .inBlock 0, codeC Tryz.prog 27 [1, 1, 1, 1]] M := by
  intro v0 v1 v2 v3 v4 v13 v14 sv0 sv1 Fr M r hv0 hv1 hH h
  rw [ref05_Series_2] at h
  refine Run.opG wantS_none (ex_move rfl) rfl ?_
  refine Run.opG wantS_none (ex_add rfl rfl) rfl ?_
  refine Run.opG wantS_none (ex_assign rfl) rfl ?_
  refine Run.opsEnd (Run.inLoop ?_)
  exact Run.pick [0, 1, 2, 3, 4, 13, 14] (hhd1 v0 v1 v2 v3 v4 v13 (w64 (v14 + (1 : Int))) sv0 sv1 _ _ _ hv0 hv1 hH h)

def ref05_Series_4 (F : Nat) (hd3 : (List S_api_Frame) → Int → Int → Int → Int → Int → (List Int) → Option ((List Int) × Int)) (v1 : (List S_api_Frame)) (v3 v4 v13 v16 v17 : Int) (l56 : (List Int)) : Option ((List Int) × Int) :=
  hd3 v1 v3 v4 v13 v16 (w64 (v17 + (1 : Int))) l56

theorem ref05_Series_4_ok (F : Nat) (hd3 : (List S_api_Frame) → Int → Int → Int → Int → Int → (List Int) → Option ((List Int) × Int)) (hhd3 : ∀ (v1 : (List S_api_Frame)) (v3 v4 v13 v16 v17 : Int) (l36 : (List Int)) (sv1 s36 : SV) (Fr : Rd) (M : Mem) (r : (List Int) × Int) (hv1 : Slc Fr 2 (rep84 Fr) sv1 v1) (hH : Has Fr M [.vec 3 1 l36.length s36 (l36.flatMap enc3)]), hd3 v1 v3 v4 v13 v16 v17 l36 = some r → Run Tryz.prog ⟨⟨27, [], none⟩, []⟩ 75 (ref05_Series_post r) [(1, sv1), (3, (.int .i64 v3)), (4, (.int .i64 v4)), (13, (.int .i64 v13)), (15, s36), (16, (.int .i64 v16)), (17, (.int .i64 v17))] [codeC Tryz.prog 27 [1, 1, 1, 1, 1, 1, 1, 0, 1, 0, 0], loopC Tryz.prog 27 [1, 1, 1, 1, 1, 1, 1, 0, 1, 0, 0], .inBlock 2, codeC Tryz.prog 27 [1, 1, 1, 1, 1, 1, 1, 1]] M) : ∀ (v1 : (List S_api_Frame)) (v3 v4 v13 v16 v17 : Int) (l56 : (List Int)) (sv1 s56 : SV) (Fr : Rd) (M : Mem) (r : (List Int) × Int) (hv1 : Slc Fr 2 (rep84 Fr) sv1 v1) (hH : Has Fr M [.vec 3 1 l56.length s56 (l56.flatMap enc3)]), ref05_Series_4 F hd3 v1 v3 v4 v13 v16 v17 l56 = some r → Run Tryz.prog ⟨⟨27, [], none⟩, []⟩ 75 (ref05_Series_post r) [(1, sv1), (3, (.int .i64 v3)), (4, (.int .i64 v4)), (13, (.int .i64 v13)), (15, s56), (16, (.int .i64 v16)), (17, (.int .i64 v17))] [itemC Tryz.prog 27 [1, 1, 1, 1, 1, 1, 1, 0, 1, 0, 0, 1, 1] 0, loopC Tryz.prog 27 [1, 1, 1, 1, 1, 1, 1, 0, 1, 0, 0], .inBlock 2, codeC Tryz.prog 27 [1, 1, 1, 1, 1, 1, 1, 1]] M := by
  intro v1 v3 v4 v13 v16 v17 l56 sv1 s56 Fr M r hv1 hH h
  rw [ref05_Series_4] at h
  refine Run.opG wantS_none (ex_move rfl) rfl ?_
  refine Run.opG wantS_none (ex_add rfl rfl) rfl ?_
  refine Run.opG wantS_none (ex_assign rfl) rfl ?_
  refine Run.opsEnd (Run.inLoop ?_)
  exact Run.pick [1, 3, 4, 13, 15, 16, 17] (hhd3 v1 v3 v4 v13 v16 (w64 (v17 + (1 : Int))) l56 sv1 s56 _ _ _ hv1 hH h)

def ref05_Series_3 (F : Nat) : Nat → (List S_api_Frame) → Int → Int → Int → Int → Int → (List Int) → Option ((List Int) × Int)
  | 0, _, _, _, _, _, _, _ => none
  | N + 1, v1, v3, v4, v13, v16, v17, l36 =>
    bif (decide (v17 < (v1.length : Int))) then
      bnd (idx v1 v17) fun x40 =>
      bnd (ref00_In F x40.Start v3 (w64 (v4 - (1 : Int)))) fun r44 =>
      bif r44 then
        bnd (idx v1 v17) fun x48 =>
        bnd (idx x48.Samples v13) fun x52 =>
        bnd (apd 8 l36 x52) fun l55 =>
        ref05_Series_4 F (ref05_Series_3 F N) v1 v3 v4 v13 (w64 (v16 + (1 : Int))) v17 l55
      else
        ref05_Series_4 F (ref05_Series_3 F N) v1 v3 v4 v13 v16 v17 l36
    else
      bif (decide (v16 < (w64 (v4 - v3)))) then
        some (([] : List Int), (4 : Int))
      else
        some (l36, (0 : Int))

theorem ref05_Series_3_ok (F : Nat) : ∀ (N : Nat), ∀ (v1 : (List S_api_Frame)) (v3 v4 v13 v16 v17 : Int) (l36 : (List Int)) (sv1 s36 : SV) (Fr : Rd) (M : Mem) (r : (List Int) × Int) (hv1 : Slc Fr 2 (rep84 Fr) sv1 v1) (hH : Has Fr M [.vec 3 1 l36.length s36 (l36.flatMap enc3)]), ref05_Series_3 F N v1 v3 v4 v13 v16 v17 l36 = some r → Run Tryz.prog ⟨⟨27, [], none⟩, []⟩ 75 (ref05_Series_post r) [(1, sv1), (3, (.int .i64 v3)), (4, (.int .i64 v4)), (13, (.int .i64 v13)), (15, s36), (16, (.int .i64 v16)), (17, (.int .i64 v17))] [codeC Tryz.prog 27 [1, 1, 1, 1, 1, 1, 1, 0, 1, 0, 0], loopC Tryz.prog 27 [1, 1, 1, 1, 1, 1, 1, 0, 1, 0, 0], .inBlock 2, codeC Tryz.prog 27 [1, 1, 1, 1, 1, 1, 1, 1]] M := by
  intro N
  induction N with
  | zero =>
    intro v1 v3 v4 v13 v16 v17 l36 sv1 s36 Fr M r hv1 hH h
    simp [ref05_Series_3] at h
  | succ N ih =>
    intro v1 v3 v4 v13 v16 v17 l36 sv1 s36 Fr M r hv1 hH h
    rw [ref05_Series_3] at h
    refine Run.seq (Run.seq (Run.region ?_))
    refine Run.opG wantS_none (ex_move rfl) rfl ?_
    refine Run.opG wantS_none (ex_move rfl) rfl ?_
    refine Run.opG wantS_none (ex_len' rfl hv1 lenk68) rfl ?_
    refine Run.opG wantS_none (ex_lss rfl rfl) rfl ?_
    refine Run.opsEnd ?_
    rcases btf ((decide (v17 < (v1.length : Int)))) with hc38 | hc38
    · have h := bif_t hc38 h
      refine Run.condT' rfl hc38 ?_
      refine Run.skip (Run.seq (Run.block (Run.seq (Run.region ?_))))
      refine Run.opG wantS_none (ex_move rfl) rfl ?_
      refine Run.opG wantS_none (ex_move rfl) rfl ?_
      obtain ⟨x40, hx40, h⟩ := bnd_some h
      obtain ⟨p40, o40, _, hx40, hp40, ⟨q40_0, rfl, hq40_0⟩⟩ := sl_elem (P := Tryz.prog) (t := 68) (kk := .i64) hv1 hx40 els68
      refine Run.opG wantS_none (ex_elX rfl rfl hx40) rfl ?_
      have hp42 := (hp40.fld (o := 0) rfl)
      refine Run.opG wantS_none (ex_fieldAddr rfl off84_0) rfl ?_
      refine Run.opG wantS_none (ex_load1 rfl (hH.ptrF hp42) rdLe_rfl agg3) rfl ?_
      refine Run.opG wantS_none (ex_move rfl) rfl ?_
      refine Run.opG wantS_none (ex_move rfl) rfl ?_
      refine Run.opG wantS_none (ex_sub rfl rfl) rfl ?_
      obtain ⟨r44, hr44, h⟩ := bnd_some h
      refine Run.callP wantS_none (ex_call rfl mkk22 cal22) rfl (ref00_In_ok F x40.Start v3 (w64 (v4 - (1 : Int))) _ _ hr44) ?_
      refine Run.opsEnd ?_
      rcases btf (r44) with hc46 | hc46
      · have h := bif_t hc46 h
        refine Run.condT' rfl hc46 ?_
        refine Run.seq (Run.region ?_)
        refine Run.opG wantS_none (ex_move rfl) rfl ?_
        refine Run.opG wantS_none (ex_move rfl) rfl ?_
        refine Run.opG wantS_none (ex_move rfl) rfl ?_
        obtain ⟨x48, hx48, h⟩ := bnd_some h
        obtain ⟨p48, o48, _, hx48, hp48, ⟨q48_0, rfl, hq48_0⟩⟩ := sl_elem (P := Tryz.prog) (t := 68) (kk := .i64) hv1 hx48 els68
        refine Run.opG wantS_none (ex_elX rfl rfl hx48) rfl ?_
        have hp50 := (hp48.fld (o := 1) rfl)
        refine Run.opG wantS_none (ex_fieldAddr rfl off84_1) rfl ?_
        refine Run.opG wantS_none (ex_load1 rfl (hH.ptrF hp50) rdLe_rfl agg82) rfl ?_
        refine Run.opG wantS_none (ex_move rfl) rfl ?_
        obtain ⟨x52, hx52, h⟩ := bnd_some h
        obtain ⟨p52, o52, _, hx52, hp52, ⟨q52_0, rfl, hq52_0⟩⟩ := sl_elem (P := Tryz.prog) (t := 82) (kk := .i64) hq48_0 hx52 els82
        refine Run.opG wantS_none (ex_elX rfl rfl hx52) rfl ?_
        refine Run.opG wantS_none (ex_load1 rfl (hH.ptrF hp52) rdLe_rfl agg26) rfl ?_
        obtain ⟨l55, hl55, h⟩ := bnd_some h
        refine Run.opX wantS_none rfl (ExG.append rfl rfl hH (i := 0) rfl enc3_len rfl enc3_ones appt26_26 rfl (len_slc hq52_0) (first_slc hq52_0 (rdLe_roF hH) enc3_len) hl55) ?_
        rintro s55 M57 (hH57 : Has Fr M57 [.vec 3 1 l55.length s55 (l55.flatMap enc3)])
        refine Run.opG wantS_none (ex_assign rfl) rfl ?_
        refine Run.opsEnd (Run.region ?_)
        refine Run.opG wantS_none (ex_move rfl) rfl ?_
        refine Run.opG wantS_none (ex_add rfl rfl) rfl ?_
        refine Run.opG wantS_none (ex_assign rfl) rfl ?_
        refine Run.opsEnd (Run.inBlock (Run.region ?_))
        exact Run.pick [1, 3, 4, 13, 15, 16, 17] (ref05_Series_4_ok F (ref05_Series_3 F N) ih v1 v3 v4 v13 (w64 (v16 + (1 : Int))) v17 l55 sv1 s55 _ _ _ hv1 hH57 h)
      · have h := bif_f hc46 h
        refine Run.condF' rfl hc46 ?_
        refine Run.skip (Run.inBlock (Run.region ?_))
        exact Run.pick [1, 3, 4, 13, 15, 16, 17] (ref05_Series_4_ok F (ref05_Series_3 F N) ih v1 v3 v4 v13 v16 v17 l36 sv1 s36 _ _ _ hv1 hH h)
    · have h := bif_f hc38 h
      refine Run.condF' rfl hc38 ?_
      refine Run.exit rfl (Run.seq (Run.seq (Run.region ?_)))
      refine Run.opG wantS_none (ex_move rfl) rfl ?_
      refine Run.opG wantS_none (ex_move rfl) rfl ?_
      refine Run.opG wantS_none (ex_move rfl) rfl ?_
      refine Run.opG wantS_none (ex_sub rfl rfl) rfl ?_
      refine Run.opG wantS_none (ex_lss rfl rfl) rfl ?_
      refine Run.opsEnd ?_
      rcases btf ((decide (v16 < (w64 (v4 - v3))))) with hc58 | hc58
      · have h := bif_t hc58 h
        refine Run.condT' rfl hc58 ?_
        refine Run.seq (Run.region ?_)
        refine Run.opG wantS_none (ex_assign rfl) rfl ?_
        refine Run.opG wantS_none (ex_assign rfl) rfl ?_
        refine Run.opsEnd ?_
        have hH60 : Has Fr M [.vec 3 1 ([] : List Int).length .nils (([] : List Int).flatMap enc3), .vec 3 1 l36.length s36 (l36.flatMap enc3)] := hH.nils 3 1
        cases h
        exact Run.ret Tryz.func27 rfl (res_tmp rfl (res_tmp rfl res_nil)) ⟨_, rfl, (hH60.pick [0] rfl rfl).upF (none_le _)⟩
      · have h := bif_f hc58 h
        refine Run.condF' rfl hc58 ?_
        refine Run.skip (Run.seq (Run.region ?_))
        refine Run.opG wantS_none (ex_move rfl) rfl ?_
        refine Run.opG wantS_none (ex_assign rfl) rfl ?_
        refine Run.opG wantS_none (ex_assign rfl) rfl ?_
        refine Run.opsEnd ?_
        cases h
        exact Run.ret Tryz.func27 rfl (res_tmp rfl (res_tmp rfl res_nil)) ⟨_, rfl, (hH.pick [0] rfl rfl).upF (none_le _)⟩

def ref05_Series_1 (F : Nat) : Nat → (List S_api_Channel) → (List S_api_Frame) → (List UInt8) → Int → Int → Int → Int → Option ((List Int) × Int)
  | 0, _, _, _, _, _, _, _ => none
  | N + 1, v0, v1, v2, v3, v4, v13, v14 =>
    bif (decide (v14 < (v0.length : Int))) then
      bnd (idx v0 v14) fun x29 =>
      bif (x29.Name == v2) then
        ref05_Series_2 F (ref05_Series_1 F N) v0 v1 v2 v3 v4 v14 v14
      else
        ref05_Series_2 F (ref05_Series_1 F N) v0 v1 v2 v3 v4 v13 v14
    else
      bif (decide (v13 < (0 : Int))) then
        some (([] : List Int), (2 : Int))
      else
        ref05_Series_3 F F v1 v3 v4 v13 (0 : Int) (0 : Int) ([] : List Int)

theorem ref05_Series_1_ok (F : Nat) : ∀ (N : Nat), ∀ (v0 : (List S_api_Channel)) (v1 : (List S_api_Frame)) (v2 : (List UInt8)) (v3 v4 v13 v14 : Int) (sv0 sv1 : SV) (Fr : Rd) (M : Mem) (r : (List Int) × Int) (hv0 : Slc Fr 3 (FlatR enc86) sv0 v0) (hv1 : Slc Fr 2 (rep84 Fr) sv1 v1) (hH : Has Fr M []), ref05_Series_1 F N v0 v1 v2 v3 v4 v13 v14 = some r → Run Tryz.prog ⟨⟨27, [], none⟩, []⟩ 75 (ref05_Series_post r) [(0, sv0), (1, sv1), (2, (.str v2)), (3, (.int .i64 v3)), (4, (.int .i64 v4)), (13, (.int .i64 v13)), (14, (.int .i64 v14))] [codeC Tryz.prog 27 [1, 1, 1, 0, 1, 0, 0], loopC Tryz.prog 27 [1, 1, 1, 0, 1, 0, 0], .inBlock 0, codeC Tryz.prog 27 [1, 1, 1, 1]] M := by
  intro N
  induction N with
  | zero =>
    intro v0 v1 v2 v3 v4 v13 v14 sv0 sv1 Fr M r hv0 hv1 hH h
    simp [ref05_Series_1] at h
  | succ N ih =>
    intro v0 v1 v2 v3 v4 v13 v14 sv0 sv1 Fr M r hv0 hv1 hH h
    rw [ref05_Series_1] at h
    refine Run.seq (Run.seq (Run.region ?_))
    refine Run.opG wantS_none (ex_move rfl) rfl ?_
    refine Run.opG wantS_none (ex_move rfl) rfl ?_
    refine Run.opG wantS_none (ex_len' rfl hv0 lenk67) rfl ?_
    refine Run.opG wantS_none (ex_lss rfl rfl) rfl ?_
    refine Run.opsEnd ?_
    rcases btf ((decide (v14 < (v0.length : Int)))) with hc27 | hc27
    · have h := bif_t hc27 h
      refine Run.condT' rfl hc27 ?_
      refine Run.skip (Run.seq (Run.block (Run.seq (Run.region ?_))))
      refine Run.opG wantS_none (ex_move rfl) rfl ?_
      refine Run.opG wantS_none (ex_move rfl) rfl ?_
      obtain ⟨x29, hx29, h⟩ := bnd_some h
      obtain ⟨p29, o29, _, hx29, hp29, rfl⟩ := sl_elem (P := Tryz.prog) (t := 67) (kk := .i64) hv0 hx29 els67
      refine Run.opG wantS_none (ex_elX rfl rfl hx29) rfl ?_
      have hp31 := (hp29.fld (o := 0) rfl)
      refine Run.opG wantS_none (ex_fieldAddr rfl off86_0) rfl ?_
      refine Run.opG wantS_none (ex_load1 rfl (hH.ptrF hp31) rdLe_rfl agg9) rfl ?_
      refine Run.opG wantS_none (ex_move rfl) rfl ?_
      refine Run.opG wantS_none (ex_eqlS rfl rfl) rfl ?_
      refine Run.opsEnd ?_
      rcases btf ((x29.Name == v2)) with hc32 | hc32
      · have h := bif_t hc32 h
        refine Run.condT' rfl hc32 ?_
        refine Run.region ?_
        refine Run.opG wantS_none (ex_move rfl) rfl ?_
        refine Run.opG wantS_none (ex_assign rfl) rfl ?_
        refine Run.opsEnd (Run.inBlock (Run.region ?_))
        exact Run.pick [0, 1, 2, 3, 4, 13, 14] (ref05_Series_2_ok F (ref05_Series_1 F N) ih v0 v1 v2 v3 v4 v14 v14 sv0 sv1 _ _ _ hv0 hv1 hH h)
      · have h := bif_f hc32 h
        refine Run.condF' rfl hc32 ?_
        refine Run.skip (Run.inBlock (Run.region ?_))
        exact Run.pick [0, 1, 2, 3, 4, 13, 14] (ref05_Series_2_ok F (ref05_Series_1 F N) ih v0 v1 v2 v3 v4 v13 v14 sv0 sv1 _ _ _ hv0 hv1 hH h)
    · have h := bif_f hc27 h
      refine Run.condF' rfl hc27 ?_
      refine Run.exit rfl (Run.seq (Run.seq (Run.region ?_)))
      refine Run.opG wantS_none (ex_move rfl) rfl ?_
      refine Run.opG wantS_none (ex_lss rfl rfl) rfl ?_
      refine Run.opsEnd ?_
      rcases btf ((decide (v13 < (0 : Int)))) with hc33 | hc33
      · have h := bif_t hc33 h
        refine Run.condT' rfl hc33 ?_
        refine Run.seq (Run.region ?_)
        refine Run.opG wantS_none (ex_assign rfl) rfl ?_
        refine Run.opG wantS_none (ex_assign rfl) rfl ?_
        refine Run.opsEnd ?_
        have hH35 : Has Fr M [.vec 3 1 ([] : List Int).length .nils (([] : List Int).flatMap enc3)] := hH.nils 3 1
        cases h
        exact Run.ret Tryz.func27 rfl (res_tmp rfl (res_tmp rfl res_nil)) ⟨_, rfl, (hH35.pick [0] rfl rfl).upF (none_le _)⟩
      · have h := bif_f hc33 h
        refine Run.condF' rfl hc33 ?_
        refine Run.skip (Run.seq (Run.region ?_))
        refine Run.opG wantS_none (ex_assign rfl) rfl ?_
        refine Run.opsEnd (Run.seq (Run.region ?_))
        refine Run.opG wantS_none (ex_assign rfl) rfl ?_
        refine Run.opsEnd (Run.seq (Run.seq (Run.region ?_)))
        refine Run.opG wantS_none (ex_assign rfl) rfl ?_
        refine Run.opsEnd (Run.block (Run.loop ?_))
        have hH37 : Has Fr M [.vec 3 1 ([] : List Int).length .nils (([] : List Int).flatMap enc3)] := hH.nils 3 1
        exact Run.pick [1, 3, 4, 13, 15, 16, 17] (ref05_Series_3_ok F F v1 v3 v4 v13 (0 : Int) (0 : Int) ([] : List Int) sv1 .nils _ _ _ hv1 hH37 h)

def ref05_Series (F : Nat) (a0 : (List S_api_Channel)) (a1 : (List S_api_Frame)) (a2 : (List UInt8)) (a3 a4 : Int) : Option ((List Int) × Int) :=
  bnd (ref05_span F a0 a1 a3 a4) fun r22 =>
  bif (!(r22 == (0 : Int))) then
    some (([] : List Int), r22)
  else
    ref05_Series_1 F F a0 a1 a2 a3 a4 ((-1) : Int) (0 : Int)

theorem ref05_Series_ok (F : Nat) (a0 : (List S_api_Channel)) (a1 : (List S_api_Frame)) (a2 : (List UInt8)) (a3 a4 : Int) (s0 s1 : SV) (r : (List Int) × Int) (M : Mem) (hs0 : Slc (rd M) 3 (FlatR enc86) s0 a0) (hs1 : Slc (rd M) 2 (rep84 (rd M)) s1 a1) (h : ref05_Series F a0 a1 a2 a3 a4 = some r) : CallsM Tryz.prog 27 [s0, s1, (.str a2), (.int .i64 a3), (.int .i64 a4)] M (fun s M' => ∃ q1, s = (.tuple [q1, (.int .i64 r.2)]) ∧ New M M' [.vec 3 1 r.1.length q1 (r.1.flatMap enc3)]) := by
  refine CallsM.fresh (Q := ref05_Series_post r) Tryz.func27 rfl rfl ?_ (by rintro s Me ⟨q1, rfl, hx⟩ ha hw; exact ⟨_, rfl, New.of rfl hx ha hw⟩)
  rw [ref05_Series] at h
  replace hs0 := hs0.mono (rdLe_frozen M) (fun _ _ h => h)
  replace hs1 := hs1.mono (rdLe_frozen M) (fun _ _ => rep84_mo (rdLe_frozen M))
  have hH := Has.nil (frozen M)
  refine Run.seq (Run.region ?_)
  refine Run.opG wantS_none (ex_assign rfl) rfl ?_
  refine Run.opG wantS_none (ex_assign rfl) rfl ?_
  refine Run.opsEnd (Run.seq (Run.seq (Run.region ?_)))
  refine Run.opG wantS_none (ex_move rfl) rfl ?_
  refine Run.opG wantS_none (ex_move rfl) rfl ?_
  refine Run.opG wantS_none (ex_move rfl) rfl ?_
  refine Run.opG wantS_none (ex_move rfl) rfl ?_
  obtain ⟨r22, hr22, h⟩ := bnd_some h
  refine Run.callP wantS_none (ex_call rfl mkk56 cal56) rfl (ref05_span_ok F a0 a1 a3 a4 s0 s1 _ _ (hH.slcF hs0) ((hs1).mono hH.le (fun _ _ => rep84_mo hH.le)) hr22) ?_
  refine Run.opG wantS_none (ex_assign rfl) rfl ?_
  refine Run.opsEnd (Run.seq (Run.region ?_))
  refine Run.opG wantS_none (ex_move rfl) rfl ?_
  refine Run.opG wantS_none (ex_neq rfl rfl) rfl ?_
  refine Run.opsEnd ?_
  rcases btf ((!(r22 == (0 : Int)))) with hc24 | hc24
  · have h := bif_t hc24 h
    refine Run.condT' rfl hc24 ?_
    refine Run.seq (Run.region ?_)
    refine Run.opG wantS_none (ex_move rfl) rfl ?_
    refine Run.opG wantS_none (ex_assign rfl) rfl ?_
    refine Run.opG wantS_none (ex_assign rfl) rfl ?_
    refine Run.opsEnd ?_
    have hH26 : Has (ro (frozen M)) (frozen M) [.vec 3 1 ([] : List Int).length .nils (([] : List Int).flatMap enc3)] := hH.nils 3 1
    cases h
    exact Run.ret Tryz.func27 rfl (res_tmp rfl (res_tmp rfl res_nil)) ⟨_, rfl, (hH26.pick [0] rfl rfl).upF (none_le _)⟩
  · have h := bif_f hc24 h
    refine Run.condF' rfl hc24 ?_
    refine Run.skip (Run.seq (Run.region ?_))
    refine Run.opG wantS_none (ex_assign rfl) rfl ?_
    refine Run.opsEnd (Run.seq (Run.seq (Run.region ?_)))
    refine Run.opG wantS_none (ex_assign rfl) rfl ?_
    refine Run.opsEnd (Run.block (Run.loop ?_))
    exact Run.pick [0, 1, 2, 3, 4, 13, 14] (ref05_Series_1_ok F F a0 a1 a2 a3 a4 ((-1) : Int) (0 : Int) s0 s1 _ _ _ hs0 hs1 hH h)

theorem mkk27 : makeK Tryz.prog 27 = none := by kernel_rfl
theorem cal27 : callable Tryz.prog 27 = true := by kernel_rfl
theorem plan28_1_1_0_1_0_0_1_0_0_0 : planOf Tryz.prog (opsC (atC Tryz.prog 28 [1, 1, 0, 1, 0, 0, 1, 0, 0, 0])) = some [.fl 0, .fl 1, .fl 2, .fl 3, .fl 4, .fl 5, .fl 6, .fl 7, .fl 8, .sync] := by kernel_rfl
abbrev ref00_SameInts_post (r : Bool) : SV → Mem → Prop := fun s _ => s = (.bool r)

def ref00_SameInts_1 (F : Nat) : Nat → (List Int) → (List Int) → Int → Option (Bool)
  | 0, _, _, _ => none
  | N + 1, v0, v1, v5 =>
    bif (decide (v5 < (v0.length : Int))) then
      bnd (idx v0 v5) fun x23 =>
      bnd (idx v1 v5) fun x24 =>
      bif (!(x23 == x24)) then
        some false
      else
        (ref00_SameInts_1 F N) v0 v1 (w64 (v5 + (1 : Int)))
    else
      some true

theorem ref00_SameInts_1_ok (F : Nat) : ∀ (N : Nat), ∀ (v0 v1 : (List Int)) (v5 : Int) (sv0 sv1 : SV) (Fr : Rd) (M : Mem) (r : Bool) (hv0 : Slc Fr 1 (FlatR enc3) sv0 v0) (hv1 : Slc Fr 1 (FlatR enc3) sv1 v1) (hH : Has Fr M []), ref00_SameInts_1 F N v0 v1 v5 = some r → Run Tryz.prog ⟨⟨28, [], none⟩, []⟩ 26 (ref00_SameInts_post r) [(0, sv0), (1, sv1), (5, (.int .i64 v5))] [codeC Tryz.prog 28 [1, 1, 0, 1, 0, 0], loopC Tryz.prog 28 [1, 1, 0, 1, 0, 0], .inBlock 0, codeC Tryz.prog 28 [1, 1, 1]] M := by
  intro N
  induction N with
  | zero =>
    intro v0 v1 v5 sv0 sv1 Fr M r hv0 hv1 hH h
    simp [ref00_SameInts_1] at h
  | succ N ih =>
    intro v0 v1 v5 sv0 sv1 Fr M r hv0 hv1 hH h
    rw [ref00_SameInts_1] at h
    refine Run.seq (Run.seq (Run.region ?_))
    refine Run.opG wantS_none (ex_move rfl) rfl ?_
    refine Run.opG wantS_none (ex_move rfl) rfl ?_
    refine Run.opG wantS_none (ex_len' rfl hv0 lenk26) rfl ?_
    refine Run.opG wantS_none (ex_lss rfl rfl) rfl ?_
    refine Run.opsEnd ?_
    rcases btf ((decide (v5 < (v0.length : Int)))) with hc22 | hc22
    · have h := bif_t hc22 h
      refine Run.condT' rfl hc22 ?_
      refine Run.skip (Run.seq (Run.block (Run.seq ?_)))
      refine Run.drawG plan28_1_1_0_1_0_0_1_0_0_0 ?_
      refine DrawG.fl rfl (ev_ex wantS_none (ex_move rfl)) rfl ?_
      refine DrawG.fl rfl (ev_ex wantS_none (ex_move rfl)) rfl ?_
      obtain ⟨x23, hx23, h⟩ := bnd_some h
      obtain ⟨p23, o23, _, hx23, hp23, rfl⟩ := sl_elem (P := Tryz.prog) (t := 26) (kk := .i64) hv0 hx23 els26
      refine DrawG.fl rfl (ev_ex wantS_none (ex_elX rfl rfl hx23)) rfl ?_
      refine DrawG.fl rfl (ev_ex wantS_none (ex_load1 rfl (hH.ptrF hp23) rdLe_rfl agg3)) rfl ?_
      refine DrawG.fl rfl (ev_ex wantS_none (ex_move rfl)) rfl ?_
      refine DrawG.fl rfl (ev_ex wantS_none (ex_move rfl)) rfl ?_
      obtain ⟨x24, hx24, h⟩ := bnd_some h
      obtain ⟨p24, o24, _, hx24, hp24, rfl⟩ := sl_elem (P := Tryz.prog) (t := 26) (kk := .i64) hv1 hx24 els26
      refine DrawG.fl rfl (ev_ex wantS_none (ex_elX rfl rfl hx24)) rfl ?_
      refine DrawG.fl rfl (ev_ex wantS_none (ex_load1 rfl (hH.ptrF hp24) rdLe_rfl agg3)) rfl ?_
      refine DrawG.fl rfl (ev_ex wantS_none (ex_neq rfl rfl)) rfl ?_
      refine DrawG.sync ?_
      refine DrawG.nil ?_
      rcases btf ((!(x23 == x24))) with hc25 | hc25
      · have h := bif_t hc25 h
        refine Run.condT' rfl hc25 ?_
        refine Run.seq (Run.region ?_)
        refine Run.opG wantS_none (ex_assign rfl) rfl ?_
        refine Run.opsEnd ?_
        cases h
        exact Run.ret Tryz.func28 rfl (res_tmp rfl res_nil) rfl
      · have h := bif_f hc25 h
        refine Run.condF' rfl hc25 ?_
        refine Run.skip (Run.inBlock (Run.region ?_))
        refine Run.opG wantS_none (ex_move rfl) rfl ?_
        refine Run.opG wantS_none (ex_add rfl rfl) rfl ?_
        refine Run.opG wantS_none (ex_assign rfl) rfl ?_
        refine Run.opsEnd (Run.inLoop ?_)
        exact Run.pick [0, 1, 5] (ih v0 v1 (w64 (v5 + (1 : Int))) sv0 sv1 _ _ _ hv0 hv1 hH h)
    · have h := bif_f hc22 h
      refine Run.condF' rfl hc22 ?_
      refine Run.exit rfl (Run.seq (Run.region ?_))
      refine Run.opG wantS_none (ex_assign rfl) rfl ?_
      refine Run.opsEnd ?_
      cases h
      exact Run.ret Tryz.func28 rfl (res_tmp rfl res_nil) rfl

def ref00_SameInts (F : Nat) (a0 a1 : (List Int)) : Option (Bool) :=
  bif (!((a0.length : Int) == (a1.length : Int))) then
    some false
  else
    ref00_SameInts_1 F F a0 a1 (0 : Int)

theorem ref00_SameInts_ok (F : Nat) (a0 a1 : (List Int)) (s0 s1 : SV) (r : Bool) (M : Mem) (hs0 : Slc (rd M) 1 (FlatR enc3) s0 a0) (hs1 : Slc (rd M) 1 (FlatR enc3) s1 a1) (h : ref00_SameInts F a0 a1 = some r) : CallsM Tryz.prog 28 [s0, s1] M (fun s M' => s = (.bool r) ∧ M' = M) := by
  refine CallsM.plain Tryz.func28 rfl rfl rfl (show Run _ _ _ (ref00_SameInts_post r) _ _ _ from ?_)
  rw [ref00_SameInts] at h
  replace hs0 := hs0.mono (rdLe_frozen M) (fun _ _ h => h)
  replace hs1 := hs1.mono (rdLe_frozen M) (fun _ _ h => h)
  have hH := Has.nil (frozen M)
  refine Run.seq (Run.region ?_)
  refine Run.opG wantS_none (ex_assign rfl) rfl ?_
  refine Run.opsEnd (Run.seq (Run.seq (Run.region ?_)))
  refine Run.opG wantS_none (ex_move rfl) rfl ?_
  refine Run.opG wantS_none (ex_len' rfl hs0 lenk26) rfl ?_
  refine Run.opG wantS_none (ex_move rfl) rfl ?_
  refine Run.opG wantS_none (ex_len' rfl hs1 lenk26) rfl ?_
  refine Run.opG wantS_none (ex_neq rfl rfl) rfl ?_
  refine Run.opsEnd ?_
  rcases btf ((!((a0.length : Int) == (a1.length : Int)))) with hc21 | hc21
  · have h := bif_t hc21 h
    refine Run.condT' rfl hc21 ?_
    refine Run.seq (Run.region ?_)
    refine Run.opG wantS_none (ex_assign rfl) rfl ?_
    refine Run.opsEnd ?_
    cases h
    exact Run.ret Tryz.func28 rfl (res_tmp rfl res_nil) rfl
  · have h := bif_f hc21 h
    refine Run.condF' rfl hc21 ?_
    refine Run.skip (Run.seq (Run.seq (Run.region ?_)))
    refine Run.opG wantS_none (ex_assign rfl) rfl ?_
    refine Run.opsEnd (Run.block (Run.loop ?_))
    exact Run.pick [0, 1, 5] (ref00_SameInts_1_ok F F a0 a1 (0 : Int) s0 s1 _ _ _ hs0 hs1 hH h)

theorem mkk28 : makeK Tryz.prog 28 = none := by kernel_rfl
theorem cal28 : callable Tryz.prog 28 = true := by kernel_rfl
theorem mkk29 : makeK Tryz.prog 29 = none := by kernel_rfl
theorem cal29 : callable Tryz.prog 29 = true := by kernel_rfl
abbrev law05_RecordSpans_post (r : Bool) : SV → Mem → Prop := fun s _ => s = (.bool r)

def law05_RecordSpans_5 (F : Nat) (v114 : Bool) : Option (Bool) :=
  some v114

theorem law05_RecordSpans_5_ok (F : Nat) : ∀ (v114 : Bool) (Fr : Rd) (M : Mem) (r : Bool) (hH : Has Fr M [tb0, tb1, tb2]), law05_RecordSpans_5 F v114 = some r → Run Tryz.prog ⟨⟨7, [], none⟩, []⟩ 115 (law05_RecordSpans_post r) [(114, (.bool v114))] [itemC Tryz.prog 7 [1, 1, 1, 1, 1, 1, 1, 1, 1, 0] 11, codeC Tryz.prog 7 [1, 1, 1, 1, 1, 1, 1, 1, 1, 1]] M := by
  intro v114 Fr M r hH h
  rw [law05_RecordSpans_5] at h
  refine Run.opG wantS_none (ex_assign rfl) rfl ?_
  refine Run.opsEnd ?_
  cases h
  exact Run.ret Tryz.func7 rfl (res_tmp rfl res_nil) rfl

def law05_RecordSpans_4 (F : Nat) (v111 : Bool) : Option (Bool) :=
  bif v111 then
    bnd (works F) fun r97 =>
    law05_RecordSpans_5 F r97
  else
    law05_RecordSpans_5 F false

theorem law05_RecordSpans_4_ok (F : Nat) : ∀ (v111 : Bool) (Fr : Rd) (M : Mem) (r : Bool) (hH : Has Fr M [tb0, tb1, tb2]), law05_RecordSpans_4 F v111 = some r → Run Tryz.prog ⟨⟨7, [], none⟩, []⟩ 115 (law05_RecordSpans_post r) [(111, (.bool v111))] [itemC Tryz.prog 7 [1, 1, 1, 1, 1, 1, 1, 1, 1, 0] 8, codeC Tryz.prog 7 [1, 1, 1, 1, 1, 1, 1, 1, 1, 1]] M := by
  intro v111 Fr M r hH h
  rw [law05_RecordSpans_4] at h
  refine Run.opG wantS_none (ex_move rfl) rfl ?_
  rcases btf (v111) with hc95 | hc95
  · have h := bif_t hc95 h
    obtain ⟨r97, hr97, h⟩ := bnd_some h
    refine Run.callP (wantS_yes' rfl rfl hc95) (ex_call rfl mkk29 cal29) rfl (works_ok F r97 _ hH (List.mem_of_getElem? (i := 0) rfl) (List.mem_of_getElem? (i := 1) rfl) (List.mem_of_getElem? (i := 2) rfl) hr97) ?_
    refine Run.opG wantS_none (ex_pickT' rfl hc95 rfl rfl) rfl ?_
    exact Run.pick [114] (law05_RecordSpans_5_ok F r97 _ _ _ hH h)
  · have h := bif_f hc95 h
    refine Run.no (wantS_not' rfl rfl hc95) rfl ?_
    refine Run.opG wantS_none (ex_pickF' rfl hc95 rfl rfl) rfl ?_
    exact Run.pick [114] (law05_RecordSpans_5_ok F false _ _ _ hH h)

def law05_RecordSpans_3 (F : Nat) : Nat → (List UInt8) → Int → Int → (List S_api_Channel) → (List S_api_Frame) → S__2_int → (List Int) → (List Int) → Option (Bool)
  | 0, _, _, _, _, _, _, _, _ => none
  | N + 1, v1, v10, v13, c25_0, c25_1, c28, l60, l69 =>
    bif (decide (v13 < (l60.length : Int))) then
      bnd (inn l60 v13) fun o78 =>
      bnd (upd l60 o78 (1099511627776 : Int)) fun l80 =>
      (law05_RecordSpans_3 F N) v1 v10 (w64 (v13 + (1 : Int))) c25_0 c25_1 c28 l80 l69
    else
      bnd (record_Series F c25_0 c25_1 v1 c28.e0 c28.e1) fun r88 =>
      bnd (ref00_SameInts F r88.1 l69) fun r92 =>
      bif r92 then
        law05_RecordSpans_4 F (r88.2 == v10)
      else
        law05_RecordSpans_4 F false

theorem law05_RecordSpans_3_ok (F : Nat) : ∀ (N : Nat), ∀ (v1 : (List UInt8)) (v10 v13 : Int) (c25_0 : (List S_api_Channel)) (c25_1 : (List S_api_Frame)) (c28 : S__2_int) (l60 l69 : (List Int)) (sc25_0 sc25_1 : SV) (b25 b28 : Pos) (s60 s69 : SV) (Fr : Rd) (M : Mem) (r : Bool) (hc25_0 : Slc Fr 3 (FlatR enc86) sc25_0 c25_0) (hc25_1 : Slc Fr 2 (rep84 Fr) sc25_1 c25_1) (hH : Has Fr M [.obj b25 (.row 70 .whole [sc25_0, sc25_1]), .obj b28 (.row 50 .whole [(.int .i64 c28.e0), (.int .i64 c28.e1)]), .vec 3 1 l60.length s60 (l60.flatMap enc3), .vec 3 1 l69.length s69 (l69.flatMap enc3), tb0, tb1, tb2]), law05_RecordSpans_3 F N v1 v10 v13 c25_0 c25_1 c28 l60 l69 = some r → Run Tryz.prog ⟨⟨7, [], none⟩, []⟩ 115 (law05_RecordSpans_post r) [(1, (.str v1)), (3, (.ptr b25 0)), (5, (.ptr b28 0)), (10, (.int .i64 v10)), (11, s60), (12, s69), (13, (.int .i64 v13))] [codeC Tryz.prog 7 [1, 1, 1, 1, 1, 1, 1, 0, 1, 0, 0], loopC Tryz.prog 7 [1, 1, 1, 1, 1, 1, 1, 0, 1, 0, 0], .inBlock 0, codeC Tryz.prog 7 [1, 1, 1, 1, 1, 1, 1, 1]] M := by
  intro N
  induction N with
  | zero =>
    intro v1 v10 v13 c25_0 c25_1 c28 l60 l69 sc25_0 sc25_1 b25 b28 s60 s69 Fr M r hc25_0 hc25_1 hH h
    simp [law05_RecordSpans_3] at h
  | succ N ih =>
    intro v1 v10 v13 c25_0 c25_1 c28 l60 l69 sc25_0 sc25_1 b25 b28 s60 s69 Fr M r hc25_0 hc25_1 hH h
    rw [law05_RecordSpans_3] at h
    refine Run.seq (Run.seq (Run.region ?_))
    refine Run.opG wantS_none (ex_move rfl) rfl ?_
    refine Run.opG wantS_none (ex_move rfl) rfl ?_
    refine Run.opG wantS_none (ex_len' rfl (hH.slc (i := 2) rfl enc3_len) lenk26) rfl ?_
    refine Run.opG wantS_none (ex_lss rfl rfl) rfl ?_
    refine Run.opsEnd ?_
    rcases btf ((decide (v13 < (l60.length : Int)))) with hc76 | hc76
    · have h := bif_t hc76 h
      refine Run.condT' rfl hc76 ?_
      refine Run.skip (Run.seq (Run.block (Run.region ?_)))
      refine Run.opG wantS_none (ex_move rfl) rfl ?_
      refine Run.opG wantS_none (ex_move rfl) rfl ?_
      obtain ⟨o78, ho78, h⟩ := bnd_some h
      obtain ⟨p78, hb78, hx78⟩ := vec_place (P := Tryz.prog) (t := 26) (kk := .i64) hH (i := 2) rfl ho78 els26
      refine Run.opG wantS_none (ex_elX rfl rfl hx78) rfl ?_
      obtain ⟨l80, hl80, h⟩ := bnd_some h
      refine Run.opX wantS_none rfl (ExG.storeEl rfl rfl hH (i := 2) rfl hb78 hl80 sz3 rfl enc3_len enc3_ones) ?_
      rintro _ M81 ⟨rfl, (hH81 : Has Fr M81 [.obj b25 (.row 70 .whole [sc25_0, sc25_1]), .obj b28 (.row 50 .whole [(.int .i64 c28.e0), (.int .i64 c28.e1)]), .vec 3 1 l80.length s60 (l80.flatMap enc3), .vec 3 1 l69.length s69 (l69.flatMap enc3), tb0, tb1, tb2])⟩
      refine Run.opsEnd (Run.inBlock (Run.region ?_))
      refine Run.opG wantS_none (ex_move rfl) rfl ?_
      refine Run.opG wantS_none (ex_add rfl rfl) rfl ?_
      refine Run.opG wantS_none (ex_assign rfl) rfl ?_
      refine Run.opsEnd (Run.inLoop ?_)
      exact Run.pick [1, 3, 5, 10, 11, 12, 13] (ih v1 v10 (w64 (v13 + (1 : Int))) c25_0 c25_1 c28 l80 l69 sc25_0 sc25_1 b25 b28 s60 s69 _ _ _ hc25_0 hc25_1 hH81 h)
    · have h := bif_f hc76 h
      refine Run.condF' rfl hc76 ?_
      refine Run.exit rfl (Run.seq (Run.region ?_))
      refine Run.opG wantS_none (ex_fieldAddr rfl off70_0) rfl ?_
      refine Run.opG wantS_none (ex_load1 rfl (hH.cells (i := 0) rfl 0 rfl) rdLe_rfl agg67) rfl ?_
      refine Run.opG wantS_none (ex_fieldAddr rfl off70_1) rfl ?_
      refine Run.opG wantS_none (ex_load1 rfl (hH.cells (i := 0) rfl 1 rfl) rdLe_rfl agg68) rfl ?_
      refine Run.opG wantS_none (ex_move rfl) rfl ?_
      refine Run.opG wantS_none (ex_elX rfl rfl (arr_place (j := 0) rfl els50)) rfl ?_
      refine Run.opG wantS_none (ex_load1 rfl (hH.cells (i := 1) rfl 0 rfl) rdLe_rfl agg3) rfl ?_
      refine Run.opG wantS_none (ex_elX rfl rfl (arr_place (j := 1) rfl els50)) rfl ?_
      refine Run.opG wantS_none (ex_load1 rfl (hH.cells (i := 1) rfl 1 rfl) rdLe_rfl agg3) rfl ?_
      obtain ⟨r88, hr88, h⟩ := bnd_some h
      refine Run.callX wantS_none (ex_call rfl mkk26 cal26) rfl (record_Series_ok F c25_0 c25_1 v1 c28.e0 c28.e1 sc25_0 sc25_1 _ _ (hH.slcF hc25_0) ((hc25_1).mono hH.le (fun _ _ => rep84_mo hH.le)) hr88) ?_
      rintro _ M90 ⟨s88_0, rfl, hN88⟩
      have hH90 : Has Fr M90 [.vec 3 1 r88.1.length s88_0 (r88.1.flatMap enc3), .obj b25 (.row 70 .whole [sc25_0, sc25_1]), .obj b28 (.row 50 .whole [(.int .i64 c28.e0), (.int .i64 c28.e1)]), .vec 3 1 l60.length s60 (l60.flatMap enc3), .vec 3 1 l69.length s69 (l69.flatMap enc3), tb0, tb1, tb2] := hN88.1 _ _ hH
      refine Run.opG wantS_none (ex_move rfl) rfl ?_
      refine Run.opG wantS_none (ex_extract rfl rfl) rfl ?_
      refine Run.opG wantS_none (ex_extract rfl rfl) rfl ?_
      refine Run.opG wantS_none (ex_assign rfl) rfl ?_
      refine Run.opG wantS_none (ex_assign rfl) rfl ?_
      refine Run.opsEnd (Run.seq (Run.region ?_))
      refine Run.opG wantS_none (ex_move rfl) rfl ?_
      refine Run.opG wantS_none (ex_move rfl) rfl ?_
      obtain ⟨r92, hr92, h⟩ := bnd_some h
      refine Run.callP wantS_none (ex_call rfl mkk28 cal28) rfl (ref00_SameInts_ok F r88.1 l69 s88_0 s69 _ _ (hH90.slc (i := 0) rfl enc3_len) (hH90.slc (i := 4) rfl enc3_len) hr92) ?_
      refine Run.opG wantS_none (ex_move rfl) rfl ?_
      rcases btf (r92) with hc94 | hc94
      · have h := bif_t hc94 h
        refine Run.opG (wantS_yes' rfl rfl hc94) (ex_move rfl) rfl ?_
        refine Run.opG (wantS_yes' rfl rfl hc94) (ex_move rfl) rfl ?_
        refine Run.opG (wantS_yes' rfl rfl hc94) (ex_eql rfl rfl) rfl ?_
        refine Run.opG wantS_none (ex_pickT' rfl hc94 rfl rfl) rfl ?_
        exact Run.pick [111] (law05_RecordSpans_4_ok F (r88.2 == v10) _ _ _ (hH90.pick [5, 6, 7] rfl rfl) h)
      · have h := bif_f hc94 h
        refine Run.no (wantS_not' rfl rfl hc94) rfl ?_
        refine Run.no (wantS_not' rfl rfl hc94) rfl ?_
        refine Run.no (wantS_not' rfl rfl hc94) rfl ?_
        refine Run.opG wantS_none (ex_pickF' rfl hc94 rfl rfl) rfl ?_
        exact Run.pick [111] (law05_RecordSpans_4_ok F false _ _ _ (hH90.pick [5, 6, 7] rfl rfl) h)

def law05_RecordSpans_2 (F : Nat) (v1 : (List UInt8)) (v10 : Int) (v81 : Bool) (c25_0 : (List S_api_Channel)) (c25_1 : (List S_api_Frame)) (c28 : S__2_int) (l60 l69 : (List Int)) : Option (Bool) :=
  bif v81 then
    some false
  else
    law05_RecordSpans_3 F F v1 v10 (0 : Int) c25_0 c25_1 c28 l60 l69

theorem law05_RecordSpans_2_ok (F : Nat) : ∀ (v1 : (List UInt8)) (v10 : Int) (v81 : Bool) (c25_0 : (List S_api_Channel)) (c25_1 : (List S_api_Frame)) (c28 : S__2_int) (l60 l69 : (List Int)) (sc25_0 sc25_1 : SV) (b25 b28 : Pos) (s60 s69 : SV) (Fr : Rd) (M : Mem) (r : Bool) (hc25_0 : Slc Fr 3 (FlatR enc86) sc25_0 c25_0) (hc25_1 : Slc Fr 2 (rep84 Fr) sc25_1 c25_1) (hH : Has Fr M [.obj b25 (.row 70 .whole [sc25_0, sc25_1]), .obj b28 (.row 50 .whole [(.int .i64 c28.e0), (.int .i64 c28.e1)]), .vec 3 1 l60.length s60 (l60.flatMap enc3), .vec 3 1 l69.length s69 (l69.flatMap enc3), tb0, tb1, tb2]), law05_RecordSpans_2 F v1 v10 v81 c25_0 c25_1 c28 l60 l69 = some r → Run Tryz.prog ⟨⟨7, [], none⟩, []⟩ 115 (law05_RecordSpans_post r) [(1, (.str v1)), (3, (.ptr b25 0)), (5, (.ptr b28 0)), (10, (.int .i64 v10)), (11, s60), (12, s69), (81, (.bool v81))] [codeC Tryz.prog 7 [1, 1, 1, 1, 1, 1, 0, 1], codeC Tryz.prog 7 [1, 1, 1, 1, 1, 1, 1]] M := by
  intro v1 v10 v81 c25_0 c25_1 c28 l60 l69 sc25_0 sc25_1 b25 b28 s60 s69 Fr M r hc25_0 hc25_1 hH h
  rw [law05_RecordSpans_2] at h
  rcases btf (v81) with hc75 | hc75
  · have h := bif_t hc75 h
    refine Run.condT' rfl hc75 ?_
    refine Run.seq (Run.region ?_)
    refine Run.opG wantS_none (ex_assign rfl) rfl ?_
    refine Run.opsEnd ?_
    cases h
    exact Run.ret Tryz.func7 rfl (res_tmp rfl res_nil) rfl
  · have h := bif_f hc75 h
    refine Run.condF' rfl hc75 ?_
    refine Run.skip (Run.seq (Run.seq (Run.region ?_)))
    refine Run.opG wantS_none (ex_assign rfl) rfl ?_
    refine Run.opsEnd (Run.block (Run.loop ?_))
    exact Run.pick [1, 3, 5, 10, 11, 12, 13] (law05_RecordSpans_3_ok F F v1 v10 (0 : Int) c25_0 c25_1 c28 l60 l69 sc25_0 sc25_1 b25 b28 s60 s69 _ _ _ hc25_0 hc25_1 hH h)

def law05_RecordSpans_1 (F : Nat) (v1 : (List UInt8)) (v46 : Bool) (c25_0 : (List S_api_Channel)) (c25_1 : (List S_api_Frame)) (c28 : S__2_int) : Option (Bool) :=
  bif v46 then
    some false
  else
    bnd (record_Series F c25_0 c25_1 v1 c28.e0 c28.e1) fun r59 =>
    bnd (ref05_Series F c25_0 c25_1 v1 c28.e0 c28.e1) fun r68 =>
    bnd (ref00_SameInts F r59.1 r68.1) fun r72 =>
    bif (!r72) then
      law05_RecordSpans_2 F v1 r68.2 true c25_0 c25_1 c28 r59.1 r68.1
    else
      law05_RecordSpans_2 F v1 r68.2 (!(r59.2 == r68.2)) c25_0 c25_1 c28 r59.1 r68.1

theorem law05_RecordSpans_1_ok (F : Nat) : ∀ (v1 : (List UInt8)) (v46 : Bool) (c25_0 : (List S_api_Channel)) (c25_1 : (List S_api_Frame)) (c28 : S__2_int) (sc25_0 sc25_1 : SV) (b25 b28 : Pos) (Fr : Rd) (M : Mem) (r : Bool) (hc25_0 : Slc Fr 3 (FlatR enc86) sc25_0 c25_0) (hc25_1 : Slc Fr 2 (rep84 Fr) sc25_1 c25_1) (hH : Has Fr M [.obj b25 (.row 70 .whole [sc25_0, sc25_1]), .obj b28 (.row 50 .whole [(.int .i64 c28.e0), (.int .i64 c28.e1)]), tb0, tb1, tb2]), law05_RecordSpans_1 F v1 v46 c25_0 c25_1 c28 = some r → Run Tryz.prog ⟨⟨7, [], none⟩, []⟩ 115 (law05_RecordSpans_post r) [(1, (.str v1)), (3, (.ptr b25 0)), (5, (.ptr b28 0)), (46, (.bool v46))] [codeC Tryz.prog 7 [1, 1, 1, 0, 1], codeC Tryz.prog 7 [1, 1, 1, 1]] M := by
  intro v1 v46 c25_0 c25_1 c28 sc25_0 sc25_1 b25 b28 Fr M r hc25_0 hc25_1 hH h
  rw [law05_RecordSpans_1] at h
  rcases btf (v46) with hc52 | hc52
  · have h := bif_t hc52 h
    refine Run.condT' rfl hc52 ?_
    refine Run.seq (Run.region ?_)
    refine Run.opG wantS_none (ex_assign rfl) rfl ?_
    refine Run.opsEnd ?_
    cases h
    exact Run.ret Tryz.func7 rfl (res_tmp rfl res_nil) rfl
  · have h := bif_f hc52 h
    refine Run.condF' rfl hc52 ?_
    refine Run.skip (Run.seq (Run.region ?_))
    refine Run.opG wantS_none (ex_fieldAddr rfl off70_0) rfl ?_
    refine Run.opG wantS_none (ex_load1 rfl (hH.cells (i := 0) rfl 0 rfl) rdLe_rfl agg67) rfl ?_
    refine Run.opG wantS_none (ex_fieldAddr rfl off70_1) rfl ?_
    refine Run.opG wantS_none (ex_load1 rfl (hH.cells (i := 0) rfl 1 rfl) rdLe_rfl agg68) rfl ?_
    refine Run.opG wantS_none (ex_move rfl) rfl ?_
    refine Run.opG wantS_none (ex_elX rfl rfl (arr_place (j := 0) rfl els50)) rfl ?_
    refine Run.opG wantS_none (ex_load1 rfl (hH.cells (i := 1) rfl 0 rfl) rdLe_rfl agg3) rfl ?_
    refine Run.opG wantS_none (ex_elX rfl rfl (arr_place (j := 1) rfl els50)) rfl ?_
    refine Run.opG wantS_none (ex_load1 rfl (hH.cells (i := 1) rfl 1 rfl) rdLe_rfl agg3) rfl ?_
    obtain ⟨r59, hr59, h⟩ := bnd_some h
    refine Run.callX wantS_none (ex_call rfl mkk26 cal26) rfl (record_Series_ok F c25_0 c25_1 v1 c28.e0 c28.e1 sc25_0 sc25_1 _ _ (hH.slcF hc25_0) ((hc25_1).mono hH.le (fun _ _ => rep84_mo hH.le)) hr59) ?_
    rintro _ M61 ⟨s59_0, rfl, hN59⟩
    have hH61 : Has Fr M61 [.vec 3 1 r59.1.length s59_0 (r59.1.flatMap enc3), .obj b25 (.row 70 .whole [sc25_0, sc25_1]), .obj b28 (.row 50 .whole [(.int .i64 c28.e0), (.int .i64 c28.e1)]), tb0, tb1, tb2] := hN59.1 _ _ hH
    refine Run.opG wantS_none (ex_move rfl) rfl ?_
    refine Run.opG wantS_none (ex_extract rfl rfl) rfl ?_
    refine Run.opG wantS_none (ex_extract rfl rfl) rfl ?_
    refine Run.opG wantS_none (ex_assign rfl) rfl ?_
    refine Run.opG wantS_none (ex_assign rfl) rfl ?_
    refine Run.opsEnd (Run.seq (Run.region ?_))
    refine Run.opG wantS_none (ex_fieldAddr rfl off70_0) rfl ?_
    refine Run.opG wantS_none (ex_load1 rfl (hH61.cells (i := 1) rfl 0 rfl) rdLe_rfl agg67) rfl ?_
    refine Run.opG wantS_none (ex_fieldAddr rfl off70_1) rfl ?_
    refine Run.opG wantS_none (ex_load1 rfl (hH61.cells (i := 1) rfl 1 rfl) rdLe_rfl agg68) rfl ?_
    refine Run.opG wantS_none (ex_move rfl) rfl ?_
    refine Run.opG wantS_none (ex_elX rfl rfl (arr_place (j := 0) rfl els50)) rfl ?_
    refine Run.opG wantS_none (ex_load1 rfl (hH61.cells (i := 2) rfl 0 rfl) rdLe_rfl agg3) rfl ?_
    refine Run.opG wantS_none (ex_elX rfl rfl (arr_place (j := 1) rfl els50)) rfl ?_
    refine Run.opG wantS_none (ex_load1 rfl (hH61.cells (i := 2) rfl 1 rfl) rdLe_rfl agg3) rfl ?_
    obtain ⟨r68, hr68, h⟩ := bnd_some h
    refine Run.callX wantS_none (ex_call rfl mkk27 cal27) rfl (ref05_Series_ok F c25_0 c25_1 v1 c28.e0 c28.e1 sc25_0 sc25_1 _ _ (hH61.slcF hc25_0) ((hc25_1).mono hH61.le (fun _ _ => rep84_mo hH61.le)) hr68) ?_
    rintro _ M70 ⟨s68_0, rfl, hN68⟩
    have hH70 : Has Fr M70 [.vec 3 1 r68.1.length s68_0 (r68.1.flatMap enc3), .vec 3 1 r59.1.length s59_0 (r59.1.flatMap enc3), .obj b25 (.row 70 .whole [sc25_0, sc25_1]), .obj b28 (.row 50 .whole [(.int .i64 c28.e0), (.int .i64 c28.e1)]), tb0, tb1, tb2] := hN68.1 _ _ hH61
    refine Run.opG wantS_none (ex_move rfl) rfl ?_
    refine Run.opG wantS_none (ex_extract rfl rfl) rfl ?_
    refine Run.opG wantS_none (ex_extract rfl rfl) rfl ?_
    refine Run.opG wantS_none (ex_assign rfl) rfl ?_
    refine Run.opG wantS_none (ex_assign rfl) rfl ?_
    refine Run.opsEnd (Run.seq (Run.seq (Run.region ?_)))
    refine Run.opG wantS_none (ex_move rfl) rfl ?_
    refine Run.opG wantS_none (ex_move rfl) rfl ?_
    obtain ⟨r72, hr72, h⟩ := bnd_some h
    refine Run.callP wantS_none (ex_call rfl mkk28 cal28) rfl (ref00_SameInts_ok F r59.1 r68.1 s59_0 s68_0 _ _ (hH70.slc (i := 1) rfl enc3_len) (hH70.slc (i := 0) rfl enc3_len) hr72) ?_
    refine Run.opG wantS_none (ex_not rfl) rfl ?_
    refine Run.opG wantS_none (ex_move rfl) rfl ?_
    rcases btf ((!r72)) with hc74 | hc74
    · have h := bif_t hc74 h
      refine Run.no (wantS_not' rfl rfl hc74) rfl ?_
      refine Run.no (wantS_not' rfl rfl hc74) rfl ?_
      refine Run.no (wantS_not' rfl rfl hc74) rfl ?_
      refine Run.opG wantS_none (ex_pickT' rfl hc74 rfl rfl) rfl ?_
      refine Run.opsEnd ?_
      exact Run.pick [1, 3, 5, 10, 11, 12, 81] (law05_RecordSpans_2_ok F v1 r68.2 true c25_0 c25_1 c28 r59.1 r68.1 sc25_0 sc25_1 b25 b28 s59_0 s68_0 _ _ _ hc25_0 hc25_1 (hH70.pick [2, 3, 1, 0, 4, 5, 6] rfl rfl) h)
    · have h := bif_f hc74 h
      refine Run.opG (wantS_yes' rfl rfl hc74) (ex_move rfl) rfl ?_
      refine Run.opG (wantS_yes' rfl rfl hc74) (ex_move rfl) rfl ?_
      refine Run.opG (wantS_yes' rfl rfl hc74) (ex_neq rfl rfl) rfl ?_
      refine Run.opG wantS_none (ex_pickF' rfl hc74 rfl rfl) rfl ?_
      refine Run.opsEnd ?_
      exact Run.pick [1, 3, 5, 10, 11, 12, 81] (law05_RecordSpans_2_ok F v1 r68.2 (!(r59.2 == r68.2)) c25_0 c25_1 c28 r59.1 r68.1 sc25_0 sc25_1 b25 b28 s59_0 s68_0 _ _ _ hc25_0 hc25_1 (hH70.pick [2, 3, 1, 0, 4, 5, 6] rfl rfl) h)

def law05_RecordSpans (F : Nat) (a0 : S_ringdownlaw05_Tape) (a1 : (List UInt8)) (a2 : S__2_int) : Option (Bool) :=
  bnd (record_Gaps F a0.B a0.L a2.e0 a2.e1) fun r36 =>
  bnd (ref05_Gaps F a0.B a0.L a2.e0 a2.e1) fun r45 =>
  bnd (law05_sameSpans F r36.1 r45.1) fun r49 =>
  bif (!r49) then
    law05_RecordSpans_1 F a1 true a0.B a0.L a2
  else
    law05_RecordSpans_1 F a1 (!(r36.2 == r45.2)) a0.B a0.L a2

theorem law05_RecordSpans_run (F : Nat) (a0 : S_ringdownlaw05_Tape) (a1 : (List UInt8)) (a2 : S__2_int) (s0 s1 : SV) (r : Bool) (M : Mem) (hs0 : Slc (rd M) 3 (FlatR enc86) s0 a0.B) (hs1 : Slc (rd M) 2 (rep84 (rd M)) s1 a0.L) (hfx : FixIn M fixes) (h : law05_RecordSpans F a0 a1 a2 = some r) : Run Tryz.prog (fx0 7) 115 (law05_RecordSpans_post r) [(0, (.agg [s0, s1])), (1, (.str a1)), (2, (.agg [(.int .i64 a2.e0), (.int .i64 a2.e1)]))] [codeC Tryz.prog 7 []] (frozen M) := by
  rw [law05_RecordSpans] at h
  replace hs0 := hs0.mono (rdLe_frozen M) (fun _ _ h => h)
  replace hs1 := hs1.mono (rdLe_frozen M) (fun _ _ => rep84_mo (rdLe_frozen M))
  have hH : Has (ro (frozen M)) (frozen M) [tb0, tb1, tb2] := Has.ofFix hfx.frozen
  refine Run.seq (Run.region ?_)
  refine Run.opX wantS_none rfl (ExG.box rfl rfl hH) ?_
  rintro _ M26 ⟨b25, rfl, hH26⟩
  refine Run.opX wantS_none rfl (ExG.box rfl rfl hH26) ?_
  rintro _ M29 ⟨b28, rfl, hH29⟩
  refine Run.opG wantS_none (ex_assign rfl) rfl ?_
  refine Run.opsEnd (Run.seq (Run.region ?_))
  refine Run.opG wantS_none (ex_fieldAddr rfl off70_0) rfl ?_
  refine Run.opG wantS_none (ex_load1 rfl (hH29.cells (i := 1) rfl 0 rfl) rdLe_rfl agg67) rfl ?_
  refine Run.opG wantS_none (ex_fieldAddr rfl off70_1) rfl ?_
  refine Run.opG wantS_none (ex_load1 rfl (hH29.cells (i := 1) rfl 1 rfl) rdLe_rfl agg68) rfl ?_
  refine Run.opG wantS_none (ex_elX rfl rfl (arr_place (j := 0) rfl els50)) rfl ?_
  refine Run.opG wantS_none (ex_load1 rfl (hH29.cells (i := 0) rfl 0 rfl) rdLe_rfl agg3) rfl ?_
  refine Run.opG wantS_none (ex_elX rfl rfl (arr_place (j := 1) rfl els50)) rfl ?_
  refine Run.opG wantS_none (ex_load1 rfl (hH29.cells (i := 0) rfl 1 rfl) rdLe_rfl agg3) rfl ?_
  obtain ⟨r36, hr36, h⟩ := bnd_some h
  refine Run.callX wantS_none (ex_call rfl mkk23 cal23) rfl (record_Gaps_ok F a0.B a0.L a2.e0 a2.e1 s0 s1 _ _ (hH29.slcF hs0) ((hs1).mono hH29.le (fun _ _ => rep84_mo hH29.le)) hr36) ?_
  rintro _ M38 ⟨s36_0, rfl, hN36⟩
  have hH38 : Has (ro (frozen M)) M38 [.vec 81 2 r36.1.length s36_0 (r36.1.flatMap enc81), .obj b28 (.row 50 .whole [(.int .i64 a2.e0), (.int .i64 a2.e1)]), .obj b25 (.row 70 .whole [s0, s1]), tb0, tb1, tb2] := hN36.1 _ _ hH29
  refine Run.opG wantS_none (ex_move rfl) rfl ?_
  refine Run.opG wantS_none (ex_extract rfl rfl) rfl ?_
  refine Run.opG wantS_none (ex_extract rfl rfl) rfl ?_
  refine Run.opG wantS_none (ex_assign rfl) rfl ?_
  refine Run.opG wantS_none (ex_assign rfl) rfl ?_
  refine Run.opsEnd (Run.seq (Run.region ?_))
  refine Run.opG wantS_none (ex_fieldAddr rfl off70_0) rfl ?_
  refine Run.opG wantS_none (ex_load1 rfl (hH38.cells (i := 2) rfl 0 rfl) rdLe_rfl agg67) rfl ?_
  refine Run.opG wantS_none (ex_fieldAddr rfl off70_1) rfl ?_
  refine Run.opG wantS_none (ex_load1 rfl (hH38.cells (i := 2) rfl 1 rfl) rdLe_rfl agg68) rfl ?_
  refine Run.opG wantS_none (ex_elX rfl rfl (arr_place (j := 0) rfl els50)) rfl ?_
  refine Run.opG wantS_none (ex_load1 rfl (hH38.cells (i := 1) rfl 0 rfl) rdLe_rfl agg3) rfl ?_
  refine Run.opG wantS_none (ex_elX rfl rfl (arr_place (j := 1) rfl els50)) rfl ?_
  refine Run.opG wantS_none (ex_load1 rfl (hH38.cells (i := 1) rfl 1 rfl) rdLe_rfl agg3) rfl ?_
  obtain ⟨r45, hr45, h⟩ := bnd_some h
  refine Run.callX wantS_none (ex_call rfl mkk24 cal24) rfl (ref05_Gaps_ok F a0.B a0.L a2.e0 a2.e1 s0 s1 _ _ (hH38.slcF hs0) ((hs1).mono hH38.le (fun _ _ => rep84_mo hH38.le)) hr45) ?_
  rintro _ M47 ⟨s45_0, rfl, hN45⟩
  have hH47 : Has (ro (frozen M)) M47 [.vec 81 2 r45.1.length s45_0 (r45.1.flatMap enc81), .vec 81 2 r36.1.length s36_0 (r36.1.flatMap enc81), .obj b28 (.row 50 .whole [(.int .i64 a2.e0), (.int .i64 a2.e1)]), .obj b25 (.row 70 .whole [s0, s1]), tb0, tb1, tb2] := hN45.1 _ _ hH38
  refine Run.opG wantS_none (ex_move rfl) rfl ?_
  refine Run.opG wantS_none (ex_extract rfl rfl) rfl ?_
  refine Run.opG wantS_none (ex_extract rfl rfl) rfl ?_
  refine Run.opG wantS_none (ex_assign rfl) rfl ?_
  refine Run.opG wantS_none (ex_assign rfl) rfl ?_
  refine Run.opsEnd (Run.seq (Run.seq (Run.region ?_)))
  refine Run.opG wantS_none (ex_move rfl) rfl ?_
  refine Run.opG wantS_none (ex_move rfl) rfl ?_
  obtain ⟨r49, hr49, h⟩ := bnd_some h
  refine Run.callP wantS_none (ex_call rfl mkk25 cal25) rfl (law05_sameSpans_ok F r36.1 r45.1 s36_0 s45_0 _ _ (hH47.slc (i := 1) rfl enc81_len) (hH47.slc (i := 0) rfl enc81_len) hr49) ?_
  refine Run.opG wantS_none (ex_not rfl) rfl ?_
  refine Run.opG wantS_none (ex_move rfl) rfl ?_
  rcases btf ((!r49)) with hc51 | hc51
  · have h := bif_t hc51 h
    refine Run.no (wantS_not' rfl rfl hc51) rfl ?_
    refine Run.no (wantS_not' rfl rfl hc51) rfl ?_
    refine Run.no (wantS_not' rfl rfl hc51) rfl ?_
    refine Run.opG wantS_none (ex_pickT' rfl hc51 rfl rfl) rfl ?_
    refine Run.opsEnd ?_
    exact Run.pick [1, 3, 5, 46] (law05_RecordSpans_1_ok F a1 true a0.B a0.L a2 s0 s1 b25 b28 _ _ _ hs0 hs1 (hH47.pick [3, 2, 4, 5, 6] rfl rfl) h)
  · have h := bif_f hc51 h
    refine Run.opG (wantS_yes' rfl rfl hc51) (ex_move rfl) rfl ?_
    refine Run.opG (wantS_yes' rfl rfl hc51) (ex_move rfl) rfl ?_
    refine Run.opG (wantS_yes' rfl rfl hc51) (ex_neq rfl rfl) rfl ?_
    refine Run.opG wantS_none (ex_pickF' rfl hc51 rfl rfl) rfl ?_
    refine Run.opsEnd ?_
    exact Run.pick [1, 3, 5, 46] (law05_RecordSpans_1_ok F a1 (!(r36.2 == r45.2)) a0.B a0.L a2 s0 s1 b25 b28 _ _ _ hs0 hs1 (hH47.pick [3, 2, 4, 5, 6] rfl rfl) h)

end Go.Ev.RecordSpans
