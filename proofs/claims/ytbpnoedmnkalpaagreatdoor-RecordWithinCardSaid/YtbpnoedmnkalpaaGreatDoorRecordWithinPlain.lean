/- Plain functions that say what functions of the program come to, and proofs of it, written by a program of the verifier's own. -/
import Derived.Test.YtbpnoedmnkalpaaGreatDoorEvL16
import Derived.Test.YtbpnoedmnkalpaaGreatDoorWorks
import Derived.KernelRfl
namespace Go.Ev.RecordWithin
open Go Go.Ev Go.Proofs
set_option maxRecDepth 100000
set_option linter.unusedVariables false

/-- The listed tables. -/
noncomputable def fixes : List (Nat × List SV) := Go.Proofs.YtbpnoedmnkalpaaGreatDoor.works.fixes
noncomputable def tb0 : Ent := fixE (6, intCells .u8 [0, 1, 28, 2, 29, 14, 24, 3, 30, 22, 20, 15, 25, 17, 4, 8, 31, 27, 13, 23, 21, 19, 16, 7, 26, 12, 18, 6, 11, 5, 10, 9])
noncomputable def tb1 : Ent := fixE (7, intCells .u8 [0, 1, 56, 2, 57, 49, 28, 3, 61, 58, 42, 50, 38, 29, 17, 4, 62, 47, 59, 36, 45, 43, 51, 22, 53, 39, 33, 30, 24, 18, 12, 5, 63, 55, 48, 27, 60, 41, 37, 16, 46, 35, 44, 21, 52, 32, 23, 11, 54, 26, 40, 15, 34, 20, 31, 10, 25, 14, 19, 9, 13, 8, 7, 6])
noncomputable def tb2 : Ent := fixE (5, intCells .u64 [1, 10, 100, 1000, 10000, 100000, 1000000, 10000000, 100000000, 1000000000, 10000000000, 100000000000, 1000000000000, 10000000000000, 100000000000000, 1000000000000000, 10000000000000000, 100000000000000000, 1000000000000000000, 10000000000000000000])
/-- works() comes to true. -/
def works (_ : Nat) : Option Bool := some true
theorem fixH {Fr : Rd} {H : List Ent} {M : Mem} (hH : Has Fr M H) (h0 : tb0 ∈ H) (h1 : tb1 ∈ H) (h2 : tb2 ∈ H) : FixIn M fixes := by
  refine hH.fixIn fun x hx => ?_
  simp only [fixes, Go.Proofs.YtbpnoedmnkalpaaGreatDoor.works.fixes, List.mem_cons, List.not_mem_nil, or_false] at hx
  rcases hx with rfl | rfl | rfl
  · exact h0
  · exact h1
  · exact h2

theorem works_ok (F : Nat) (r : Bool) {Fr : Rd} {H : List Ent} (M : Mem) (hH : Has Fr M H) (h0 : tb0 ∈ H) (h1 : tb1 ∈ H) (h2 : tb2 ∈ H) (h : works F = some r) : CallsM Tryz.prog 29 [] M fun s M' => s = .bool r ∧ M' = M := by
  cases h
  refine CallsM.closedFix (n := 300) (l := Go.Proofs.YtbpnoedmnkalpaaGreatDoor.works.fixes) Go.Proofs.YtbpnoedmnkalpaaGreatDoor.works.below Go.Proofs.YtbpnoedmnkalpaaGreatDoor.works.plainF Go.Proofs.YtbpnoedmnkalpaaGreatDoor.works.works_true (hH.fixIn fun x hx => ?_)
  simp only [Go.Proofs.YtbpnoedmnkalpaaGreatDoor.works.fixes, List.mem_cons, List.not_mem_nil, or_false] at hx
  rcases hx with rfl | rfl | rfl
  · exact h0
  · exact h1
  · exact h2


structure S_api_Tap where
  Low : Int
  High : Int

structure S_api_Model where
  Taps : (List S_api_Tap)
  Shift : Int

def enc96 (a : S_api_Tap) : List SV := [(.int .i64 a.Low), (.int .i64 a.High)]
theorem enc96_len (a : S_api_Tap) : (enc96 a).length = 2 := rfl
theorem enc96_ones (a : S_api_Tap) : ones (enc96 a) = true := rfl
def enc3 (a : Int) : List SV := [(.int .i64 a)]
theorem enc3_len (a : Int) : (enc3 a).length = 1 := rfl
theorem enc3_ones (a : Int) : ones (enc3 a) = true := rfl
theorem agg90 : aggSize Tryz.prog 90 = some (some 2) := by kernel_rfl
def enc97 (a : S_api_Tap) : List SV := [(.int .i64 a.Low), (.int .i64 a.High)]
theorem enc97_len (a : S_api_Tap) : (enc97 a).length = 2 := rfl
theorem enc97_ones (a : S_api_Tap) : ones (enc97 a) = true := rfl
theorem off90_0 : fieldOff Tryz.prog 90 0 = some 0 := by kernel_rfl
theorem agg88 : aggSize Tryz.prog 88 = some none := by kernel_rfl
theorem lenk88 : lenK Tryz.prog 88 = some .sl := by kernel_rfl
abbrev record_isFrom_post (r : Bool) : SV → Mem → Prop := fun s _ => s = (.bool r)

def record_isFrom_1 (F : Nat) (v14 : Bool) : Option (Bool) :=
  some v14

theorem record_isFrom_1_ok (F : Nat) : ∀ (v14 : Bool) (Fr : Rd) (M : Mem) (r : Bool) (hH : Has Fr M []), record_isFrom_1 F v14 = some r → Run Tryz.prog ⟨⟨91, [], none⟩, []⟩ 15 (record_isFrom_post r) [(14, (.bool v14))] [itemC Tryz.prog 91 [1, 0] 8, codeC Tryz.prog 91 [1, 1]] M := by
  intro v14 Fr M r hH h
  rw [record_isFrom_1] at h
  refine Run.opG wantS_none (ex_assign rfl) rfl ?_
  refine Run.opsEnd ?_
  cases h
  exact Run.ret Tryz.func91 rfl (res_tmp rfl res_nil) rfl

def record_isFrom (F : Nat) (a0 : Int) (a1 : Int) (a2 : Int) : Option (Bool) :=
  bif (decide (a0 ≤ a1)) then
    record_isFrom_1 F (decide (a1 ≤ a2))
  else
    record_isFrom_1 F false

theorem record_isFrom_ok (F : Nat) (a0 : Int) (a1 : Int) (a2 : Int) (r : Bool) (M : Mem) (h : record_isFrom F a0 a1 a2 = some r) : CallsM Tryz.prog 91 [(.int .i64 a0), (.int .i64 a1), (.int .i64 a2)] M (fun s M' => s = (.bool r) ∧ M' = M) := by
  refine CallsM.plain Tryz.func91 rfl rfl rfl (show Run _ _ _ (record_isFrom_post r) _ _ _ from ?_)
  rw [record_isFrom] at h
  have hH := Has.nil (frozen M)
  refine Run.seq (Run.region ?_)
  refine Run.opG wantS_none (ex_assign rfl) rfl ?_
  refine Run.opsEnd (Run.seq (Run.region ?_))
  refine Run.opG wantS_none (ex_move rfl) rfl ?_
  refine Run.opG wantS_none (ex_move rfl) rfl ?_
  refine Run.opG wantS_none (ex_leq rfl rfl) rfl ?_
  refine Run.opG wantS_none (ex_move rfl) rfl ?_
  rcases btf ((decide (a0 ≤ a1))) with hc21 | hc21
  · have h := bif_t hc21 h
    refine Run.opG (wantS_yes' rfl rfl hc21) (ex_move rfl) rfl ?_
    refine Run.opG (wantS_yes' rfl rfl hc21) (ex_move rfl) rfl ?_
    refine Run.opG (wantS_yes' rfl rfl hc21) (ex_leq rfl rfl) rfl ?_
    refine Run.opG wantS_none (ex_pickT' rfl hc21 rfl rfl) rfl ?_
    exact Run.pick [14] (record_isFrom_1_ok F (decide (a1 ≤ a2)) _ _ _ hH h)
  · have h := bif_f hc21 h
    refine Run.no (wantS_not' rfl rfl hc21) rfl ?_
    refine Run.no (wantS_not' rfl rfl hc21) rfl ?_
    refine Run.no (wantS_not' rfl rfl hc21) rfl ?_
    refine Run.opG wantS_none (ex_pickF' rfl hc21 rfl rfl) rfl ?_
    exact Run.pick [14] (record_isFrom_1_ok F false _ _ _ hH h)

theorem mkk91 : makeK Tryz.prog 91 = none := by kernel_rfl
theorem cal91 : callable Tryz.prog 91 = true := by kernel_rfl
theorem els88 : elems Tryz.prog 88 = some (.sl 2) := by kernel_rfl
theorem agg96 : aggSize Tryz.prog 96 = some (some 2) := by kernel_rfl
theorem zer96 : zerosOf Tryz.prog 96 = some [(.int .i64 0), (.int .i64 0)] := by kernel_rfl
theorem sz96 : szOf Tryz.prog 96 = some 2 := by kernel_rfl
theorem off96_0 : fieldOff Tryz.prog 96 0 = some 0 := by kernel_rfl
theorem agg3 : aggSize Tryz.prog 3 = some none := by kernel_rfl
theorem off96_1 : fieldOff Tryz.prog 96 1 = some 1 := by kernel_rfl
theorem off90_1 : fieldOff Tryz.prog 90 1 = some 1 := by kernel_rfl
abbrev record_CheckModel_post (r : Int) : SV → Mem → Prop := fun s _ => s = (.int .i64 r)

def record_CheckModel_4 (F : Nat) (hd2 : (List S_api_Tap) → Int → Int → Option (Int)) (v17 : (List S_api_Tap)) (v18 : Int) (v19 : Int) (v37 : Bool) : Option (Int) :=
  bif v37 then
    some (53 : Int)
  else
    hd2 v17 v18 (w64 (v19 + (1 : Int)))

theorem record_CheckModel_4_ok (F : Nat) (hd2 : (List S_api_Tap) → Int → Int → Option (Int)) (hhd2 : ∀ (v17 : (List S_api_Tap)) (v18 : Int) (v19 : Int) (sv17 : SV) (Fr : Rd) (M : Mem) (r : Int) (hv17 : Slc Fr 2 (FlatR enc96) sv17 v17) (hH : Has Fr M []), hd2 v17 v18 v19 = some r → Run Tryz.prog ⟨⟨64, [], none⟩, []⟩ 39 (record_CheckModel_post r) [(17, sv17), (18, (.int .i64 v18)), (19, (.int .i64 v19))] [codeC Tryz.prog 64 [1, 1, 0, 1, 0, 0], loopC Tryz.prog 64 [1, 1, 0, 1, 0, 0], .inBlock 0, codeC Tryz.prog 64 [1, 1, 1]] M) : ∀ (v17 : (List S_api_Tap)) (v18 : Int) (v19 : Int) (v37 : Bool) (sv17 : SV) (Fr : Rd) (M : Mem) (r : Int) (hv17 : Slc Fr 2 (FlatR enc96) sv17 v17) (hH : Has Fr M []), record_CheckModel_4 F hd2 v17 v18 v19 v37 = some r → Run Tryz.prog ⟨⟨64, [], none⟩, []⟩ 39 (record_CheckModel_post r) [(17, sv17), (18, (.int .i64 v18)), (19, (.int .i64 v19)), (37, (.bool v37))] [codeC Tryz.prog 64 [1, 1, 0, 1, 0, 0, 1, 1, 0, 0, 1, 1], .inBlock 1, codeC Tryz.prog 64 [1, 1, 0, 1, 0, 0, 1, 1, 1], loopC Tryz.prog 64 [1, 1, 0, 1, 0, 0], .inBlock 0, codeC Tryz.prog 64 [1, 1, 1]] M := by
  intro v17 v18 v19 v37 sv17 Fr M r hv17 hH h
  rw [record_CheckModel_4] at h
  rcases btf (v37) with hc38 | hc38
  · have h := bif_t hc38 h
    refine Run.condT' rfl hc38 ?_
    refine Run.seq (Run.region ?_)
    refine Run.opG wantS_none (ex_assign rfl) rfl ?_
    refine Run.opsEnd ?_
    cases h
    exact Run.ret Tryz.func64 rfl (res_tmp rfl res_nil) rfl
  · have h := bif_f hc38 h
    refine Run.condF' rfl hc38 ?_
    refine Run.skip (Run.inBlock (Run.region ?_))
    refine Run.opG wantS_none (ex_add rfl rfl) rfl ?_
    refine Run.opG wantS_none (ex_move rfl) rfl ?_
    refine Run.opsEnd (Run.inLoop ?_)
    exact Run.pick [17, 18, 19] (hhd2 v17 v18 (w64 (v19 + (1 : Int))) sv17 _ _ _ hv17 hH h)

def record_CheckModel_3 (F : Nat) (hd2 : (List S_api_Tap) → Int → Int → Option (Int)) (v17 : (List S_api_Tap)) (v18 : Int) (v19 : Int) (v32 : Bool) (c33 : S_api_Tap) : Option (Int) :=
  bif v32 then
    record_CheckModel_4 F hd2 v17 v18 v19 true
  else
    record_CheckModel_4 F hd2 v17 v18 v19 (decide ((1048576 : Int) < c33.High))

theorem record_CheckModel_3_ok (F : Nat) (hd2 : (List S_api_Tap) → Int → Int → Option (Int)) (hhd2 : ∀ (v17 : (List S_api_Tap)) (v18 : Int) (v19 : Int) (sv17 : SV) (Fr : Rd) (M : Mem) (r : Int) (hv17 : Slc Fr 2 (FlatR enc96) sv17 v17) (hH : Has Fr M []), hd2 v17 v18 v19 = some r → Run Tryz.prog ⟨⟨64, [], none⟩, []⟩ 39 (record_CheckModel_post r) [(17, sv17), (18, (.int .i64 v18)), (19, (.int .i64 v19))] [codeC Tryz.prog 64 [1, 1, 0, 1, 0, 0], loopC Tryz.prog 64 [1, 1, 0, 1, 0, 0], .inBlock 0, codeC Tryz.prog 64 [1, 1, 1]] M) : ∀ (v17 : (List S_api_Tap)) (v18 : Int) (v19 : Int) (v32 : Bool) (c33 : S_api_Tap) (sv17 : SV) (b33 : Pos) (Fr : Rd) (M : Mem) (r : Int) (hv17 : Slc Fr 2 (FlatR enc96) sv17 v17) (hH : Has Fr M [.obj b33 (.row 96 .whole [(.int .i64 c33.Low), (.int .i64 c33.High)])]), record_CheckModel_3 F hd2 v17 v18 v19 v32 c33 = some r → Run Tryz.prog ⟨⟨64, [], none⟩, []⟩ 39 (record_CheckModel_post r) [(4, (.ptr b33 0)), (17, sv17), (18, (.int .i64 v18)), (19, (.int .i64 v19)), (32, (.bool v32))] [itemC Tryz.prog 64 [1, 1, 0, 1, 0, 0, 1, 1, 0, 0, 1, 0] 10, codeC Tryz.prog 64 [1, 1, 0, 1, 0, 0, 1, 1, 0, 0, 1, 1], .inBlock 1, codeC Tryz.prog 64 [1, 1, 0, 1, 0, 0, 1, 1, 1], loopC Tryz.prog 64 [1, 1, 0, 1, 0, 0], .inBlock 0, codeC Tryz.prog 64 [1, 1, 1]] M := by
  intro v17 v18 v19 v32 c33 sv17 b33 Fr M r hv17 hH h
  rw [record_CheckModel_3] at h
  refine Run.opG wantS_none (ex_move rfl) rfl ?_
  rcases btf (v32) with hc37 | hc37
  · have h := bif_t hc37 h
    refine Run.no (wantS_not' rfl rfl hc37) rfl ?_
    refine Run.no (wantS_not' rfl rfl hc37) rfl ?_
    refine Run.no (wantS_not' rfl rfl hc37) rfl ?_
    refine Run.opG wantS_none (ex_pickT' rfl hc37 rfl rfl) rfl ?_
    refine Run.opsEnd ?_
    exact Run.pick [17, 18, 19, 37] (record_CheckModel_4_ok F hd2 hhd2 v17 v18 v19 true sv17 _ _ _ hv17 (hH.pick [] rfl rfl) h)
  · have h := bif_f hc37 h
    refine Run.opG (wantS_yes' rfl rfl hc37) (ex_fieldAddr rfl off96_1) rfl ?_
    refine Run.opG (wantS_yes' rfl rfl hc37) (ex_load1 rfl (hH.cells (i := 0) rfl 1 rfl) rdLe_rfl agg3) rfl ?_
    refine Run.opG (wantS_yes' rfl rfl hc37) (ex_gtr rfl rfl) rfl ?_
    refine Run.opG wantS_none (ex_pickF' rfl hc37 rfl rfl) rfl ?_
    refine Run.opsEnd ?_
    exact Run.pick [17, 18, 19, 37] (record_CheckModel_4_ok F hd2 hhd2 v17 v18 v19 (decide ((1048576 : Int) < c33.High)) sv17 _ _ _ hv17 (hH.pick [] rfl rfl) h)

def record_CheckModel_2 (F : Nat) : Nat → (List S_api_Tap) → Int → Int → Option (Int)
  | 0, _, _, _ => none
  | N + 1, v17, v18, v19 =>
    bif (decide (v19 < v18)) then
      bnd (idx v17 v19) fun x31 =>
      bif (decide (x31.High < x31.Low)) then
        record_CheckModel_3 F (record_CheckModel_2 F N) v17 v18 v19 true x31
      else
        record_CheckModel_3 F (record_CheckModel_2 F N) v17 v18 v19 (decide (x31.Low < ((-1048576) : Int))) x31
    else
      some (0 : Int)

theorem record_CheckModel_2_ok (F : Nat) : ∀ (N : Nat), ∀ (v17 : (List S_api_Tap)) (v18 : Int) (v19 : Int) (sv17 : SV) (Fr : Rd) (M : Mem) (r : Int) (hv17 : Slc Fr 2 (FlatR enc96) sv17 v17) (hH : Has Fr M []), record_CheckModel_2 F N v17 v18 v19 = some r → Run Tryz.prog ⟨⟨64, [], none⟩, []⟩ 39 (record_CheckModel_post r) [(17, sv17), (18, (.int .i64 v18)), (19, (.int .i64 v19))] [codeC Tryz.prog 64 [1, 1, 0, 1, 0, 0], loopC Tryz.prog 64 [1, 1, 0, 1, 0, 0], .inBlock 0, codeC Tryz.prog 64 [1, 1, 1]] M := by
  intro N
  induction N with
  | zero =>
    intro v17 v18 v19 sv17 Fr M r hv17 hH h
    simp [record_CheckModel_2] at h
  | succ N ih =>
    intro v17 v18 v19 sv17 Fr M r hv17 hH h
    rw [record_CheckModel_2] at h
    refine Run.seq (Run.region ?_)
    refine Run.opG wantS_none (ex_lss rfl rfl) rfl ?_
    refine Run.opsEnd (Run.seq ?_)
    rcases btf ((decide (v19 < v18))) with hc29 | hc29
    · have h := bif_t hc29 h
      refine Run.condT' rfl hc29 ?_
      refine Run.skip (Run.seq (Run.block (Run.seq (Run.region ?_))))
      obtain ⟨x31, hx31, h⟩ := bnd_some h
      obtain ⟨p31, o31, _, hx31, hp31, rfl⟩ := sl_elem (P := Tryz.prog) (t := 88) (kk := .i64) hv17 hx31 els88
      refine Run.opG wantS_none (ex_elX rfl rfl hx31) rfl ?_
      refine Run.opG wantS_none (ex_loadA rfl (hH.ptrF hp31) rdLe_rfl agg96 rfl rfl rfl) rfl ?_
      refine Run.opX wantS_none rfl (ExG.new (v := fun b => .ptr b 0) (ex_alloc zer96) hH) ?_
      rintro _ M34 ⟨b33, rfl, (hH34 : Has Fr M34 [.obj b33 (.row 96 .whole [(.int .i64 0), (.int .i64 0)])])⟩
      refine Run.opX wantS_none rfl (ExG.storeC (c' := [(.int .i64 x31.Low), (.int .i64 x31.High)]) rfl rfl rfl hH34 (i := 0) rfl sz96 rfl rfl rfl rfl rfl) ?_
      rintro _ M35 ⟨rfl, (hH35 : Has Fr M35 [.obj b33 (.row 96 .whole [(.int .i64 x31.Low), (.int .i64 x31.High)])])⟩
      refine Run.opsEnd (Run.seq (Run.region ?_))
      refine Run.opG wantS_none (ex_fieldAddr rfl off96_0) rfl ?_
      refine Run.opG wantS_none (ex_load1 rfl (hH35.cells (i := 0) rfl 0 rfl) rdLe_rfl agg3) rfl ?_
      refine Run.opG wantS_none (ex_fieldAddr rfl off96_1) rfl ?_
      refine Run.opG wantS_none (ex_load1 rfl (hH35.cells (i := 0) rfl 1 rfl) rdLe_rfl agg3) rfl ?_
      refine Run.opG wantS_none (ex_gtr rfl rfl) rfl ?_
      refine Run.opG wantS_none (ex_move rfl) rfl ?_
      rcases btf ((decide (x31.High < x31.Low))) with hc36 | hc36
      · have h := bif_t hc36 h
        refine Run.no (wantS_not' rfl rfl hc36) rfl ?_
        refine Run.no (wantS_not' rfl rfl hc36) rfl ?_
        refine Run.no (wantS_not' rfl rfl hc36) rfl ?_
        refine Run.opG wantS_none (ex_pickT' rfl hc36 rfl rfl) rfl ?_
        exact Run.pick [4, 17, 18, 19, 32] (record_CheckModel_3_ok F (record_CheckModel_2 F N) ih v17 v18 v19 true x31 sv17 b33 _ _ _ hv17 hH35 h)
      · have h := bif_f hc36 h
        refine Run.opG (wantS_yes' rfl rfl hc36) (ex_fieldAddr rfl off96_0) rfl ?_
        refine Run.opG (wantS_yes' rfl rfl hc36) (ex_load1 rfl (hH35.cells (i := 0) rfl 0 rfl) rdLe_rfl agg3) rfl ?_
        refine Run.opG (wantS_yes' rfl rfl hc36) (ex_lss rfl rfl) rfl ?_
        refine Run.opG wantS_none (ex_pickF' rfl hc36 rfl rfl) rfl ?_
        exact Run.pick [4, 17, 18, 19, 32] (record_CheckModel_3_ok F (record_CheckModel_2 F N) ih v17 v18 v19 (decide (x31.Low < ((-1048576) : Int))) x31 sv17 b33 _ _ _ hv17 hH35 h)
    · have h := bif_f hc29 h
      refine Run.condF' rfl hc29 ?_
      refine Run.exit rfl (Run.seq (Run.region ?_))
      refine Run.opG wantS_none (ex_assign rfl) rfl ?_
      refine Run.opsEnd ?_
      cases h
      exact Run.ret Tryz.func64 rfl (res_tmp rfl res_nil) rfl

def record_CheckModel_1 (F : Nat) (v15 : Bool) (c22_0 : (List S_api_Tap)) (c22_1 : Int) : Option (Int) :=
  bif v15 then
    some (53 : Int)
  else
    record_CheckModel_2 F F c22_0 (c22_0.length : Int) (0 : Int)

theorem record_CheckModel_1_ok (F : Nat) : ∀ (v15 : Bool) (c22_0 : (List S_api_Tap)) (c22_1 : Int) (sc22_0 : SV) (b22 : Pos) (Fr : Rd) (M : Mem) (r : Int) (hc22_0 : Slc Fr 2 (FlatR enc96) sc22_0 c22_0) (hH : Has Fr M [.obj b22 (.row 90 .whole [sc22_0, (.int .i64 c22_1)])]), record_CheckModel_1 F v15 c22_0 c22_1 = some r → Run Tryz.prog ⟨⟨64, [], none⟩, []⟩ 39 (record_CheckModel_post r) [(1, (.ptr b22 0)), (15, (.bool v15))] [codeC Tryz.prog 64 [1, 0, 1], codeC Tryz.prog 64 [1, 1]] M := by
  intro v15 c22_0 c22_1 sc22_0 b22 Fr M r hc22_0 hH h
  rw [record_CheckModel_1] at h
  rcases btf (v15) with hc28 | hc28
  · have h := bif_t hc28 h
    refine Run.condT' rfl hc28 ?_
    refine Run.seq (Run.region ?_)
    refine Run.opG wantS_none (ex_assign rfl) rfl ?_
    refine Run.opsEnd ?_
    cases h
    exact Run.ret Tryz.func64 rfl (res_tmp rfl res_nil) rfl
  · have h := bif_f hc28 h
    refine Run.condF' rfl hc28 ?_
    refine Run.skip (Run.seq (Run.seq (Run.region ?_)))
    refine Run.opG wantS_none (ex_fieldAddr rfl off90_0) rfl ?_
    refine Run.opG wantS_none (ex_load1 rfl (hH.cells (i := 0) rfl 0 rfl) rdLe_rfl agg88) rfl ?_
    refine Run.opG wantS_none (ex_len' rfl hc22_0 lenk88) rfl ?_
    refine Run.opG wantS_none (ex_move rfl) rfl ?_
    refine Run.opsEnd (Run.block (Run.loop ?_))
    exact Run.pick [17, 18, 19] (record_CheckModel_2_ok F F c22_0 (c22_0.length : Int) (0 : Int) sc22_0 _ _ _ hc22_0 (hH.pick [] rfl rfl) h)

def record_CheckModel (F : Nat) (a0 : S_api_Model) : Option (Int) :=
  bnd (record_isFrom F (1 : Int) (a0.Taps.length : Int) (16 : Int)) fun r25 =>
  bif (!r25) then
    record_CheckModel_1 F true a0.Taps a0.Shift
  else
    bnd (record_isFrom F (0 : Int) a0.Shift (20 : Int)) fun r40 =>
    record_CheckModel_1 F (!r40) a0.Taps a0.Shift

theorem record_CheckModel_ok (F : Nat) (a0 : S_api_Model) (s0 : SV) (r : Int) (M : Mem) (hs0 : Slc (rd M) 2 (FlatR enc96) s0 a0.Taps) (h : record_CheckModel F a0 = some r) : CallsM Tryz.prog 64 [(.agg [s0, (.int .i64 a0.Shift)])] M (fun s M' => s = (.int .i64 r) ∧ M' = M) := by
  refine CallsM.plain Tryz.func64 rfl rfl rfl (show Run _ _ _ (record_CheckModel_post r) _ _ _ from ?_)
  rw [record_CheckModel] at h
  replace hs0 := hs0.mono (rdLe_frozen M) (fun _ _ h => h)
  have hH := Has.nil (frozen M)
  refine Run.seq (Run.region ?_)
  refine Run.opX wantS_none rfl (ExG.box rfl rfl hH) ?_
  rintro _ M23 ⟨b22, rfl, (hH23 : Has (ro (frozen M)) M23 [.obj b22 (.row 90 .whole [s0, (.int .i64 a0.Shift)])])⟩
  refine Run.opG wantS_none (ex_assign rfl) rfl ?_
  refine Run.opsEnd (Run.seq (Run.seq (Run.region ?_)))
  refine Run.opG wantS_none (ex_fieldAddr rfl off90_0) rfl ?_
  refine Run.opG wantS_none (ex_load1 rfl (hH23.cells (i := 0) rfl 0 rfl) rdLe_rfl agg88) rfl ?_
  refine Run.opG wantS_none (ex_len' rfl hs0 lenk88) rfl ?_
  obtain ⟨r25, hr25, h⟩ := bnd_some h
  refine Run.callP wantS_none (ex_call rfl mkk91 cal91) rfl (record_isFrom_ok F (1 : Int) (a0.Taps.length : Int) (16 : Int) _ _ hr25) ?_
  refine Run.opG wantS_none (ex_not rfl) rfl ?_
  refine Run.opG wantS_none (ex_move rfl) rfl ?_
  rcases btf ((!r25)) with hc27 | hc27
  · have h := bif_t hc27 h
    refine Run.no (wantS_not' rfl rfl hc27) rfl ?_
    refine Run.no (wantS_not' rfl rfl hc27) rfl ?_
    refine Run.no (wantS_not' rfl rfl hc27) rfl ?_
    refine Run.no (wantS_not' rfl rfl hc27) rfl ?_
    refine Run.opG wantS_none (ex_pickT' rfl hc27 rfl rfl) rfl ?_
    refine Run.opsEnd ?_
    exact Run.pick [1, 15] (record_CheckModel_1_ok F true a0.Taps a0.Shift s0 b22 _ _ _ hs0 hH23 h)
  · have h := bif_f hc27 h
    refine Run.opG (wantS_yes' rfl rfl hc27) (ex_fieldAddr rfl off90_1) rfl ?_
    refine Run.opG (wantS_yes' rfl rfl hc27) (ex_load1 rfl (hH23.cells (i := 0) rfl 1 rfl) rdLe_rfl agg3) rfl ?_
    obtain ⟨r40, hr40, h⟩ := bnd_some h
    refine Run.callP (wantS_yes' rfl rfl hc27) (ex_call rfl mkk91 cal91) rfl (record_isFrom_ok F (0 : Int) a0.Shift (20 : Int) _ _ hr40) ?_
    refine Run.opG (wantS_yes' rfl rfl hc27) (ex_not rfl) rfl ?_
    refine Run.opG wantS_none (ex_pickF' rfl hc27 rfl rfl) rfl ?_
    refine Run.opsEnd ?_
    exact Run.pick [1, 15] (record_CheckModel_1_ok F (!r40) a0.Taps a0.Shift s0 b22 _ _ _ hs0 hH23 h)

theorem mkk64 : makeK Tryz.prog 64 = none := by kernel_rfl
theorem cal64 : callable Tryz.prog 64 = true := by kernel_rfl
theorem lenk26 : lenK Tryz.prog 26 = some .sl := by kernel_rfl
theorem els26 : elems Tryz.prog 26 = some (.sl 1) := by kernel_rfl
abbrev record_areFrom_post (r : Bool) : SV → Mem → Prop := fun s _ => s = (.bool r)

def record_areFrom_1 (F : Nat) : Nat → Int → (List Int) → Int → Int → Option (Bool)
  | 0, _, _, _, _ => none
  | N + 1, v1, v7, v8, v9 =>
    bif (decide (v9 < v8)) then
      bnd (idx v7 v9) fun x23 =>
      bnd (record_isFrom F (w64 (-v1)) x23 v1) fun r25 =>
      bif (!r25) then
        some false
      else
        (record_areFrom_1 F N) v1 v7 v8 (w64 (v9 + (1 : Int)))
    else
      some true

theorem record_areFrom_1_ok (F : Nat) : ∀ (N : Nat), ∀ (v1 : Int) (v7 : (List Int)) (v8 : Int) (v9 : Int) (sv7 : SV) (Fr : Rd) (M : Mem) (r : Bool) (hv7 : Slc Fr 1 (FlatR enc3) sv7 v7) (hH : Has Fr M []), record_areFrom_1 F N v1 v7 v8 v9 = some r → Run Tryz.prog ⟨⟨92, [], none⟩, []⟩ 20 (record_areFrom_post r) [(1, (.int .i64 v1)), (7, sv7), (8, (.int .i64 v8)), (9, (.int .i64 v9))] [codeC Tryz.prog 92 [1, 0, 1, 0, 0], loopC Tryz.prog 92 [1, 0, 1, 0, 0], .inBlock 0, codeC Tryz.prog 92 [1, 1]] M := by
  intro N
  induction N with
  | zero =>
    intro v1 v7 v8 v9 sv7 Fr M r hv7 hH h
    simp [record_areFrom_1] at h
  | succ N ih =>
    intro v1 v7 v8 v9 sv7 Fr M r hv7 hH h
    rw [record_areFrom_1] at h
    refine Run.seq (Run.region ?_)
    refine Run.opG wantS_none (ex_lss rfl rfl) rfl ?_
    refine Run.opsEnd (Run.seq ?_)
    rcases btf ((decide (v9 < v8))) with hc21 | hc21
    · have h := bif_t hc21 h
      refine Run.condT' rfl hc21 ?_
      refine Run.skip (Run.seq (Run.block (Run.seq (Run.region ?_))))
      obtain ⟨x23, hx23, h⟩ := bnd_some h
      obtain ⟨p23, o23, _, hx23, hp23, rfl⟩ := sl_elem (P := Tryz.prog) (t := 26) (kk := .i64) hv7 hx23 els26
      refine Run.opG wantS_none (ex_elX rfl rfl hx23) rfl ?_
      refine Run.opG wantS_none (ex_load1 rfl (hH.ptrF hp23) rdLe_rfl agg3) rfl ?_
      refine Run.opG wantS_none (ex_assign rfl) rfl ?_
      refine Run.opsEnd (Run.seq (Run.region ?_))
      refine Run.opG wantS_none (ex_move rfl) rfl ?_
      refine Run.opG wantS_none (ex_neg rfl) rfl ?_
      refine Run.opG wantS_none (ex_move rfl) rfl ?_
      refine Run.opG wantS_none (ex_move rfl) rfl ?_
      obtain ⟨r25, hr25, h⟩ := bnd_some h
      refine Run.callP wantS_none (ex_call rfl mkk91 cal91) rfl (record_isFrom_ok F (w64 (-v1)) x23 v1 _ _ hr25) ?_
      refine Run.opG wantS_none (ex_not rfl) rfl ?_
      refine Run.opsEnd ?_
      rcases btf ((!r25)) with hc27 | hc27
      · have h := bif_t hc27 h
        refine Run.condT' rfl hc27 ?_
        refine Run.seq (Run.region ?_)
        refine Run.opG wantS_none (ex_assign rfl) rfl ?_
        refine Run.opsEnd ?_
        cases h
        exact Run.ret Tryz.func92 rfl (res_tmp rfl res_nil) rfl
      · have h := bif_f hc27 h
        refine Run.condF' rfl hc27 ?_
        refine Run.skip (Run.inBlock (Run.region ?_))
        refine Run.opG wantS_none (ex_add rfl rfl) rfl ?_
        refine Run.opG wantS_none (ex_move rfl) rfl ?_
        refine Run.opsEnd (Run.inLoop ?_)
        exact Run.pick [1, 7, 8, 9] (ih v1 v7 v8 (w64 (v9 + (1 : Int))) sv7 _ _ _ hv7 hH h)
    · have h := bif_f hc21 h
      refine Run.condF' rfl hc21 ?_
      refine Run.exit rfl (Run.seq (Run.region ?_))
      refine Run.opG wantS_none (ex_assign rfl) rfl ?_
      refine Run.opsEnd ?_
      cases h
      exact Run.ret Tryz.func92 rfl (res_tmp rfl res_nil) rfl

def record_areFrom (F : Nat) (a0 : (List Int)) (a1 : Int) : Option (Bool) :=
  record_areFrom_1 F F a1 a0 (a0.length : Int) (0 : Int)

theorem record_areFrom_ok (F : Nat) (a0 : (List Int)) (a1 : Int) (s0 : SV) (r : Bool) (M : Mem) (hs0 : Slc (rd M) 1 (FlatR enc3) s0 a0) (h : record_areFrom F a0 a1 = some r) : CallsM Tryz.prog 92 [s0, (.int .i64 a1)] M (fun s M' => s = (.bool r) ∧ M' = M) := by
  refine CallsM.plain Tryz.func92 rfl rfl rfl (show Run _ _ _ (record_areFrom_post r) _ _ _ from ?_)
  rw [record_areFrom] at h
  replace hs0 := hs0.mono (rdLe_frozen M) (fun _ _ h => h)
  have hH := Has.nil (frozen M)
  refine Run.seq (Run.region ?_)
  refine Run.opG wantS_none (ex_assign rfl) rfl ?_
  refine Run.opsEnd (Run.seq (Run.seq (Run.region ?_)))
  refine Run.opG wantS_none (ex_move rfl) rfl ?_
  refine Run.opG wantS_none (ex_len' rfl hs0 lenk26) rfl ?_
  refine Run.opG wantS_none (ex_move rfl) rfl ?_
  refine Run.opsEnd (Run.block (Run.loop ?_))
  exact Run.pick [1, 7, 8, 9] (record_areFrom_1_ok F F a1 a0 (a0.length : Int) (0 : Int) s0 _ _ _ hs0 hH h)

theorem mkk92 : makeK Tryz.prog 92 = none := by kernel_rfl
theorem cal92 : callable Tryz.prog 92 = true := by kernel_rfl
abbrev record_CheckSeries_post (r : Int) : SV → Mem → Prop := fun s _ => s = (.int .i64 r)

def record_CheckSeries_1 (F : Nat) (v10 : Bool) : Option (Int) :=
  bif v10 then
    some (55 : Int)
  else
    some (0 : Int)

theorem record_CheckSeries_1_ok (F : Nat) : ∀ (v10 : Bool) (Fr : Rd) (M : Mem) (r : Int) (hH : Has Fr M []), record_CheckSeries_1 F v10 = some r → Run Tryz.prog ⟨⟨65, [], none⟩, []⟩ 11 (record_CheckSeries_post r) [(10, (.bool v10))] [codeC Tryz.prog 65 [1, 0, 1], codeC Tryz.prog 65 [1, 1]] M := by
  intro v10 Fr M r hH h
  rw [record_CheckSeries_1] at h
  rcases btf (v10) with hc22 | hc22
  · have h := bif_t hc22 h
    refine Run.condT' rfl hc22 ?_
    refine Run.seq (Run.region ?_)
    refine Run.opG wantS_none (ex_assign rfl) rfl ?_
    refine Run.opsEnd ?_
    cases h
    exact Run.ret Tryz.func65 rfl (res_tmp rfl res_nil) rfl
  · have h := bif_f hc22 h
    refine Run.condF' rfl hc22 ?_
    refine Run.skip (Run.seq (Run.region ?_))
    refine Run.opG wantS_none (ex_assign rfl) rfl ?_
    refine Run.opsEnd ?_
    cases h
    exact Run.ret Tryz.func65 rfl (res_tmp rfl res_nil) rfl

def record_CheckSeries (F : Nat) (a0 : (List Int)) : Option (Int) :=
  bif (decide ((4096 : Int) < (a0.length : Int))) then
    record_CheckSeries_1 F true
  else
    bnd (record_areFrom F a0 (8388608 : Int)) fun r24 =>
    record_CheckSeries_1 F (!r24)

theorem record_CheckSeries_ok (F : Nat) (a0 : (List Int)) (s0 : SV) (r : Int) (M : Mem) (hs0 : Slc (rd M) 1 (FlatR enc3) s0 a0) (h : record_CheckSeries F a0 = some r) : CallsM Tryz.prog 65 [s0] M (fun s M' => s = (.int .i64 r) ∧ M' = M) := by
  refine CallsM.plain Tryz.func65 rfl rfl rfl (show Run _ _ _ (record_CheckSeries_post r) _ _ _ from ?_)
  rw [record_CheckSeries] at h
  replace hs0 := hs0.mono (rdLe_frozen M) (fun _ _ h => h)
  have hH := Has.nil (frozen M)
  refine Run.seq (Run.region ?_)
  refine Run.opG wantS_none (ex_assign rfl) rfl ?_
  refine Run.opsEnd (Run.seq (Run.seq (Run.region ?_)))
  refine Run.opG wantS_none (ex_move rfl) rfl ?_
  refine Run.opG wantS_none (ex_len' rfl hs0 lenk26) rfl ?_
  refine Run.opG wantS_none (ex_gtr rfl rfl) rfl ?_
  refine Run.opG wantS_none (ex_move rfl) rfl ?_
  rcases btf ((decide ((4096 : Int) < (a0.length : Int)))) with hc21 | hc21
  · have h := bif_t hc21 h
    refine Run.no (wantS_not' rfl rfl hc21) rfl ?_
    refine Run.no (wantS_not' rfl rfl hc21) rfl ?_
    refine Run.no (wantS_not' rfl rfl hc21) rfl ?_
    refine Run.opG wantS_none (ex_pickT' rfl hc21 rfl rfl) rfl ?_
    refine Run.opsEnd ?_
    exact Run.pick [10] (record_CheckSeries_1_ok F true _ _ _ hH h)
  · have h := bif_f hc21 h
    refine Run.opG (wantS_yes' rfl rfl hc21) (ex_move rfl) rfl ?_
    obtain ⟨r24, hr24, h⟩ := bnd_some h
    refine Run.callP (wantS_yes' rfl rfl hc21) (ex_call rfl mkk92 cal92) rfl (record_areFrom_ok F a0 (8388608 : Int) s0 _ _ (hH.slcF hs0) hr24) ?_
    refine Run.opG (wantS_yes' rfl rfl hc21) (ex_not rfl) rfl ?_
    refine Run.opG wantS_none (ex_pickF' rfl hc21 rfl rfl) rfl ?_
    refine Run.opsEnd ?_
    exact Run.pick [10] (record_CheckSeries_1_ok F (!r24) _ _ _ hH h)

theorem mkk65 : makeK Tryz.prog 65 = none := by kernel_rfl
theorem cal65 : callable Tryz.prog 65 = true := by kernel_rfl
theorem elt91 : sliceElt Tryz.prog 91 = some (⟨2, 16, [(.int .i64 0), (.int .i64 0)], 97⟩ : Elt) := by kernel_rfl
theorem slk26 : slK Tryz.prog 26 = some (.sl 1) := by kernel_rfl
theorem zer97 : zerosOf Tryz.prog 97 = some [(.int .i64 0), (.int .i64 0)] := by kernel_rfl
theorem slk88 : slK Tryz.prog 88 = some (.sl 2) := by kernel_rfl
theorem plan66_1_1_0_1_0_0_1_1_0_0_1_1_0 : planOf Tryz.prog (opsC (atC Tryz.prog 66 [1, 1, 0, 1, 0, 0, 1, 1, 0, 0, 1, 1, 0])) = some [.fl 0, .fl 1, .fl 2, .fl 3, .fl 4, .fl 5, .fl 6, .fl 7, .fl 8, .fl 9, .sync] := by kernel_rfl
theorem pls97 : placesOf Tryz.prog 97 = some (.st [(0, 1), (1, 1)]) := by kernel_rfl
theorem sz97 : szOf Tryz.prog 97 = some 2 := by kernel_rfl
theorem agg97 : aggSize Tryz.prog 97 = some (some 2) := by kernel_rfl
theorem plan66_1_1_1_0 : planOf Tryz.prog (opsC (atC Tryz.prog 66 [1, 1, 1, 0])) = some [.fl 0, .fl 1, .fl 2, .fl 3, .fl 4, .fl 5, .fl 6, .fl 7, .fl 8, .fl 9, .fl 10, .an 11 [], .sync] := by kernel_rfl
abbrev record_bandOf_post (r : S_api_Tap) : SV → Mem → Prop := fun s _ => s = (.agg [(.int .i64 r.Low), (.int .i64 r.High)])

def record_bandOf_1 (F : Nat) : Nat → (List Int) → Int → Int → (List S_api_Tap) → Int → Int → (List S_api_Tap) → Int → S_api_Tap → Option (S_api_Tap)
  | 0, _, _, _, _, _, _, _, _, _ => none
  | N + 1, v1, v5, v6, v20, v21, v22, c22_0, c22_1, c25 =>
    bif (decide (v22 < v21)) then
      bnd (idx v20 v22) fun x31 =>
      bnd (idx v1 (w64 ((w64 ((v1.length : Int) - (1 : Int))) - v22))) fun x37 =>
      (record_bandOf_1 F N) v1 (w64 (v5 + (min (w64 (x31.Low * x37)) (w64 (x31.High * x37))))) (w64 (v6 + (max (w64 (x31.Low * x37)) (w64 (x31.High * x37))))) v20 v21 (w64 (v22 + (1 : Int))) c22_0 c22_1 c25
    else
      bnd (shn c22_1) fun j38 =>
      bnd (shn c22_1) fun j39 =>
      some (S_api_Tap.mk (Int.fdiv v5 (2 ^ (min j38 (IntKind.bits .i64)))) (w64 (-(Int.fdiv (w64 (-v6)) (2 ^ (min j39 (IntKind.bits .i64)))))))

theorem record_bandOf_1_ok (F : Nat) : ∀ (N : Nat), ∀ (v1 : (List Int)) (v5 : Int) (v6 : Int) (v20 : (List S_api_Tap)) (v21 : Int) (v22 : Int) (c22_0 : (List S_api_Tap)) (c22_1 : Int) (c25 : S_api_Tap) (sv1 : SV) (sv20 : SV) (sc22_0 : SV) (b22 : Pos) (b25 : Pos) (Fr : Rd) (M : Mem) (r : S_api_Tap) (hv1 : Slc Fr 1 (FlatR enc3) sv1 v1) (hv20 : Slc Fr 2 (FlatR enc96) sv20 v20) (hc22_0 : Slc Fr 2 (FlatR enc96) sc22_0 c22_0) (hH : Has Fr M [.obj b22 (.row 90 .whole [sc22_0, (.int .i64 c22_1)]), .obj b25 (.row 97 .whole [(.int .i64 c25.Low), (.int .i64 c25.High)])]), record_bandOf_1 F N v1 v5 v6 v20 v21 v22 c22_0 c22_1 c25 = some r → Run Tryz.prog ⟨⟨66, [], none⟩, []⟩ 65 (record_bandOf_post r) [(1, sv1), (2, (.ptr b22 0)), (4, (.ptr b25 0)), (5, (.int .i64 v5)), (6, (.int .i64 v6)), (20, sv20), (21, (.int .i64 v21)), (22, (.int .i64 v22))] [codeC Tryz.prog 66 [1, 1, 0, 1, 0, 0], loopC Tryz.prog 66 [1, 1, 0, 1, 0, 0], .inBlock 0, codeC Tryz.prog 66 [1, 1, 1]] M := by
  intro N
  induction N with
  | zero =>
    intro v1 v5 v6 v20 v21 v22 c22_0 c22_1 c25 sv1 sv20 sc22_0 b22 b25 Fr M r hv1 hv20 hc22_0 hH h
    simp [record_bandOf_1] at h
  | succ N ih =>
    intro v1 v5 v6 v20 v21 v22 c22_0 c22_1 c25 sv1 sv20 sc22_0 b22 b25 Fr M r hv1 hv20 hc22_0 hH h
    rw [record_bandOf_1] at h
    refine Run.seq (Run.region ?_)
    refine Run.opG wantS_none (ex_lss rfl rfl) rfl ?_
    refine Run.opsEnd (Run.seq ?_)
    rcases btf ((decide (v22 < v21))) with hc29 | hc29
    · have h := bif_t hc29 h
      refine Run.condT' rfl hc29 ?_
      refine Run.skip (Run.seq (Run.block (Run.seq (Run.region ?_))))
      refine Run.opG wantS_none (ex_move rfl) rfl ?_
      obtain ⟨x31, hx31, h⟩ := bnd_some h
      obtain ⟨p31, o31, _, hx31, hp31, rfl⟩ := sl_elem (P := Tryz.prog) (t := 88) (kk := .i64) hv20 hx31 els88
      refine Run.opG wantS_none (ex_elX rfl rfl hx31) rfl ?_
      refine Run.opG wantS_none (ex_loadA rfl (hH.ptrF hp31) rdLe_rfl agg96 rfl rfl rfl) rfl ?_
      refine Run.opX wantS_none rfl (ExG.new (v := fun b => .ptr b 0) (ex_alloc zer96) hH) ?_
      rintro _ M34 ⟨b33, rfl, (hH34 : Has Fr M34 [.obj b33 (.row 96 .whole [(.int .i64 0), (.int .i64 0)]), .obj b22 (.row 90 .whole [sc22_0, (.int .i64 c22_1)]), .obj b25 (.row 97 .whole [(.int .i64 c25.Low), (.int .i64 c25.High)])])⟩
      refine Run.opG wantS_none (ex_assign rfl) rfl ?_
      refine Run.opX wantS_none rfl (ExG.storeC (c' := [(.int .i64 x31.Low), (.int .i64 x31.High)]) rfl rfl rfl hH34 (i := 0) rfl sz96 rfl rfl rfl rfl rfl) ?_
      rintro _ M35 ⟨rfl, (hH35 : Has Fr M35 [.obj b33 (.row 96 .whole [(.int .i64 x31.Low), (.int .i64 x31.High)]), .obj b22 (.row 90 .whole [sc22_0, (.int .i64 c22_1)]), .obj b25 (.row 97 .whole [(.int .i64 c25.Low), (.int .i64 c25.High)])])⟩
      refine Run.opsEnd (Run.seq (Run.region ?_))
      refine Run.opG wantS_none (ex_move rfl) rfl ?_
      refine Run.opG wantS_none (ex_move rfl) rfl ?_
      refine Run.opG wantS_none (ex_len' rfl hv1 lenk26) rfl ?_
      refine Run.opG wantS_none (ex_sub rfl rfl) rfl ?_
      refine Run.opG wantS_none (ex_move rfl) rfl ?_
      refine Run.opG wantS_none (ex_sub rfl rfl) rfl ?_
      obtain ⟨x37, hx37, h⟩ := bnd_some h
      obtain ⟨p37, o37, _, hx37, hp37, rfl⟩ := sl_elem (P := Tryz.prog) (t := 26) (kk := .i64) hv1 hx37 els26
      refine Run.opG wantS_none (ex_elX rfl rfl hx37) rfl ?_
      refine Run.opG wantS_none (ex_load1 rfl (hH35.ptrF hp37) rdLe_rfl agg3) rfl ?_
      refine Run.opG wantS_none (ex_assign rfl) rfl ?_
      refine Run.opsEnd (Run.seq ?_)
      refine Run.drawG plan66_1_1_0_1_0_0_1_1_0_0_1_1_0 ?_
      refine DrawG.fl rfl (ev_ex wantS_none (ex_fieldAddr rfl off96_0)) rfl ?_
      refine DrawG.fl rfl (ev_ex wantS_none (ex_load1 rfl (hH35.cells (i := 0) rfl 0 rfl) rdLe_rfl agg3)) rfl ?_
      refine DrawG.fl rfl (ev_ex wantS_none (ex_move rfl)) rfl ?_
      refine DrawG.fl rfl (ev_ex wantS_none (ex_mul rfl rfl)) rfl ?_
      refine DrawG.fl rfl (ev_ex wantS_none (ex_fieldAddr rfl off96_1)) rfl ?_
      refine DrawG.fl rfl (ev_ex wantS_none (ex_load1 rfl (hH35.cells (i := 0) rfl 1 rfl) rdLe_rfl agg3)) rfl ?_
      refine DrawG.fl rfl (ev_ex wantS_none (ex_move rfl)) rfl ?_
      refine DrawG.fl rfl (ev_ex wantS_none (ex_mul rfl rfl)) rfl ?_
      refine DrawG.fl rfl (ev_ex wantS_none (ex_assign rfl)) rfl ?_
      refine DrawG.fl rfl (ev_ex wantS_none (ex_assign rfl)) rfl ?_
      refine DrawG.sync ?_
      refine DrawG.nil ?_
      refine Run.seq (Run.region ?_)
      refine Run.opG wantS_none (ex_move rfl) rfl ?_
      refine Run.opG wantS_none (ex_move rfl) rfl ?_
      refine Run.opG wantS_none (ex_move rfl) rfl ?_
      refine Run.opG wantS_none (ex_min rfl rfl) rfl ?_
      refine Run.opG wantS_none (ex_add rfl rfl) rfl ?_
      refine Run.opG wantS_none (ex_assign rfl) rfl ?_
      refine Run.opsEnd (Run.region ?_)
      refine Run.opG wantS_none (ex_move rfl) rfl ?_
      refine Run.opG wantS_none (ex_move rfl) rfl ?_
      refine Run.opG wantS_none (ex_move rfl) rfl ?_
      refine Run.opG wantS_none (ex_max rfl rfl) rfl ?_
      refine Run.opG wantS_none (ex_add rfl rfl) rfl ?_
      refine Run.opG wantS_none (ex_assign rfl) rfl ?_
      refine Run.opsEnd (Run.inBlock (Run.region ?_))
      refine Run.opG wantS_none (ex_add rfl rfl) rfl ?_
      refine Run.opG wantS_none (ex_move rfl) rfl ?_
      refine Run.opsEnd (Run.inLoop ?_)
      exact Run.pick [1, 2, 4, 5, 6, 20, 21, 22] (ih v1 (w64 (v5 + (min (w64 (x31.Low * x37)) (w64 (x31.High * x37))))) (w64 (v6 + (max (w64 (x31.Low * x37)) (w64 (x31.High * x37))))) v20 v21 (w64 (v22 + (1 : Int))) c22_0 c22_1 c25 sv1 sv20 sc22_0 b22 b25 _ _ _ hv1 hv20 hc22_0 (hH35.pick [1, 2] rfl rfl) h)
    · have h := bif_f hc29 h
      refine Run.condF' rfl hc29 ?_
      refine Run.exit rfl (Run.seq ?_)
      refine Run.drawG plan66_1_1_1_0 ?_
      refine DrawG.fl rfl (ev_ex wantS_none (ex_move rfl)) rfl ?_
      refine DrawG.fl rfl (ev_ex wantS_none (ex_fieldAddr rfl off90_1)) rfl ?_
      refine DrawG.fl rfl (ev_ex wantS_none (ex_load1 rfl (hH.cells (i := 0) rfl 1 rfl) rdLe_rfl agg3)) rfl ?_
      obtain ⟨j38, hj38, h⟩ := bnd_some h
      refine DrawG.fl rfl (ev_ex wantS_none (ex_shr' rfl rfl hj38)) rfl ?_
      refine DrawG.fl rfl (ev_ex wantS_none (ex_move rfl)) rfl ?_
      refine DrawG.fl rfl (ev_ex wantS_none (ex_neg rfl)) rfl ?_
      refine DrawG.fl rfl (ev_ex wantS_none (ex_fieldAddr rfl off90_1)) rfl ?_
      refine DrawG.fl rfl (ev_ex wantS_none (ex_load1 rfl (hH.cells (i := 0) rfl 1 rfl) rdLe_rfl agg3)) rfl ?_
      obtain ⟨j39, hj39, h⟩ := bnd_some h
      refine DrawG.fl rfl (ev_ex wantS_none (ex_shr' rfl rfl hj39)) rfl ?_
      refine DrawG.fl rfl (ev_ex wantS_none (ex_neg rfl)) rfl ?_
      refine DrawG.fl rfl (ev_ex wantS_none (ex_build (r := [(.int .i64 (Int.fdiv v5 (2 ^ (min j38 (IntKind.bits .i64))))), (.int .i64 (w64 (-(Int.fdiv (w64 (-v6)) (2 ^ (min j39 (IntKind.bits .i64)))))))]) rfl zer97 pls97 rfl)) rfl ?_
      refine DrawG.opX rfl wantS_none rfl (ExG.storeC (c' := [(.int .i64 (Int.fdiv v5 (2 ^ (min j38 (IntKind.bits .i64))))), (.int .i64 (w64 (-(Int.fdiv (w64 (-v6)) (2 ^ (min j39 (IntKind.bits .i64)))))))]) rfl rfl rfl hH (i := 1) rfl sz97 rfl rfl rfl rfl rfl) ?_
      rintro _ M40 ⟨rfl, (hH40 : Has Fr M40 [.obj b22 (.row 90 .whole [sc22_0, (.int .i64 c22_1)]), .obj b25 (.row 97 .whole [(.int .i64 (Int.fdiv v5 (2 ^ (min j38 (IntKind.bits .i64))))), (.int .i64 (w64 (-(Int.fdiv (w64 (-v6)) (2 ^ (min j39 (IntKind.bits .i64)))))))])])⟩
      refine ⟨st_nil, ?_⟩
      refine DrawG.sync ?_
      refine DrawG.nil ?_
      cases h
      exact Run.ret Tryz.func66 rfl (res_cell rfl (x_load (ex_loadA rfl (hH40.cells (i := 1) rfl 0 rfl) rdLe_rfl agg97 rfl rfl rfl)) res_nil) rfl

def record_bandOf (F : Nat) (a0 : S_api_Model) (a1 : (List Int)) : Option (S_api_Tap) :=
  bnd (sub a0.Taps 0 (min (a0.Taps.length : Int) (a1.length : Int))) fun l28 =>
  record_bandOf_1 F F a1 (0 : Int) (0 : Int) l28 (l28.length : Int) (0 : Int) a0.Taps a0.Shift (S_api_Tap.mk 0 0)

theorem record_bandOf_ok (F : Nat) (a0 : S_api_Model) (a1 : (List Int)) (s0 s1 : SV) (r : S_api_Tap) (M : Mem) (hs0 : Slc (rd M) 2 (FlatR enc96) s0 a0.Taps) (hs1 : Slc (rd M) 1 (FlatR enc3) s1 a1) (h : record_bandOf F a0 a1 = some r) : CallsM Tryz.prog 66 [(.agg [s0, (.int .i64 a0.Shift)]), s1] M (fun s M' => s = (.agg [(.int .i64 r.Low), (.int .i64 r.High)]) ∧ M' = M) := by
  refine CallsM.plain Tryz.func66 rfl rfl rfl (show Run _ _ _ (record_bandOf_post r) _ _ _ from ?_)
  rw [record_bandOf] at h
  replace hs0 := hs0.mono (rdLe_frozen M) (fun _ _ h => h)
  replace hs1 := hs1.mono (rdLe_frozen M) (fun _ _ h => h)
  have hH := Has.nil (frozen M)
  refine Run.seq (Run.region ?_)
  refine Run.opX wantS_none rfl (ExG.box rfl rfl hH) ?_
  rintro _ M23 ⟨b22, rfl, (hH23 : Has (ro (frozen M)) M23 [.obj b22 (.row 90 .whole [s0, (.int .i64 a0.Shift)])])⟩
  refine Run.opX wantS_none rfl (ExG.new (v := fun b => .ptr b 0) (ex_alloc zer97) hH23) ?_
  rintro _ M26 ⟨b25, rfl, (hH26 : Has (ro (frozen M)) M26 [.obj b25 (.row 97 .whole [(.int .i64 0), (.int .i64 0)]), .obj b22 (.row 90 .whole [s0, (.int .i64 a0.Shift)])])⟩
  refine Run.opsEnd (Run.seq (Run.region ?_))
  refine Run.opG wantS_none (ex_assign rfl) rfl ?_
  refine Run.opG wantS_none (ex_assign rfl) rfl ?_
  refine Run.opsEnd (Run.seq (Run.seq (Run.region ?_)))
  refine Run.opG wantS_none (ex_fieldAddr rfl off90_0) rfl ?_
  refine Run.opG wantS_none (ex_load1 rfl (hH26.cells (i := 1) rfl 0 rfl) rdLe_rfl agg88) rfl ?_
  refine Run.opG wantS_none (ex_fieldAddr rfl off90_0) rfl ?_
  refine Run.opG wantS_none (ex_load1 rfl (hH26.cells (i := 1) rfl 0 rfl) rdLe_rfl agg88) rfl ?_
  refine Run.opG wantS_none (ex_len' rfl hs0 lenk88) rfl ?_
  refine Run.opG wantS_none (ex_move rfl) rfl ?_
  refine Run.opG wantS_none (ex_len' rfl hs1 lenk26) rfl ?_
  refine Run.opG wantS_none (ex_min rfl rfl) rfl ?_
  obtain ⟨l28, hl28, h⟩ := bnd_some h
  obtain ⟨s28, hx28, hs28⟩ := sl_subH (P := Tryz.prog) (t := 88) (k0 := .i64) hs0 hl28 slk88
  refine Run.opG wantS_none (ex_slX rfl (argO_none) (argO_some rfl) hx28) rfl ?_
  refine Run.opG wantS_none (ex_len' rfl hs28 lenk88) rfl ?_
  refine Run.opG wantS_none (ex_move rfl) rfl ?_
  refine Run.opsEnd (Run.block (Run.loop ?_))
  exact Run.pick [1, 2, 4, 5, 6, 20, 21, 22] (record_bandOf_1_ok F F a1 (0 : Int) (0 : Int) l28 (l28.length : Int) (0 : Int) a0.Taps a0.Shift (S_api_Tap.mk 0 0) s1 s28 s0 b22 b25 _ _ _ hs1 hs28 hs0 (hH26.pick [1, 0] rfl rfl) h)

theorem mkk66 : makeK Tryz.prog 66 = none := by kernel_rfl
theorem cal66 : callable Tryz.prog 66 = true := by kernel_rfl
theorem els91 : elems Tryz.prog 91 = some (.sl 2) := by kernel_rfl
theorem plan30_1_1_1_1_0_1_0_0_1_1_0_0_1 : planOf Tryz.prog (opsC (atC Tryz.prog 30 [1, 1, 1, 1, 0, 1, 0, 0, 1, 1, 0, 0, 1])) = some [.fl 0, .fl 1, .fl 2, .fl 3, .fl 4, .fl 5, .fl 6, .an 7 [1, 0], .fl 8, .an 9 [], .sync] := by kernel_rfl
abbrev record_Strain_post (r : (List S_api_Tap) × Int) : SV → Mem → Prop := fun s Me => ∃ q1, s = (.tuple [q1, (.int .i64 r.2)]) ∧ Has (fun _ => none) Me [.vec 97 2 r.1.length q1 (r.1.flatMap enc97)]

def record_Strain_1 (F : Nat) : Nat → (List Int) → Int → Int → (List S_api_Tap) → Int → (List S_api_Tap) → Option ((List S_api_Tap) × Int)
  | 0, _, _, _, _, _, _ => none
  | N + 1, v1, v24, v25, c22_0, c22_1, l37 =>
    bif (decide (v25 < v24)) then
      bnd (sub v1 0 (w64 (v25 + (1 : Int)))) fun l40 =>
      bnd (record_bandOf F (S_api_Model.mk c22_0 c22_1) l40) fun r41 =>
      bnd (inn l37 v25) fun o43 =>
      bnd (upd l37 o43 r41) fun l44 =>
      (record_Strain_1 F N) v1 v24 (w64 (v25 + (1 : Int))) c22_0 c22_1 l44
    else
      some (l37, (0 : Int))

theorem record_Strain_1_ok (F : Nat) : ∀ (N : Nat), ∀ (v1 : (List Int)) (v24 : Int) (v25 : Int) (c22_0 : (List S_api_Tap)) (c22_1 : Int) (l37 : (List S_api_Tap)) (sv1 : SV) (sc22_0 : SV) (b22 : Pos) (s37 : SV) (Fr : Rd) (M : Mem) (r : (List S_api_Tap) × Int) (hv1 : Slc Fr 1 (FlatR enc3) sv1 v1) (hc22_0 : Slc Fr 2 (FlatR enc96) sc22_0 c22_0) (hH : Has Fr M [.obj b22 (.row 90 .whole [sc22_0, (.int .i64 c22_1)]), .vec 97 2 l37.length s37 (l37.flatMap enc97)]), record_Strain_1 F N v1 v24 v25 c22_0 c22_1 l37 = some r → Run Tryz.prog ⟨⟨30, [], none⟩, []⟩ 39 (record_Strain_post r) [(1, sv1), (2, (.ptr b22 0)), (8, s37), (24, (.int .i64 v24)), (25, (.int .i64 v25))] [codeC Tryz.prog 30 [1, 1, 1, 1, 0, 1, 0, 0], loopC Tryz.prog 30 [1, 1, 1, 1, 0, 1, 0, 0], .inBlock 0, codeC Tryz.prog 30 [1, 1, 1, 1, 1]] M := by
  intro N
  induction N with
  | zero =>
    intro v1 v24 v25 c22_0 c22_1 l37 sv1 sc22_0 b22 s37 Fr M r hv1 hc22_0 hH h
    simp [record_Strain_1] at h
  | succ N ih =>
    intro v1 v24 v25 c22_0 c22_1 l37 sv1 sc22_0 b22 s37 Fr M r hv1 hc22_0 hH h
    rw [record_Strain_1] at h
    refine Run.seq (Run.region ?_)
    refine Run.opG wantS_none (ex_lss rfl rfl) rfl ?_
    refine Run.opsEnd (Run.seq ?_)
    rcases btf ((decide (v25 < v24))) with hc39 | hc39
    · have h := bif_t hc39 h
      refine Run.condT' rfl hc39 ?_
      refine Run.skip (Run.seq (Run.block (Run.seq (Run.region ?_))))
      refine Run.opG wantS_none (ex_move rfl) rfl ?_
      refine Run.opG wantS_none (ex_assign rfl) rfl ?_
      refine Run.opsEnd ?_
      refine Run.drawG plan30_1_1_1_1_0_1_0_0_1_1_0_0_1 ?_
      refine DrawG.fl rfl (ev_ex wantS_none (ex_move rfl)) rfl ?_
      refine DrawG.fl rfl (ev_ex wantS_none (ex_move rfl)) rfl ?_
      refine DrawG.fl rfl (ev_ex wantS_none (ex_loadA rfl (hH.cells (i := 0) rfl 0 rfl) rdLe_rfl agg90 rfl rfl rfl)) rfl ?_
      refine DrawG.fl rfl (ev_ex wantS_none (ex_move rfl)) rfl ?_
      refine DrawG.fl rfl (ev_ex wantS_none (ex_move rfl)) rfl ?_
      refine DrawG.fl rfl (ev_ex wantS_none (ex_add rfl rfl)) rfl ?_
      obtain ⟨l40, hl40, h⟩ := bnd_some h
      obtain ⟨s40, hx40, hs40⟩ := sl_subH (P := Tryz.prog) (t := 26) (k0 := .i64) hv1 hl40 slk26
      refine DrawG.fl rfl (ev_ex wantS_none (ex_slX rfl (argO_none) (argO_some rfl) hx40)) rfl ?_
      obtain ⟨r41, hr41, h⟩ := bnd_some h
      refine DrawG.callP rfl wantS_none (ex_call rfl mkk66 cal66) rfl (record_bandOf_ok F (S_api_Model.mk c22_0 c22_1) l40 sc22_0 s40 _ _ (hH.slcF hc22_0) (hH.slcF hs40) hr41) (st_cons rfl (ev_ex wantS_none (ex_move rfl)) rfl rfl rfl (st_cons rfl (ev_ex wantS_none (ex_move rfl)) rfl rfl (blk_self hH (i := 1) rfl) st_nil)) ?_
      obtain ⟨o43, ho43, h⟩ := bnd_some h
      obtain ⟨p43, hb43, hx43⟩ := vec_place (P := Tryz.prog) (t := 91) (kk := .i64) hH (i := 1) rfl ho43 els91
      refine DrawG.fl rfl (ev_ex wantS_none (ex_elX rfl rfl hx43)) rfl ?_
      obtain ⟨l44, hl44, h⟩ := bnd_some h
      refine DrawG.opX rfl wantS_none rfl (ExG.storeEl rfl rfl hH (i := 1) rfl hb43 hl44 sz97 rfl enc97_len enc97_ones) ?_
      rintro _ M45 ⟨rfl, (hH45 : Has Fr M45 [.obj b22 (.row 90 .whole [sc22_0, (.int .i64 c22_1)]), .vec 97 2 l44.length s37 (l44.flatMap enc97)])⟩
      refine ⟨st_nil, ?_⟩
      refine DrawG.sync ?_
      refine DrawG.nil ?_
      refine Run.inBlock (Run.region ?_)
      refine Run.opG wantS_none (ex_add rfl rfl) rfl ?_
      refine Run.opG wantS_none (ex_move rfl) rfl ?_
      refine Run.opsEnd (Run.inLoop ?_)
      exact Run.pick [1, 2, 8, 24, 25] (ih v1 v24 (w64 (v25 + (1 : Int))) c22_0 c22_1 l44 sv1 sc22_0 b22 s37 _ _ _ hv1 hc22_0 hH45 h)
    · have h := bif_f hc39 h
      refine Run.condF' rfl hc39 ?_
      refine Run.exit rfl (Run.seq (Run.region ?_))
      refine Run.opG wantS_none (ex_move rfl) rfl ?_
      refine Run.opG wantS_none (ex_assign rfl) rfl ?_
      refine Run.opG wantS_none (ex_assign rfl) rfl ?_
      refine Run.opsEnd ?_
      cases h
      exact Run.ret Tryz.func30 rfl (res_tmp rfl (res_tmp rfl res_nil)) ⟨_, rfl, (hH.pick [1] rfl rfl).upF (none_le _)⟩

def record_Strain (F : Nat) (a0 : S_api_Model) (a1 : (List Int)) : Option ((List S_api_Tap) × Int) :=
  bnd (record_CheckModel F a0) fun r25 =>
  bif (!(r25 == (0 : Int))) then
    some (([] : List S_api_Tap), r25)
  else
    bnd (record_CheckSeries F a1) fun r31 =>
    bif (!(r31 == (0 : Int))) then
      some (([] : List S_api_Tap), r31)
    else
      bnd (mk (a1.length : Int) 16 (S_api_Tap.mk (0 : Int) (0 : Int))) fun l37 =>
      record_Strain_1 F F a1 (a1.length : Int) (0 : Int) a0.Taps a0.Shift l37

theorem record_Strain_ok (F : Nat) (a0 : S_api_Model) (a1 : (List Int)) (s0 s1 : SV) (r : (List S_api_Tap) × Int) (M : Mem) (hs0 : Slc (rd M) 2 (FlatR enc96) s0 a0.Taps) (hs1 : Slc (rd M) 1 (FlatR enc3) s1 a1) (h : record_Strain F a0 a1 = some r) : CallsM Tryz.prog 30 [(.agg [s0, (.int .i64 a0.Shift)]), s1] M (fun s M' => ∃ q1, s = (.tuple [q1, (.int .i64 r.2)]) ∧ New M M' [.vec 97 2 r.1.length q1 (r.1.flatMap enc97)]) := by
  refine CallsM.fresh (Q := record_Strain_post r) Tryz.func30 rfl rfl ?_ (by rintro s Me ⟨q1, rfl, hx⟩ ha hw; exact ⟨_, rfl, New.of rfl hx ha hw⟩)
  rw [record_Strain] at h
  replace hs0 := hs0.mono (rdLe_frozen M) (fun _ _ h => h)
  replace hs1 := hs1.mono (rdLe_frozen M) (fun _ _ h => h)
  have hH := Has.nil (frozen M)
  refine Run.seq (Run.region ?_)
  refine Run.opX wantS_none rfl (ExG.box rfl rfl hH) ?_
  rintro _ M23 ⟨b22, rfl, (hH23 : Has (ro (frozen M)) M23 [.obj b22 (.row 90 .whole [s0, (.int .i64 a0.Shift)])])⟩
  refine Run.opG wantS_none (ex_assign rfl) rfl ?_
  refine Run.opG wantS_none (ex_assign rfl) rfl ?_
  refine Run.opsEnd (Run.seq (Run.seq (Run.region ?_)))
  refine Run.opG wantS_none (ex_loadA rfl (hH23.cells (i := 0) rfl 0 rfl) rdLe_rfl agg90 rfl rfl rfl) rfl ?_
  obtain ⟨r25, hr25, h⟩ := bnd_some h
  refine Run.callP wantS_none (ex_call rfl mkk64 cal64) rfl (record_CheckModel_ok F a0 s0 _ _ (hH23.slcF hs0) hr25) ?_
  refine Run.opG wantS_none (ex_assign rfl) rfl ?_
  refine Run.opsEnd (Run.seq (Run.region ?_))
  refine Run.opG wantS_none (ex_move rfl) rfl ?_
  refine Run.opG wantS_none (ex_neq rfl rfl) rfl ?_
  refine Run.opsEnd ?_
  rcases btf ((!(r25 == (0 : Int)))) with hc27 | hc27
  · have h := bif_t hc27 h
    refine Run.condT' rfl hc27 ?_
    refine Run.seq (Run.region ?_)
    refine Run.opG wantS_none (ex_move rfl) rfl ?_
    refine Run.opG wantS_none (ex_assign rfl) rfl ?_
    refine Run.opG wantS_none (ex_assign rfl) rfl ?_
    refine Run.opsEnd ?_
    have hH29 : Has (ro (frozen M)) M23 [.vec 97 2 ([] : List S_api_Tap).length .nils (([] : List S_api_Tap).flatMap enc97), .obj b22 (.row 90 .whole [s0, (.int .i64 a0.Shift)])] := hH23.nils 97 2
    cases h
    exact Run.ret Tryz.func30 rfl (res_tmp rfl (res_tmp rfl res_nil)) ⟨_, rfl, (hH29.pick [0] rfl rfl).upF (none_le _)⟩
  · have h := bif_f hc27 h
    refine Run.condF' rfl hc27 ?_
    refine Run.skip (Run.seq (Run.seq (Run.region ?_)))
    refine Run.opG wantS_none (ex_move rfl) rfl ?_
    obtain ⟨r31, hr31, h⟩ := bnd_some h
    refine Run.callP wantS_none (ex_call rfl mkk65 cal65) rfl (record_CheckSeries_ok F a1 s1 _ _ (hH23.slcF hs1) hr31) ?_
    refine Run.opG wantS_none (ex_assign rfl) rfl ?_
    refine Run.opsEnd (Run.seq (Run.region ?_))
    refine Run.opG wantS_none (ex_move rfl) rfl ?_
    refine Run.opG wantS_none (ex_neq rfl rfl) rfl ?_
    refine Run.opsEnd ?_
    rcases btf ((!(r31 == (0 : Int)))) with hc33 | hc33
    · have h := bif_t hc33 h
      refine Run.condT' rfl hc33 ?_
      refine Run.seq (Run.region ?_)
      refine Run.opG wantS_none (ex_move rfl) rfl ?_
      refine Run.opG wantS_none (ex_assign rfl) rfl ?_
      refine Run.opG wantS_none (ex_assign rfl) rfl ?_
      refine Run.opsEnd ?_
      have hH35 : Has (ro (frozen M)) M23 [.vec 97 2 ([] : List S_api_Tap).length .nils (([] : List S_api_Tap).flatMap enc97), .obj b22 (.row 90 .whole [s0, (.int .i64 a0.Shift)])] := hH23.nils 97 2
      cases h
      exact Run.ret Tryz.func30 rfl (res_tmp rfl (res_tmp rfl res_nil)) ⟨_, rfl, (hH35.pick [0] rfl rfl).upF (none_le _)⟩
    · have h := bif_f hc33 h
      refine Run.condF' rfl hc33 ?_
      refine Run.skip (Run.seq (Run.region ?_))
      refine Run.opG wantS_none (ex_move rfl) rfl ?_
      refine Run.opG wantS_none (ex_len' rfl hs1 lenk26) rfl ?_
      obtain ⟨l37, hl37, h⟩ := bnd_some h
      refine Run.opX wantS_none rfl (ExG.make (enc := enc97) (z := 2) rfl rfl hl37 elt91 rfl rfl enc97_len hH23) ?_
      rintro s37 M38 (hH38 : Has (ro (frozen M)) M38 [.vec 97 2 l37.length s37 (l37.flatMap enc97), .obj b22 (.row 90 .whole [s0, (.int .i64 a0.Shift)])])
      refine Run.opG wantS_none (ex_assign rfl) rfl ?_
      refine Run.opsEnd (Run.seq (Run.seq (Run.region ?_)))
      refine Run.opG wantS_none (ex_move rfl) rfl ?_
      refine Run.opG wantS_none (ex_len' rfl hs1 lenk26) rfl ?_
      refine Run.opG wantS_none (ex_move rfl) rfl ?_
      refine Run.opsEnd (Run.block (Run.loop ?_))
      exact Run.pick [1, 2, 8, 24, 25] (record_Strain_1_ok F F a1 (a1.length : Int) (0 : Int) a0.Taps a0.Shift l37 s1 s0 b22 s37 _ _ _ hs1 hs0 (hH38.pick [1, 0] rfl rfl) h)

theorem mkk30 : makeK Tryz.prog 30 = none := by kernel_rfl
theorem cal30 : callable Tryz.prog 30 = true := by kernel_rfl
theorem lenk91 : lenK Tryz.prog 91 = some .sl := by kernel_rfl
theorem mkk29 : makeK Tryz.prog 29 = none := by kernel_rfl
theorem cal29 : callable Tryz.prog 29 = true := by kernel_rfl
theorem latep9_1_1_1_1_0 : lateP Tryz.prog (opsC (atC Tryz.prog 9 [1, 1, 1, 1, 0])) 8 [3, 4, 5] = true := by kernel_rfl
theorem zer90 : zerosOf Tryz.prog 90 = some [.nils, (.int .i64 0)] := by kernel_rfl
theorem pls90 : placesOf Tryz.prog 90 = some (.st [(0, 1), (1, 1)]) := by kernel_rfl
theorem sz90 : szOf Tryz.prog 90 = some 2 := by kernel_rfl
abbrev ref00_Mod_post (r : Int) : SV → Mem → Prop := fun s _ => s = (.int .i64 r)

def ref00_Mod_1 (F : Nat) (v0 : Int) : Option (Int) :=
  some v0

theorem ref00_Mod_1_ok (F : Nat) : ∀ (v0 : Int) (Fr : Rd) (M : Mem) (r : Int) (hH : Has Fr M []), ref00_Mod_1 F v0 = some r → Run Tryz.prog ⟨⟨12, [], none⟩, []⟩ 16 (ref00_Mod_post r) [(0, (.int .i64 v0))] [itemC Tryz.prog 12 [1, 1, 1, 1, 0] 0, codeC Tryz.prog 12 [1, 1, 1, 1, 1]] M := by
  intro v0 Fr M r hH h
  rw [ref00_Mod_1] at h
  refine Run.opG wantS_none (ex_move rfl) rfl ?_
  refine Run.opG wantS_none (ex_assign rfl) rfl ?_
  refine Run.opsEnd ?_
  cases h
  exact Run.ret Tryz.func12 rfl (res_tmp rfl res_nil) rfl

def ref00_Mod (F : Nat) (a0 : Int) (a1 : Int) : Option (Int) :=
  bif (decide (a1 < (1 : Int))) then
    some (0 : Int)
  else
    bnd (nz a1) fun z23 =>
    bif (decide ((Int.tmod a0 a1) < (0 : Int))) then
      ref00_Mod_1 F (w64 ((Int.tmod a0 a1) + a1))
    else
      ref00_Mod_1 F (Int.tmod a0 a1)

theorem ref00_Mod_ok (F : Nat) (a0 : Int) (a1 : Int) (r : Int) (M : Mem) (h : ref00_Mod F a0 a1 = some r) : CallsM Tryz.prog 12 [(.int .i64 a0), (.int .i64 a1)] M (fun s M' => s = (.int .i64 r) ∧ M' = M) := by
  refine CallsM.plain Tryz.func12 rfl rfl rfl (show Run _ _ _ (ref00_Mod_post r) _ _ _ from ?_)
  rw [ref00_Mod] at h
  have hH := Has.nil (frozen M)
  refine Run.seq (Run.region ?_)
  refine Run.opG wantS_none (ex_assign rfl) rfl ?_
  refine Run.opsEnd (Run.seq (Run.seq (Run.region ?_)))
  refine Run.opG wantS_none (ex_move rfl) rfl ?_
  refine Run.opG wantS_none (ex_lss rfl rfl) rfl ?_
  refine Run.opsEnd ?_
  rcases btf ((decide (a1 < (1 : Int)))) with hc21 | hc21
  · have h := bif_t hc21 h
    refine Run.condT' rfl hc21 ?_
    refine Run.seq (Run.region ?_)
    refine Run.opG wantS_none (ex_assign rfl) rfl ?_
    refine Run.opsEnd ?_
    cases h
    exact Run.ret Tryz.func12 rfl (res_tmp rfl res_nil) rfl
  · have h := bif_f hc21 h
    refine Run.condF' rfl hc21 ?_
    refine Run.skip (Run.seq (Run.region ?_))
    refine Run.opG wantS_none (ex_move rfl) rfl ?_
    refine Run.opG wantS_none (ex_move rfl) rfl ?_
    obtain ⟨z23, hz23, h⟩ := bnd_some h
    refine Run.opG wantS_none (ex_rem' rfl rfl hz23) rfl ?_
    refine Run.opG wantS_none (ex_assign rfl) rfl ?_
    refine Run.opsEnd (Run.seq (Run.seq (Run.region ?_)))
    refine Run.opG wantS_none (ex_move rfl) rfl ?_
    refine Run.opG wantS_none (ex_lss rfl rfl) rfl ?_
    refine Run.opsEnd ?_
    rcases btf ((decide ((Int.tmod a0 a1) < (0 : Int)))) with hc24 | hc24
    · have h := bif_t hc24 h
      refine Run.condT' rfl hc24 ?_
      refine Run.region ?_
      refine Run.opG wantS_none (ex_move rfl) rfl ?_
      refine Run.opG wantS_none (ex_move rfl) rfl ?_
      refine Run.opG wantS_none (ex_add rfl rfl) rfl ?_
      refine Run.opG wantS_none (ex_assign rfl) rfl ?_
      refine Run.opsEnd (Run.seq (Run.region ?_))
      exact Run.pick [0] (ref00_Mod_1_ok F (w64 ((Int.tmod a0 a1) + a1)) _ _ _ hH h)
    · have h := bif_f hc24 h
      refine Run.condF' rfl hc24 ?_
      refine Run.skip (Run.seq (Run.region ?_))
      exact Run.pick [0] (ref00_Mod_1_ok F (Int.tmod a0 a1) _ _ _ hH h)

theorem mkk12 : makeK Tryz.prog 12 = none := by kernel_rfl
theorem cal12 : callable Tryz.prog 12 = true := by kernel_rfl
abbrev law05_pick_post (r : Int) : SV → Mem → Prop := fun s _ => s = (.int .i64 r)

def law05_pick (F : Nat) (a0 : (List Int)) (a1 : Int) (a2 : Int) (a3 : Int) : Option (Int) :=
  bif ((a0.length : Int) == (0 : Int)) then
    some a2
  else
    bnd (nz (a0.length : Int)) fun z23 =>
    bnd (idx a0 (Int.tmod a1 (a0.length : Int))) fun x25 =>
    bnd (ref00_Mod F x25 (w64 ((w64 (a3 - a2)) + (1 : Int)))) fun r27 =>
    some (w64 (a2 + r27))

theorem law05_pick_ok (F : Nat) (a0 : (List Int)) (a1 : Int) (a2 : Int) (a3 : Int) (s0 : SV) (r : Int) (M : Mem) (hs0 : Slc (rd M) 1 (FlatR enc3) s0 a0) (h : law05_pick F a0 a1 a2 a3 = some r) : CallsM Tryz.prog 31 [s0, (.int .i64 a1), (.int .i64 a2), (.int .i64 a3)] M (fun s M' => s = (.int .i64 r) ∧ M' = M) := by
  refine CallsM.plain Tryz.func31 rfl rfl rfl (show Run _ _ _ (law05_pick_post r) _ _ _ from ?_)
  rw [law05_pick] at h
  replace hs0 := hs0.mono (rdLe_frozen M) (fun _ _ h => h)
  have hH := Has.nil (frozen M)
  refine Run.seq (Run.region ?_)
  refine Run.opG wantS_none (ex_assign rfl) rfl ?_
  refine Run.opsEnd (Run.seq (Run.seq (Run.region ?_)))
  refine Run.opG wantS_none (ex_move rfl) rfl ?_
  refine Run.opG wantS_none (ex_len' rfl hs0 lenk26) rfl ?_
  refine Run.opG wantS_none (ex_eql rfl rfl) rfl ?_
  refine Run.opsEnd ?_
  rcases btf (((a0.length : Int) == (0 : Int))) with hc21 | hc21
  · have h := bif_t hc21 h
    refine Run.condT' rfl hc21 ?_
    refine Run.seq (Run.region ?_)
    refine Run.opG wantS_none (ex_move rfl) rfl ?_
    refine Run.opG wantS_none (ex_assign rfl) rfl ?_
    refine Run.opsEnd ?_
    cases h
    exact Run.ret Tryz.func31 rfl (res_tmp rfl res_nil) rfl
  · have h := bif_f hc21 h
    refine Run.condF' rfl hc21 ?_
    refine Run.skip (Run.seq (Run.region ?_))
    refine Run.opG wantS_none (ex_move rfl) rfl ?_
    refine Run.opG wantS_none (ex_move rfl) rfl ?_
    refine Run.opG wantS_none (ex_move rfl) rfl ?_
    refine Run.opG wantS_none (ex_move rfl) rfl ?_
    refine Run.opG wantS_none (ex_len' rfl hs0 lenk26) rfl ?_
    obtain ⟨z23, hz23, h⟩ := bnd_some h
    refine Run.opG wantS_none (ex_rem' rfl rfl hz23) rfl ?_
    obtain ⟨x25, hx25, h⟩ := bnd_some h
    obtain ⟨p25, o25, _, hx25, hp25, rfl⟩ := sl_elem (P := Tryz.prog) (t := 26) (kk := .i64) hs0 hx25 els26
    refine Run.opG wantS_none (ex_elX rfl rfl hx25) rfl ?_
    refine Run.opG wantS_none (ex_load1 rfl (hH.ptrF hp25) rdLe_rfl agg3) rfl ?_
    refine Run.opG wantS_none (ex_move rfl) rfl ?_
    refine Run.opG wantS_none (ex_move rfl) rfl ?_
    refine Run.opG wantS_none (ex_sub rfl rfl) rfl ?_
    refine Run.opG wantS_none (ex_add rfl rfl) rfl ?_
    obtain ⟨r27, hr27, h⟩ := bnd_some h
    refine Run.callP wantS_none (ex_call rfl mkk12 cal12) rfl (ref00_Mod_ok F x25 (w64 ((w64 (a3 - a2)) + (1 : Int))) _ _ hr27) ?_
    refine Run.opG wantS_none (ex_add rfl rfl) rfl ?_
    refine Run.opG wantS_none (ex_assign rfl) rfl ?_
    refine Run.opsEnd ?_
    cases h
    exact Run.ret Tryz.func31 rfl (res_tmp rfl res_nil) rfl

theorem mkk31 : makeK Tryz.prog 31 = none := by kernel_rfl
theorem cal31 : callable Tryz.prog 31 = true := by kernel_rfl
theorem pls96 : placesOf Tryz.prog 96 = some (.st [(0, 1), (1, 1)]) := by kernel_rfl
theorem elt88 : sliceElt Tryz.prog 88 = some (⟨2, 16, [(.int .i64 0), (.int .i64 0)], 96⟩ : Elt) := by kernel_rfl
theorem appt88_88 : appT Tryz.prog 88 88 = some (⟨2, 16, [(.int .i64 0), (.int .i64 0)], 96⟩ : Elt) := by kernel_rfl
theorem sz88 : szOf Tryz.prog 88 = some 1 := by kernel_rfl
theorem plan9_1_1_1_1_1_0_1_0_0_1_0_0_1_1 : planOf Tryz.prog (opsC (atC Tryz.prog 9 [1, 1, 1, 1, 1, 0, 1, 0, 0, 1, 0, 0, 1, 1])) = some [.fl 0, .fl 1, .fl 2, .fl 3, .fl 4, .fl 5, .fl 6, .fl 7, .fl 8, .fl 9, .fl 10, .fl 11, .fl 13, .an 12 [13, 1, 0], .fl 14, .an 15 [1, 0], .an 16 [], .fl 17, .an 18 [], .sync] := by kernel_rfl
theorem plan9_1_1_1_1_1_0_1_0_0_1_0_0_0 : planOf Tryz.prog (opsC (atC Tryz.prog 9 [1, 1, 1, 1, 1, 0, 1, 0, 0, 1, 0, 0, 0])) = some [.fl 0, .fl 1, .fl 2, .fl 3, .fl 4, .fl 5, .fl 6, .fl 7, .fl 8, .fl 9, .fl 10, .fl 11, .fl 12, .fl 13, .an 14 [], .fl 15, .sync] := by kernel_rfl
theorem plan9_1_1_1_1_1_1_1_1_1_0_1_0_0_1_0_0_1_0_1_0_0_1_0_0 : planOf Tryz.prog (opsC (atC Tryz.prog 9 [1, 1, 1, 1, 1, 1, 1, 1, 1, 0, 1, 0, 0, 1, 0, 0, 1, 0, 1, 0, 0, 1, 0, 0])) = some [.fl 0, .fl 1, .fl 2, .fl 3, .fl 4, .fl 5, .fl 6, .fl 7, .fl 8, .fl 9, .fl 10, .fl 11, .fl 12, .fl 13, .fl 14, .an 15 [], .sync] := by kernel_rfl
abbrev ref00_Down_post (r : Int) : SV → Mem → Prop := fun s _ => s = (.int .i64 r)

def ref00_Down_1 (F : Nat) (v5 : Int) : Option (Int) :=
  some v5

theorem ref00_Down_1_ok (F : Nat) : ∀ (v5 : Int) (Fr : Rd) (M : Mem) (r : Int) (hH : Has Fr M []), ref00_Down_1 F v5 = some r → Run Tryz.prog ⟨⟨32, [], none⟩, []⟩ 16 (ref00_Down_post r) [(5, (.int .i64 v5))] [itemC Tryz.prog 32 [1, 1, 1, 0] 0, codeC Tryz.prog 32 [1, 1, 1, 1]] M := by
  intro v5 Fr M r hH h
  rw [ref00_Down_1] at h
  refine Run.opG wantS_none (ex_move rfl) rfl ?_
  refine Run.opG wantS_none (ex_assign rfl) rfl ?_
  refine Run.opsEnd ?_
  cases h
  exact Run.ret Tryz.func32 rfl (res_tmp rfl res_nil) rfl

def ref00_Down (F : Nat) (a0 : Int) (a1 : Int) : Option (Int) :=
  bnd (nz a1) fun z22 =>
  bnd (nz a1) fun z24 =>
  bif (decide ((Int.tmod a0 a1) < (0 : Int))) then
    ref00_Down_1 F (w64 ((w64 (Int.tdiv a0 a1)) - (1 : Int)))
  else
    ref00_Down_1 F (w64 (Int.tdiv a0 a1))

theorem ref00_Down_ok (F : Nat) (a0 : Int) (a1 : Int) (r : Int) (M : Mem) (h : ref00_Down F a0 a1 = some r) : CallsM Tryz.prog 32 [(.int .i64 a0), (.int .i64 a1)] M (fun s M' => s = (.int .i64 r) ∧ M' = M) := by
  refine CallsM.plain Tryz.func32 rfl rfl rfl (show Run _ _ _ (ref00_Down_post r) _ _ _ from ?_)
  rw [ref00_Down] at h
  have hH := Has.nil (frozen M)
  refine Run.seq (Run.region ?_)
  refine Run.opG wantS_none (ex_assign rfl) rfl ?_
  refine Run.opsEnd (Run.seq (Run.region ?_))
  refine Run.opG wantS_none (ex_move rfl) rfl ?_
  refine Run.opG wantS_none (ex_move rfl) rfl ?_
  obtain ⟨z22, hz22, h⟩ := bnd_some h
  refine Run.opG wantS_none (ex_quo' rfl rfl hz22) rfl ?_
  refine Run.opG wantS_none (ex_assign rfl) rfl ?_
  refine Run.opsEnd (Run.seq (Run.seq (Run.region ?_)))
  refine Run.opG wantS_none (ex_move rfl) rfl ?_
  refine Run.opG wantS_none (ex_move rfl) rfl ?_
  obtain ⟨z24, hz24, h⟩ := bnd_some h
  refine Run.opG wantS_none (ex_rem' rfl rfl hz24) rfl ?_
  refine Run.opG wantS_none (ex_lss rfl rfl) rfl ?_
  refine Run.opsEnd ?_
  rcases btf ((decide ((Int.tmod a0 a1) < (0 : Int)))) with hc25 | hc25
  · have h := bif_t hc25 h
    refine Run.condT' rfl hc25 ?_
    refine Run.region ?_
    refine Run.opG wantS_none (ex_move rfl) rfl ?_
    refine Run.opG wantS_none (ex_sub rfl rfl) rfl ?_
    refine Run.opG wantS_none (ex_assign rfl) rfl ?_
    refine Run.opsEnd (Run.seq (Run.region ?_))
    exact Run.pick [5] (ref00_Down_1_ok F (w64 ((w64 (Int.tdiv a0 a1)) - (1 : Int))) _ _ _ hH h)
  · have h := bif_f hc25 h
    refine Run.condF' rfl hc25 ?_
    refine Run.skip (Run.seq (Run.region ?_))
    exact Run.pick [5] (ref00_Down_1_ok F (w64 (Int.tdiv a0 a1)) _ _ _ hH h)

theorem mkk32 : makeK Tryz.prog 32 = none := by kernel_rfl
theorem cal32 : callable Tryz.prog 32 = true := by kernel_rfl
abbrev ref00_Up_post (r : Int) : SV → Mem → Prop := fun s _ => s = (.int .i64 r)

def ref00_Up (F : Nat) (a0 : Int) (a1 : Int) : Option (Int) :=
  bnd (ref00_Down F (w64 (-a0)) a1) fun r22 =>
  some (w64 (-r22))

theorem ref00_Up_ok (F : Nat) (a0 : Int) (a1 : Int) (r : Int) (M : Mem) (h : ref00_Up F a0 a1 = some r) : CallsM Tryz.prog 33 [(.int .i64 a0), (.int .i64 a1)] M (fun s M' => s = (.int .i64 r) ∧ M' = M) := by
  refine CallsM.plain Tryz.func33 rfl rfl rfl (show Run _ _ _ (ref00_Up_post r) _ _ _ from ?_)
  rw [ref00_Up] at h
  have hH := Has.nil (frozen M)
  refine Run.seq (Run.region ?_)
  refine Run.opG wantS_none (ex_assign rfl) rfl ?_
  refine Run.opsEnd (Run.seq (Run.region ?_))
  refine Run.opG wantS_none (ex_move rfl) rfl ?_
  refine Run.opG wantS_none (ex_neg rfl) rfl ?_
  refine Run.opG wantS_none (ex_move rfl) rfl ?_
  obtain ⟨r22, hr22, h⟩ := bnd_some h
  refine Run.callP wantS_none (ex_call rfl mkk32 cal32) rfl (ref00_Down_ok F (w64 (-a0)) a1 _ _ hr22) ?_
  refine Run.opG wantS_none (ex_neg rfl) rfl ?_
  refine Run.opG wantS_none (ex_assign rfl) rfl ?_
  refine Run.opsEnd ?_
  cases h
  exact Run.ret Tryz.func33 rfl (res_tmp rfl res_nil) rfl

theorem mkk33 : makeK Tryz.prog 33 = none := by kernel_rfl
theorem cal33 : callable Tryz.prog 33 = true := by kernel_rfl
theorem off97_0 : fieldOff Tryz.prog 97 0 = some 0 := by kernel_rfl
theorem off97_1 : fieldOff Tryz.prog 97 1 = some 1 := by kernel_rfl
theorem agk3 : aggK Tryz.prog 3 = some .int := by kernel_rfl
theorem agk97 : aggK Tryz.prog 97 = some (.st [⟨ "Low", 3, 0, false, "", "", 0⟩, ⟨ "High", 3, 1, false, "", "", 8⟩]) := by kernel_rfl
theorem aeq97 : aggEq Tryz.prog 97 = false := by kernel_rfl
theorem plan9_1_1_1_1_1_1_1_1_1_0_1_0_0_1_0_0_1_1_1_0 : planOf Tryz.prog (opsC (atC Tryz.prog 9 [1, 1, 1, 1, 1, 1, 1, 1, 1, 0, 1, 0, 0, 1, 0, 0, 1, 1, 1, 0])) = some [.fl 0, .fl 1, .fl 2, .fl 3, .fl 4, .fl 5, .fl 6, .fl 7, .fl 8, .fl 9, .fl 10, .fl 11, .fl 12, .fl 13, .fl 14, .fl 15, .fl 16, .fl 17, .fl 18, .fl 19, .fl 20, .fl 21, .fl 22, .fl 23, .fl 24, .fl 25, .fl 26, .fl 27, .fl 28, .fl 29, .fl 30, .fl 31, .fl 32, .fl 33, .fl 34, .fl 35, .fl 36, .fl 37, .fl 38, .fl 39, .fl 40, .fl 41, .fl 42, .fl 43, .fl 44, .fl 45, .fl 46, .fl 47, .fl 48, .fl 49, .fl 50, .fl 51, .fl 52, .fl 53, .fl 54, .fl 55, .fl 56, .fl 57, .fl 58, .fl 59, .fl 60, .fl 61, .fl 62, .fl 63, .fl 64, .fl 65, .fl 66, .fl 67, .fl 68, .fl 69, .fl 70, .fl 71, .fl 72, .fl 73, .fl 74, .fl 75, .fl 76, .fl 77, .fl 78, .fl 79, .fl 80, .fl 81, .fl 82, .fl 83, .sync] := by kernel_rfl
theorem plan9_1_1_1_1_1_1_1_1_1_0_1_0_0_1_0_0_1_1_0 : planOf Tryz.prog (opsC (atC Tryz.prog 9 [1, 1, 1, 1, 1, 1, 1, 1, 1, 0, 1, 0, 0, 1, 0, 0, 1, 1, 0])) = some [.fl 0, .fl 1, .fl 2, .fl 3, .fl 5, .fl 6, .fl 7, .fl 8, .an 4 [8, 7, 6, 5], .an 9 [], .fl 10, .fl 11, .sync] := by kernel_rfl
abbrev law05_RecordWithin_post (r : Bool) : SV → Mem → Prop := fun s _ => s = (.bool r)

def law05_RecordWithin_1 (F : Nat) (v34 : Bool) : Option (Bool) :=
  some v34

theorem law05_RecordWithin_1_ok (F : Nat) : ∀ (v34 : Bool) (Fr : Rd) (M : Mem) (r : Bool) (hH : Has Fr M [tb0, tb1, tb2]), law05_RecordWithin_1 F v34 = some r → Run Tryz.prog ⟨⟨9, [], none⟩, []⟩ 254 (law05_RecordWithin_post r) [(34, (.bool v34))] [itemC Tryz.prog 9 [1, 1, 0, 1, 0, 0] 6, codeC Tryz.prog 9 [1, 1, 0, 1, 0, 1], codeC Tryz.prog 9 [1, 1, 1]] M := by
  intro v34 Fr M r hH h
  rw [law05_RecordWithin_1] at h
  refine Run.opG wantS_none (ex_assign rfl) rfl ?_
  refine Run.opsEnd ?_
  cases h
  exact Run.ret Tryz.func9 rfl (res_tmp rfl res_nil) rfl

def law05_RecordWithin_9 (F : Nat) (hd6 : (List Int) → Int → (List S_api_Tap) → Int → Int → (List S_api_Tap) → (List S_api_Tap) → (List S_api_Tap) → (List S_api_Tap) → Option (Bool)) (v1 : (List Int)) (v16 : Int) (v252 : Bool) (c25_0 : (List S_api_Tap)) (c25_1 : Int) (c38_1 : Int) (l30 : (List S_api_Tap)) (l46 : (List S_api_Tap)) (l77 : (List S_api_Tap)) (l82 : (List S_api_Tap)) : Option (Bool) :=
  bif v252 then
    some false
  else
    hd6 v1 (w64 (v16 + (1 : Int))) c25_0 c25_1 c38_1 l30 l46 l77 l82

theorem law05_RecordWithin_9_ok (F : Nat) (hd6 : (List Int) → Int → (List S_api_Tap) → Int → Int → (List S_api_Tap) → (List S_api_Tap) → (List S_api_Tap) → (List S_api_Tap) → Option (Bool)) (hhd6 : ∀ (v1 : (List Int)) (v16 : Int) (c25_0 : (List S_api_Tap)) (c25_1 : Int) (c38_1 : Int) (l30 : (List S_api_Tap)) (l46 : (List S_api_Tap)) (l77 : (List S_api_Tap)) (l82 : (List S_api_Tap)) (sv1 : SV) (sc25_0 : SV) (b25 : Pos) (s30 : SV) (b38 : Pos) (s46 : SV) (s77 : SV) (s82 : SV) (Fr : Rd) (M : Mem) (r : Bool) (hv1 : Slc Fr 1 (FlatR enc3) sv1 v1) (hc25_0 : Slc Fr 2 (FlatR enc96) sc25_0 c25_0) (hH : Has Fr M [.obj b25 (.row 90 .whole [sc25_0, (.int .i64 c25_1)]), .vec 97 2 l30.length s30 (l30.flatMap enc97), .obj b38 (.row 90 .whole [s46, (.int .i64 c38_1)]), .vec 96 2 l46.length s46 (l46.flatMap enc96), .vec 97 2 l77.length s77 (l77.flatMap enc97), .vec 97 2 l82.length s82 (l82.flatMap enc97), tb0, tb1, tb2]), hd6 v1 v16 c25_0 c25_1 c38_1 l30 l46 l77 l82 = some r → Run Tryz.prog ⟨⟨9, [], none⟩, []⟩ 254 (law05_RecordWithin_post r) [(1, sv1), (3, (.ptr b25 0)), (7, s30), (9, (.ptr b38 0)), (13, s77), (14, s82), (16, (.int .i64 v16))] [codeC Tryz.prog 9 [1, 1, 1, 1, 1, 1, 1, 1, 1, 0, 1, 0, 0], loopC Tryz.prog 9 [1, 1, 1, 1, 1, 1, 1, 1, 1, 0, 1, 0, 0], .inBlock 2, codeC Tryz.prog 9 [1, 1, 1, 1, 1, 1, 1, 1, 1, 1]] M) : ∀ (v1 : (List Int)) (v16 : Int) (v252 : Bool) (c25_0 : (List S_api_Tap)) (c25_1 : Int) (c38_1 : Int) (l30 : (List S_api_Tap)) (l46 : (List S_api_Tap)) (l77 : (List S_api_Tap)) (l82 : (List S_api_Tap)) (sv1 : SV) (sc25_0 : SV) (b25 : Pos) (s30 : SV) (b38 : Pos) (s46 : SV) (s77 : SV) (s82 : SV) (Fr : Rd) (M : Mem) (r : Bool) (hv1 : Slc Fr 1 (FlatR enc3) sv1 v1) (hc25_0 : Slc Fr 2 (FlatR enc96) sc25_0 c25_0) (hH : Has Fr M [.obj b25 (.row 90 .whole [sc25_0, (.int .i64 c25_1)]), .vec 97 2 l30.length s30 (l30.flatMap enc97), .obj b38 (.row 90 .whole [s46, (.int .i64 c38_1)]), .vec 96 2 l46.length s46 (l46.flatMap enc96), .vec 97 2 l77.length s77 (l77.flatMap enc97), .vec 97 2 l82.length s82 (l82.flatMap enc97), tb0, tb1, tb2]), law05_RecordWithin_9 F hd6 v1 v16 v252 c25_0 c25_1 c38_1 l30 l46 l77 l82 = some r → Run Tryz.prog ⟨⟨9, [], none⟩, []⟩ 254 (law05_RecordWithin_post r) [(1, sv1), (3, (.ptr b25 0)), (7, s30), (9, (.ptr b38 0)), (13, s77), (14, s82), (16, (.int .i64 v16)), (252, (.bool v252))] [codeC Tryz.prog 9 [1, 1, 1, 1, 1, 1, 1, 1, 1, 0, 1, 0, 0, 1, 0, 0, 1, 1, 1, 1], .inBlock 3, codeC Tryz.prog 9 [1, 1, 1, 1, 1, 1, 1, 1, 1, 0, 1, 0, 0, 1, 1], loopC Tryz.prog 9 [1, 1, 1, 1, 1, 1, 1, 1, 1, 0, 1, 0, 0], .inBlock 2, codeC Tryz.prog 9 [1, 1, 1, 1, 1, 1, 1, 1, 1, 1]] M := by
  intro v1 v16 v252 c25_0 c25_1 c38_1 l30 l46 l77 l82 sv1 sc25_0 b25 s30 b38 s46 s77 s82 Fr M r hv1 hc25_0 hH h
  rw [law05_RecordWithin_9] at h
  rcases btf (v252) with hc101 | hc101
  · have h := bif_t hc101 h
    refine Run.condT' rfl hc101 ?_
    refine Run.seq (Run.region ?_)
    refine Run.opG wantS_none (ex_assign rfl) rfl ?_
    refine Run.opsEnd ?_
    cases h
    exact Run.ret Tryz.func9 rfl (res_tmp rfl res_nil) rfl
  · have h := bif_f hc101 h
    refine Run.condF' rfl hc101 ?_
    refine Run.skip (Run.inBlock (Run.region ?_))
    refine Run.opG wantS_none (ex_move rfl) rfl ?_
    refine Run.opG wantS_none (ex_add rfl rfl) rfl ?_
    refine Run.opG wantS_none (ex_assign rfl) rfl ?_
    refine Run.opsEnd (Run.inLoop ?_)
    exact Run.pick [1, 3, 7, 9, 13, 14, 16] (hhd6 v1 (w64 (v16 + (1 : Int))) c25_0 c25_1 c38_1 l30 l46 l77 l82 sv1 sc25_0 b25 s30 b38 s46 s77 s82 _ _ _ hv1 hc25_0 hH h)

def law05_RecordWithin_8 (F : Nat) (hd6 : (List Int) → Int → (List S_api_Tap) → Int → Int → (List S_api_Tap) → (List S_api_Tap) → (List S_api_Tap) → (List S_api_Tap) → Option (Bool)) (hd7 : (List Int) → Int → Int → Int → (List S_api_Tap) → Int → Int → (List S_api_Tap) → (List S_api_Tap) → (List S_api_Tap) → (List S_api_Tap) → Option (Bool)) (v1 : (List Int)) (v16 : Int) (v17 : Int) (v18 : Int) (v141 : Bool) (c25_0 : (List S_api_Tap)) (c25_1 : Int) (c38_1 : Int) (l30 : (List S_api_Tap)) (l46 : (List S_api_Tap)) (l77 : (List S_api_Tap)) (l82 : (List S_api_Tap)) : Option (Bool) :=
  bif v141 then
    bnd (idx l46 v18) fun x91 =>
    bnd (idx v1 (w64 (v16 - v18))) fun x92 =>
    hd7 v1 v16 (w64 (v17 + (w64 (x91.Low * x92)))) (w64 (v18 + (1 : Int))) c25_0 c25_1 c38_1 l30 l46 l77 l82
  else
    bnd (shn c25_1) fun j93 =>
    bnd (shn c25_1) fun j94 =>
    bnd (ref00_Down F v17 (w64 ((1 : Int) * 2 ^ (min j93 (IntKind.bits .i64))))) fun r95 =>
    bnd (ref00_Up F v17 (w64 ((1 : Int) * 2 ^ (min j94 (IntKind.bits .i64))))) fun r97 =>
    bnd (idx l30 v16) fun x99 =>
    bif (decide (r95 < x99.Low)) then
      law05_RecordWithin_9 F hd6 v1 v16 true c25_0 c25_1 c38_1 l30 l46 l77 l82
    else
      bnd (idx l30 v16) fun x102 =>
      bif (decide (x102.High < r97)) then
        law05_RecordWithin_9 F hd6 v1 v16 true c25_0 c25_1 c38_1 l30 l46 l77 l82
      else
        bnd (idx l77 v16) fun x104 =>
        bif (!((x104.Low == r95) && ((x104.High == r97) && true))) then
          law05_RecordWithin_9 F hd6 v1 v16 true c25_0 c25_1 c38_1 l30 l46 l77 l82
        else
          bif (decide ((1 : Int) < (w64 (r97 - r95)))) then
            law05_RecordWithin_9 F hd6 v1 v16 true c25_0 c25_1 c38_1 l30 l46 l77 l82
          else
            bnd (idx l82 v16) fun x107 =>
            bnd (idx l30 v16) fun x108 =>
            bif (decide (x107.Low < x108.Low)) then
              law05_RecordWithin_9 F hd6 v1 v16 true c25_0 c25_1 c38_1 l30 l46 l77 l82
            else
              bnd (idx l82 v16) fun x110 =>
              bnd (idx l30 v16) fun x111 =>
              bif (decide (x111.High < x110.High)) then
                law05_RecordWithin_9 F hd6 v1 v16 true c25_0 c25_1 c38_1 l30 l46 l77 l82
              else
                bnd (idx l82 v16) fun x113 =>
                bnd (idx l77 v16) fun x114 =>
                bif (decide (x114.Low < x113.Low)) then
                  law05_RecordWithin_9 F hd6 v1 v16 true c25_0 c25_1 c38_1 l30 l46 l77 l82
                else
                  bnd (idx l82 v16) fun x116 =>
                  bnd (idx l77 v16) fun x117 =>
                  law05_RecordWithin_9 F hd6 v1 v16 (decide (x116.High < x117.High)) c25_0 c25_1 c38_1 l30 l46 l77 l82

theorem law05_RecordWithin_8_ok (F : Nat) (hd6 : (List Int) → Int → (List S_api_Tap) → Int → Int → (List S_api_Tap) → (List S_api_Tap) → (List S_api_Tap) → (List S_api_Tap) → Option (Bool)) (hhd6 : ∀ (v1 : (List Int)) (v16 : Int) (c25_0 : (List S_api_Tap)) (c25_1 : Int) (c38_1 : Int) (l30 : (List S_api_Tap)) (l46 : (List S_api_Tap)) (l77 : (List S_api_Tap)) (l82 : (List S_api_Tap)) (sv1 : SV) (sc25_0 : SV) (b25 : Pos) (s30 : SV) (b38 : Pos) (s46 : SV) (s77 : SV) (s82 : SV) (Fr : Rd) (M : Mem) (r : Bool) (hv1 : Slc Fr 1 (FlatR enc3) sv1 v1) (hc25_0 : Slc Fr 2 (FlatR enc96) sc25_0 c25_0) (hH : Has Fr M [.obj b25 (.row 90 .whole [sc25_0, (.int .i64 c25_1)]), .vec 97 2 l30.length s30 (l30.flatMap enc97), .obj b38 (.row 90 .whole [s46, (.int .i64 c38_1)]), .vec 96 2 l46.length s46 (l46.flatMap enc96), .vec 97 2 l77.length s77 (l77.flatMap enc97), .vec 97 2 l82.length s82 (l82.flatMap enc97), tb0, tb1, tb2]), hd6 v1 v16 c25_0 c25_1 c38_1 l30 l46 l77 l82 = some r → Run Tryz.prog ⟨⟨9, [], none⟩, []⟩ 254 (law05_RecordWithin_post r) [(1, sv1), (3, (.ptr b25 0)), (7, s30), (9, (.ptr b38 0)), (13, s77), (14, s82), (16, (.int .i64 v16))] [codeC Tryz.prog 9 [1, 1, 1, 1, 1, 1, 1, 1, 1, 0, 1, 0, 0], loopC Tryz.prog 9 [1, 1, 1, 1, 1, 1, 1, 1, 1, 0, 1, 0, 0], .inBlock 2, codeC Tryz.prog 9 [1, 1, 1, 1, 1, 1, 1, 1, 1, 1]] M) (hd7 : (List Int) → Int → Int → Int → (List S_api_Tap) → Int → Int → (List S_api_Tap) → (List S_api_Tap) → (List S_api_Tap) → (List S_api_Tap) → Option (Bool)) (hhd7 : ∀ (v1 : (List Int)) (v16 : Int) (v17 : Int) (v18 : Int) (c25_0 : (List S_api_Tap)) (c25_1 : Int) (c38_1 : Int) (l30 : (List S_api_Tap)) (l46 : (List S_api_Tap)) (l77 : (List S_api_Tap)) (l82 : (List S_api_Tap)) (sv1 : SV) (sc25_0 : SV) (b25 : Pos) (s30 : SV) (b38 : Pos) (s46 : SV) (s77 : SV) (s82 : SV) (Fr : Rd) (M : Mem) (r : Bool) (hv1 : Slc Fr 1 (FlatR enc3) sv1 v1) (hc25_0 : Slc Fr 2 (FlatR enc96) sc25_0 c25_0) (hH : Has Fr M [.obj b25 (.row 90 .whole [sc25_0, (.int .i64 c25_1)]), .vec 97 2 l30.length s30 (l30.flatMap enc97), .obj b38 (.row 90 .whole [s46, (.int .i64 c38_1)]), .vec 96 2 l46.length s46 (l46.flatMap enc96), .vec 97 2 l77.length s77 (l77.flatMap enc97), .vec 97 2 l82.length s82 (l82.flatMap enc97), tb0, tb1, tb2]), hd7 v1 v16 v17 v18 c25_0 c25_1 c38_1 l30 l46 l77 l82 = some r → Run Tryz.prog ⟨⟨9, [], none⟩, []⟩ 254 (law05_RecordWithin_post r) [(1, sv1), (3, (.ptr b25 0)), (7, s30), (9, (.ptr b38 0)), (13, s77), (14, s82), (16, (.int .i64 v16)), (17, (.int .i64 v17)), (18, (.int .i64 v18))] [codeC Tryz.prog 9 [1, 1, 1, 1, 1, 1, 1, 1, 1, 0, 1, 0, 0, 1, 0, 0, 1, 0, 1, 0, 0], loopC Tryz.prog 9 [1, 1, 1, 1, 1, 1, 1, 1, 1, 0, 1, 0, 0, 1, 0, 0, 1, 0, 1, 0, 0], .inBlock 4, codeC Tryz.prog 9 [1, 1, 1, 1, 1, 1, 1, 1, 1, 0, 1, 0, 0, 1, 0, 0, 1, 1], .inBlock 3, codeC Tryz.prog 9 [1, 1, 1, 1, 1, 1, 1, 1, 1, 0, 1, 0, 0, 1, 1], loopC Tryz.prog 9 [1, 1, 1, 1, 1, 1, 1, 1, 1, 0, 1, 0, 0], .inBlock 2, codeC Tryz.prog 9 [1, 1, 1, 1, 1, 1, 1, 1, 1, 1]] M) : ∀ (v1 : (List Int)) (v16 : Int) (v17 : Int) (v18 : Int) (v141 : Bool) (c25_0 : (List S_api_Tap)) (c25_1 : Int) (c38_1 : Int) (l30 : (List S_api_Tap)) (l46 : (List S_api_Tap)) (l77 : (List S_api_Tap)) (l82 : (List S_api_Tap)) (sv1 : SV) (sc25_0 : SV) (b25 : Pos) (s30 : SV) (b38 : Pos) (s46 : SV) (s77 : SV) (s82 : SV) (Fr : Rd) (M : Mem) (r : Bool) (hv1 : Slc Fr 1 (FlatR enc3) sv1 v1) (hc25_0 : Slc Fr 2 (FlatR enc96) sc25_0 c25_0) (hH : Has Fr M [.obj b25 (.row 90 .whole [sc25_0, (.int .i64 c25_1)]), .vec 97 2 l30.length s30 (l30.flatMap enc97), .obj b38 (.row 90 .whole [s46, (.int .i64 c38_1)]), .vec 96 2 l46.length s46 (l46.flatMap enc96), .vec 97 2 l77.length s77 (l77.flatMap enc97), .vec 97 2 l82.length s82 (l82.flatMap enc97), tb0, tb1, tb2]), law05_RecordWithin_8 F hd6 hd7 v1 v16 v17 v18 v141 c25_0 c25_1 c38_1 l30 l46 l77 l82 = some r → Run Tryz.prog ⟨⟨9, [], none⟩, []⟩ 254 (law05_RecordWithin_post r) [(1, sv1), (3, (.ptr b25 0)), (7, s30), (9, (.ptr b38 0)), (13, s77), (14, s82), (16, (.int .i64 v16)), (17, (.int .i64 v17)), (18, (.int .i64 v18)), (141, (.bool v141))] [codeC Tryz.prog 9 [1, 1, 1, 1, 1, 1, 1, 1, 1, 0, 1, 0, 0, 1, 0, 0, 1, 0, 1, 0, 0, 0, 1], codeC Tryz.prog 9 [1, 1, 1, 1, 1, 1, 1, 1, 1, 0, 1, 0, 0, 1, 0, 0, 1, 0, 1, 0, 0, 1], loopC Tryz.prog 9 [1, 1, 1, 1, 1, 1, 1, 1, 1, 0, 1, 0, 0, 1, 0, 0, 1, 0, 1, 0, 0], .inBlock 4, codeC Tryz.prog 9 [1, 1, 1, 1, 1, 1, 1, 1, 1, 0, 1, 0, 0, 1, 0, 0, 1, 1], .inBlock 3, codeC Tryz.prog 9 [1, 1, 1, 1, 1, 1, 1, 1, 1, 0, 1, 0, 0, 1, 1], loopC Tryz.prog 9 [1, 1, 1, 1, 1, 1, 1, 1, 1, 0, 1, 0, 0], .inBlock 2, codeC Tryz.prog 9 [1, 1, 1, 1, 1, 1, 1, 1, 1, 1]] M := by
  intro v1 v16 v17 v18 v141 c25_0 c25_1 c38_1 l30 l46 l77 l82 sv1 sc25_0 b25 s30 b38 s46 s77 s82 Fr M r hv1 hc25_0 hH h
  rw [law05_RecordWithin_8] at h
  rcases btf (v141) with hc90 | hc90
  · have h := bif_t hc90 h
    refine Run.condT' rfl hc90 ?_
    refine Run.skip (Run.seq (Run.block ?_))
    refine Run.drawG plan9_1_1_1_1_1_1_1_1_1_0_1_0_0_1_0_0_1_0_1_0_0_1_0_0 ?_
    refine DrawG.fl rfl (ev_ex wantS_none (ex_move rfl)) rfl ?_
    refine DrawG.fl rfl (ev_ex wantS_none (ex_fieldAddr rfl off90_0)) rfl ?_
    refine DrawG.fl rfl (ev_ex wantS_none (ex_load1 rfl (hH.cells (i := 2) rfl 0 rfl) rdLe_rfl agg88)) rfl ?_
    refine DrawG.fl rfl (ev_ex wantS_none (ex_move rfl)) rfl ?_
    obtain ⟨x91, hx91, h⟩ := bnd_some h
    obtain ⟨p91, o91, hb91, hx91, he91⟩ := vec_elem (P := Tryz.prog) (t := 88) (kk := .i64) hH (i := 3) rfl hx91 els88
    refine DrawG.fl rfl (ev_ex wantS_none (ex_elX rfl rfl hx91)) rfl ?_
    refine DrawG.fl rfl (ev_ex wantS_none (ex_fieldAddr rfl off96_0)) rfl ?_
    refine DrawG.fl rfl (ev_ex wantS_none (ex_load1 rfl ((hH.at (enc := enc96) (a := x91) (i := 3) rfl hb91 he91 enc96_len).fld (o := 0) rfl) rdLe_rfl agg3)) rfl ?_
    refine DrawG.fl rfl (ev_ex wantS_none (ex_move rfl)) rfl ?_
    refine DrawG.fl rfl (ev_ex wantS_none (ex_move rfl)) rfl ?_
    refine DrawG.fl rfl (ev_ex wantS_none (ex_move rfl)) rfl ?_
    refine DrawG.fl rfl (ev_ex wantS_none (ex_sub rfl rfl)) rfl ?_
    obtain ⟨x92, hx92, h⟩ := bnd_some h
    obtain ⟨p92, o92, _, hx92, hp92, rfl⟩ := sl_elem (P := Tryz.prog) (t := 26) (kk := .i64) hv1 hx92 els26
    refine DrawG.fl rfl (ev_ex wantS_none (ex_elX rfl rfl hx92)) rfl ?_
    refine DrawG.fl rfl (ev_ex wantS_none (ex_load1 rfl (hH.ptrF hp92) rdLe_rfl agg3)) rfl ?_
    refine DrawG.fl rfl (ev_ex wantS_none (ex_mul rfl rfl)) rfl ?_
    refine DrawG.fl rfl (ev_ex wantS_none (ex_add rfl rfl)) rfl ?_
    refine DrawG.val rfl wantS_none (ex_assign rfl) rfl st_nil ?_
    refine DrawG.sync ?_
    refine DrawG.nil ?_
    refine Run.inBlock (Run.region ?_)
    refine Run.opG wantS_none (ex_move rfl) rfl ?_
    refine Run.opG wantS_none (ex_add rfl rfl) rfl ?_
    refine Run.opG wantS_none (ex_assign rfl) rfl ?_
    refine Run.opsEnd (Run.inLoop ?_)
    exact Run.pick [1, 3, 7, 9, 13, 14, 16, 17, 18] (hhd7 v1 v16 (w64 (v17 + (w64 (x91.Low * x92)))) (w64 (v18 + (1 : Int))) c25_0 c25_1 c38_1 l30 l46 l77 l82 sv1 sc25_0 b25 s30 b38 s46 s77 s82 _ _ _ hv1 hc25_0 hH h)
  · have h := bif_f hc90 h
    refine Run.condF' rfl hc90 ?_
    refine Run.exit rfl (Run.seq ?_)
    refine Run.drawG plan9_1_1_1_1_1_1_1_1_1_0_1_0_0_1_0_0_1_1_0 ?_
    refine DrawG.fl rfl (ev_ex wantS_none (ex_move rfl)) rfl ?_
    refine DrawG.fl rfl (ev_ex wantS_none (ex_fieldAddr rfl off90_1)) rfl ?_
    refine DrawG.fl rfl (ev_ex wantS_none (ex_load1 rfl (hH.cells (i := 0) rfl 1 rfl) rdLe_rfl agg3)) rfl ?_
    obtain ⟨j93, hj93, h⟩ := bnd_some h
    refine DrawG.fl rfl (ev_ex wantS_none (ex_shl' rfl rfl hj93)) rfl ?_
    refine DrawG.fl rfl (ev_ex wantS_none (ex_move rfl)) rfl ?_
    refine DrawG.fl rfl (ev_ex wantS_none (ex_fieldAddr rfl off90_1)) rfl ?_
    refine DrawG.fl rfl (ev_ex wantS_none (ex_load1 rfl (hH.cells (i := 0) rfl 1 rfl) rdLe_rfl agg3)) rfl ?_
    obtain ⟨j94, hj94, h⟩ := bnd_some h
    refine DrawG.fl rfl (ev_ex wantS_none (ex_shl' rfl rfl hj94)) rfl ?_
    obtain ⟨r95, hr95, h⟩ := bnd_some h
    refine DrawG.callP rfl wantS_none (ex_call rfl mkk32 cal32) rfl (ref00_Down_ok F v17 (w64 ((1 : Int) * 2 ^ (min j93 (IntKind.bits .i64)))) _ _ hr95) (st_cons rfl (ev_ex wantS_none (ex_shl' rfl rfl hj94)) rfl rfl rfl (st_cons rfl (ev_ex wantS_none (ex_load1 rfl (hH.cells (i := 0) rfl 1 rfl) rdLe_rfl agg3)) rfl rfl rfl (st_cons rfl (ev_ex wantS_none (ex_fieldAddr rfl off90_1)) rfl rfl rfl (st_cons rfl (ev_ex wantS_none (ex_move rfl)) rfl rfl rfl st_nil)))) ?_
    obtain ⟨r97, hr97, h⟩ := bnd_some h
    refine DrawG.callP rfl wantS_none (ex_call rfl mkk33 cal33) rfl (ref00_Up_ok F v17 (w64 ((1 : Int) * 2 ^ (min j94 (IntKind.bits .i64)))) _ _ hr97) st_nil ?_
    refine DrawG.fl rfl (ev_ex wantS_none (ex_assign rfl)) rfl ?_
    refine DrawG.fl rfl (ev_ex wantS_none (ex_assign rfl)) rfl ?_
    refine DrawG.sync ?_
    refine DrawG.nil ?_
    refine Run.seq ?_
    refine Run.drawG plan9_1_1_1_1_1_1_1_1_1_0_1_0_0_1_0_0_1_1_1_0 ?_
    refine DrawG.fl rfl (ev_ex wantS_none (ex_move rfl)) rfl ?_
    refine DrawG.fl rfl (ev_ex wantS_none (ex_move rfl)) rfl ?_
    refine DrawG.fl rfl (ev_ex wantS_none (ex_move rfl)) rfl ?_
    obtain ⟨x99, hx99, h⟩ := bnd_some h
    obtain ⟨p99, o99, hb99, hx99, he99⟩ := vec_elem (P := Tryz.prog) (t := 91) (kk := .i64) hH (i := 1) rfl hx99 els91
    refine DrawG.fl rfl (ev_ex wantS_none (ex_elX rfl rfl hx99)) rfl ?_
    refine DrawG.fl rfl (ev_ex wantS_none (ex_fieldAddr rfl off97_0)) rfl ?_
    refine DrawG.fl rfl (ev_ex wantS_none (ex_load1 rfl ((hH.at (enc := enc97) (a := x99) (i := 1) rfl hb99 he99 enc97_len).fld (o := 0) rfl) rdLe_rfl agg3)) rfl ?_
    refine DrawG.fl rfl (ev_ex wantS_none (ex_lss rfl rfl)) rfl ?_
    refine DrawG.fl rfl (ev_ex wantS_none (ex_move rfl)) rfl ?_
    rcases btf ((decide (r95 < x99.Low))) with hc100 | hc100
    · have h := bif_t hc100 h
      refine DrawG.fl rfl (ev_no (wantS_not' rfl rfl hc100)) rfl ?_
      refine DrawG.fl rfl (ev_no (wantS_not' rfl rfl hc100)) rfl ?_
      refine DrawG.fl rfl (ev_no (wantS_not' rfl rfl hc100)) rfl ?_
      refine DrawG.fl rfl (ev_no (wantS_not' rfl rfl hc100)) rfl ?_
      refine DrawG.fl rfl (ev_no (wantS_not' rfl rfl hc100)) rfl ?_
      refine DrawG.fl rfl (ev_no (wantS_not' rfl rfl hc100)) rfl ?_
      refine DrawG.fl rfl (ev_no (wantS_not' rfl rfl hc100)) rfl ?_
      refine DrawG.fl rfl (ev_ex wantS_none (ex_pickT' rfl hc100 rfl rfl)) rfl ?_
      refine DrawG.fl rfl (ev_ex wantS_none (ex_move rfl)) rfl ?_
      refine DrawG.fl rfl (ev_no (wantS_not' rfl rfl rfl)) rfl ?_
      refine DrawG.fl rfl (ev_no (wantS_not' rfl rfl rfl)) rfl ?_
      refine DrawG.fl rfl (ev_no (wantS_not' rfl rfl rfl)) rfl ?_
      refine DrawG.fl rfl (ev_no (wantS_not' rfl rfl rfl)) rfl ?_
      refine DrawG.fl rfl (ev_no (wantS_not' rfl rfl rfl)) rfl ?_
      refine DrawG.fl rfl (ev_no (wantS_not' rfl rfl rfl)) rfl ?_
      refine DrawG.fl rfl (ev_no (wantS_not' rfl rfl rfl)) rfl ?_
      refine DrawG.fl rfl (ev_no (wantS_not' rfl rfl rfl)) rfl ?_
      refine DrawG.fl rfl (ev_ex wantS_none (ex_pickT' rfl rfl rfl rfl)) rfl ?_
      refine DrawG.fl rfl (ev_ex wantS_none (ex_move rfl)) rfl ?_
      refine DrawG.fl rfl (ev_no (wantS_not' rfl rfl rfl)) rfl ?_
      refine DrawG.fl rfl (ev_no (wantS_not' rfl rfl rfl)) rfl ?_
      refine DrawG.fl rfl (ev_no (wantS_not' rfl rfl rfl)) rfl ?_
      refine DrawG.fl rfl (ev_no (wantS_not' rfl rfl rfl)) rfl ?_
      refine DrawG.fl rfl (ev_ex wantS_none (ex_pickT' rfl rfl rfl rfl)) rfl ?_
      refine DrawG.fl rfl (ev_ex wantS_none (ex_move rfl)) rfl ?_
      refine DrawG.fl rfl (ev_no (wantS_not' rfl rfl rfl)) rfl ?_
      refine DrawG.fl rfl (ev_no (wantS_not' rfl rfl rfl)) rfl ?_
      refine DrawG.fl rfl (ev_no (wantS_not' rfl rfl rfl)) rfl ?_
      refine DrawG.fl rfl (ev_no (wantS_not' rfl rfl rfl)) rfl ?_
      refine DrawG.fl rfl (ev_no (wantS_not' rfl rfl rfl)) rfl ?_
      refine DrawG.fl rfl (ev_no (wantS_not' rfl rfl rfl)) rfl ?_
      refine DrawG.fl rfl (ev_no (wantS_not' rfl rfl rfl)) rfl ?_
      refine DrawG.fl rfl (ev_no (wantS_not' rfl rfl rfl)) rfl ?_
      refine DrawG.fl rfl (ev_no (wantS_not' rfl rfl rfl)) rfl ?_
      refine DrawG.fl rfl (ev_no (wantS_not' rfl rfl rfl)) rfl ?_
      refine DrawG.fl rfl (ev_no (wantS_not' rfl rfl rfl)) rfl ?_
      refine DrawG.fl rfl (ev_ex wantS_none (ex_pickT' rfl rfl rfl rfl)) rfl ?_
      refine DrawG.fl rfl (ev_ex wantS_none (ex_move rfl)) rfl ?_
      refine DrawG.fl rfl (ev_no (wantS_not' rfl rfl rfl)) rfl ?_
      refine DrawG.fl rfl (ev_no (wantS_not' rfl rfl rfl)) rfl ?_
      refine DrawG.fl rfl (ev_no (wantS_not' rfl rfl rfl)) rfl ?_
      refine DrawG.fl rfl (ev_no (wantS_not' rfl rfl rfl)) rfl ?_
      refine DrawG.fl rfl (ev_no (wantS_not' rfl rfl rfl)) rfl ?_
      refine DrawG.fl rfl (ev_no (wantS_not' rfl rfl rfl)) rfl ?_
      refine DrawG.fl rfl (ev_no (wantS_not' rfl rfl rfl)) rfl ?_
      refine DrawG.fl rfl (ev_no (wantS_not' rfl rfl rfl)) rfl ?_
      refine DrawG.fl rfl (ev_no (wantS_not' rfl rfl rfl)) rfl ?_
      refine DrawG.fl rfl (ev_no (wantS_not' rfl rfl rfl)) rfl ?_
      refine DrawG.fl rfl (ev_no (wantS_not' rfl rfl rfl)) rfl ?_
      refine DrawG.fl rfl (ev_ex wantS_none (ex_pickT' rfl rfl rfl rfl)) rfl ?_
      refine DrawG.fl rfl (ev_ex wantS_none (ex_move rfl)) rfl ?_
      refine DrawG.fl rfl (ev_no (wantS_not' rfl rfl rfl)) rfl ?_
      refine DrawG.fl rfl (ev_no (wantS_not' rfl rfl rfl)) rfl ?_
      refine DrawG.fl rfl (ev_no (wantS_not' rfl rfl rfl)) rfl ?_
      refine DrawG.fl rfl (ev_no (wantS_not' rfl rfl rfl)) rfl ?_
      refine DrawG.fl rfl (ev_no (wantS_not' rfl rfl rfl)) rfl ?_
      refine DrawG.fl rfl (ev_no (wantS_not' rfl rfl rfl)) rfl ?_
      refine DrawG.fl rfl (ev_no (wantS_not' rfl rfl rfl)) rfl ?_
      refine DrawG.fl rfl (ev_no (wantS_not' rfl rfl rfl)) rfl ?_
      refine DrawG.fl rfl (ev_no (wantS_not' rfl rfl rfl)) rfl ?_
      refine DrawG.fl rfl (ev_no (wantS_not' rfl rfl rfl)) rfl ?_
      refine DrawG.fl rfl (ev_no (wantS_not' rfl rfl rfl)) rfl ?_
      refine DrawG.fl rfl (ev_ex wantS_none (ex_pickT' rfl rfl rfl rfl)) rfl ?_
      refine DrawG.fl rfl (ev_ex wantS_none (ex_move rfl)) rfl ?_
      refine DrawG.fl rfl (ev_no (wantS_not' rfl rfl rfl)) rfl ?_
      refine DrawG.fl rfl (ev_no (wantS_not' rfl rfl rfl)) rfl ?_
      refine DrawG.fl rfl (ev_no (wantS_not' rfl rfl rfl)) rfl ?_
      refine DrawG.fl rfl (ev_no (wantS_not' rfl rfl rfl)) rfl ?_
      refine DrawG.fl rfl (ev_no (wantS_not' rfl rfl rfl)) rfl ?_
      refine DrawG.fl rfl (ev_no (wantS_not' rfl rfl rfl)) rfl ?_
      refine DrawG.fl rfl (ev_no (wantS_not' rfl rfl rfl)) rfl ?_
      refine DrawG.fl rfl (ev_no (wantS_not' rfl rfl rfl)) rfl ?_
      refine DrawG.fl rfl (ev_no (wantS_not' rfl rfl rfl)) rfl ?_
      refine DrawG.fl rfl (ev_no (wantS_not' rfl rfl rfl)) rfl ?_
      refine DrawG.fl rfl (ev_no (wantS_not' rfl rfl rfl)) rfl ?_
      refine DrawG.fl rfl (ev_ex wantS_none (ex_pickT' rfl rfl rfl rfl)) rfl ?_
      refine DrawG.sync ?_
      refine DrawG.nil ?_
      exact Run.pick [1, 3, 7, 9, 13, 14, 16, 252] (law05_RecordWithin_9_ok F hd6 hhd6 v1 v16 true c25_0 c25_1 c38_1 l30 l46 l77 l82 sv1 sc25_0 b25 s30 b38 s46 s77 s82 _ _ _ hv1 hc25_0 hH h)
    · have h := bif_f hc100 h
      refine DrawG.fl rfl (ev_ex (wantS_yes' rfl rfl hc100) (ex_move rfl)) rfl ?_
      refine DrawG.fl rfl (ev_ex (wantS_yes' rfl rfl hc100) (ex_move rfl)) rfl ?_
      refine DrawG.fl rfl (ev_ex (wantS_yes' rfl rfl hc100) (ex_move rfl)) rfl ?_
      obtain ⟨x102, hx102, h⟩ := bnd_some h
      obtain ⟨p102, o102, hb102, hx102, he102⟩ := vec_elem (P := Tryz.prog) (t := 91) (kk := .i64) hH (i := 1) rfl hx102 els91
      refine DrawG.fl rfl (ev_ex (wantS_yes' rfl rfl hc100) (ex_elX rfl rfl hx102)) rfl ?_
      refine DrawG.fl rfl (ev_ex (wantS_yes' rfl rfl hc100) (ex_fieldAddr rfl off97_1)) rfl ?_
      refine DrawG.fl rfl (ev_ex (wantS_yes' rfl rfl hc100) (ex_load1 rfl ((hH.at (enc := enc97) (a := x102) (i := 1) rfl hb102 he102 enc97_len).fld (o := 1) rfl) rdLe_rfl agg3)) rfl ?_
      refine DrawG.fl rfl (ev_ex (wantS_yes' rfl rfl hc100) (ex_gtr rfl rfl)) rfl ?_
      refine DrawG.fl rfl (ev_ex wantS_none (ex_pickF' rfl hc100 rfl rfl)) rfl ?_
      refine DrawG.fl rfl (ev_ex wantS_none (ex_move rfl)) rfl ?_
      rcases btf ((decide (x102.High < r97))) with hc103 | hc103
      · have h := bif_t hc103 h
        refine DrawG.fl rfl (ev_no (wantS_not' rfl rfl hc103)) rfl ?_
        refine DrawG.fl rfl (ev_no (wantS_not' rfl rfl hc103)) rfl ?_
        refine DrawG.fl rfl (ev_no (wantS_not' rfl rfl hc103)) rfl ?_
        refine DrawG.fl rfl (ev_no (wantS_not' rfl rfl hc103)) rfl ?_
        refine DrawG.fl rfl (ev_no (wantS_not' rfl rfl hc103)) rfl ?_
        refine DrawG.fl rfl (ev_no (wantS_not' rfl rfl hc103)) rfl ?_
        refine DrawG.fl rfl (ev_no (wantS_not' rfl rfl hc103)) rfl ?_
        refine DrawG.fl rfl (ev_no (wantS_not' rfl rfl hc103)) rfl ?_
        refine DrawG.fl rfl (ev_ex wantS_none (ex_pickT' rfl hc103 rfl rfl)) rfl ?_
        refine DrawG.fl rfl (ev_ex wantS_none (ex_move rfl)) rfl ?_
        refine DrawG.fl rfl (ev_no (wantS_not' rfl rfl rfl)) rfl ?_
        refine DrawG.fl rfl (ev_no (wantS_not' rfl rfl rfl)) rfl ?_
        refine DrawG.fl rfl (ev_no (wantS_not' rfl rfl rfl)) rfl ?_
        refine DrawG.fl rfl (ev_no (wantS_not' rfl rfl rfl)) rfl ?_
        refine DrawG.fl rfl (ev_ex wantS_none (ex_pickT' rfl rfl rfl rfl)) rfl ?_
        refine DrawG.fl rfl (ev_ex wantS_none (ex_move rfl)) rfl ?_
        refine DrawG.fl rfl (ev_no (wantS_not' rfl rfl rfl)) rfl ?_
        refine DrawG.fl rfl (ev_no (wantS_not' rfl rfl rfl)) rfl ?_
        refine DrawG.fl rfl (ev_no (wantS_not' rfl rfl rfl)) rfl ?_
        refine DrawG.fl rfl (ev_no (wantS_not' rfl rfl rfl)) rfl ?_
        refine DrawG.fl rfl (ev_no (wantS_not' rfl rfl rfl)) rfl ?_
        refine DrawG.fl rfl (ev_no (wantS_not' rfl rfl rfl)) rfl ?_
        refine DrawG.fl rfl (ev_no (wantS_not' rfl rfl rfl)) rfl ?_
        refine DrawG.fl rfl (ev_no (wantS_not' rfl rfl rfl)) rfl ?_
        refine DrawG.fl rfl (ev_no (wantS_not' rfl rfl rfl)) rfl ?_
        refine DrawG.fl rfl (ev_no (wantS_not' rfl rfl rfl)) rfl ?_
        refine DrawG.fl rfl (ev_no (wantS_not' rfl rfl rfl)) rfl ?_
        refine DrawG.fl rfl (ev_ex wantS_none (ex_pickT' rfl rfl rfl rfl)) rfl ?_
        refine DrawG.fl rfl (ev_ex wantS_none (ex_move rfl)) rfl ?_
        refine DrawG.fl rfl (ev_no (wantS_not' rfl rfl rfl)) rfl ?_
        refine DrawG.fl rfl (ev_no (wantS_not' rfl rfl rfl)) rfl ?_
        refine DrawG.fl rfl (ev_no (wantS_not' rfl rfl rfl)) rfl ?_
        refine DrawG.fl rfl (ev_no (wantS_not' rfl rfl rfl)) rfl ?_
        refine DrawG.fl rfl (ev_no (wantS_not' rfl rfl rfl)) rfl ?_
        refine DrawG.fl rfl (ev_no (wantS_not' rfl rfl rfl)) rfl ?_
        refine DrawG.fl rfl (ev_no (wantS_not' rfl rfl rfl)) rfl ?_
        refine DrawG.fl rfl (ev_no (wantS_not' rfl rfl rfl)) rfl ?_
        refine DrawG.fl rfl (ev_no (wantS_not' rfl rfl rfl)) rfl ?_
        refine DrawG.fl rfl (ev_no (wantS_not' rfl rfl rfl)) rfl ?_
        refine DrawG.fl rfl (ev_no (wantS_not' rfl rfl rfl)) rfl ?_
        refine DrawG.fl rfl (ev_ex wantS_none (ex_pickT' rfl rfl rfl rfl)) rfl ?_
        refine DrawG.fl rfl (ev_ex wantS_none (ex_move rfl)) rfl ?_
        refine DrawG.fl rfl (ev_no (wantS_not' rfl rfl rfl)) rfl ?_
        refine DrawG.fl rfl (ev_no (wantS_not' rfl rfl rfl)) rfl ?_
        refine DrawG.fl rfl (ev_no (wantS_not' rfl rfl rfl)) rfl ?_
        refine DrawG.fl rfl (ev_no (wantS_not' rfl rfl rfl)) rfl ?_
        refine DrawG.fl rfl (ev_no (wantS_not' rfl rfl rfl)) rfl ?_
        refine DrawG.fl rfl (ev_no (wantS_not' rfl rfl rfl)) rfl ?_
        refine DrawG.fl rfl (ev_no (wantS_not' rfl rfl rfl)) rfl ?_
        refine DrawG.fl rfl (ev_no (wantS_not' rfl rfl rfl)) rfl ?_
        refine DrawG.fl rfl (ev_no (wantS_not' rfl rfl rfl)) rfl ?_
        refine DrawG.fl rfl (ev_no (wantS_not' rfl rfl rfl)) rfl ?_
        refine DrawG.fl rfl (ev_no (wantS_not' rfl rfl rfl)) rfl ?_
        refine DrawG.fl rfl (ev_ex wantS_none (ex_pickT' rfl rfl rfl rfl)) rfl ?_
        refine DrawG.fl rfl (ev_ex wantS_none (ex_move rfl)) rfl ?_
        refine DrawG.fl rfl (ev_no (wantS_not' rfl rfl rfl)) rfl ?_
        refine DrawG.fl rfl (ev_no (wantS_not' rfl rfl rfl)) rfl ?_
        refine DrawG.fl rfl (ev_no (wantS_not' rfl rfl rfl)) rfl ?_
        refine DrawG.fl rfl (ev_no (wantS_not' rfl rfl rfl)) rfl ?_
        refine DrawG.fl rfl (ev_no (wantS_not' rfl rfl rfl)) rfl ?_
        refine DrawG.fl rfl (ev_no (wantS_not' rfl rfl rfl)) rfl ?_
        refine DrawG.fl rfl (ev_no (wantS_not' rfl rfl rfl)) rfl ?_
        refine DrawG.fl rfl (ev_no (wantS_not' rfl rfl rfl)) rfl ?_
        refine DrawG.fl rfl (ev_no (wantS_not' rfl rfl rfl)) rfl ?_
        refine DrawG.fl rfl (ev_no (wantS_not' rfl rfl rfl)) rfl ?_
        refine DrawG.fl rfl (ev_no (wantS_not' rfl rfl rfl)) rfl ?_
        refine DrawG.fl rfl (ev_ex wantS_none (ex_pickT' rfl rfl rfl rfl)) rfl ?_
        refine DrawG.sync ?_
        refine DrawG.nil ?_
        exact Run.pick [1, 3, 7, 9, 13, 14, 16, 252] (law05_RecordWithin_9_ok F hd6 hhd6 v1 v16 true c25_0 c25_1 c38_1 l30 l46 l77 l82 sv1 sc25_0 b25 s30 b38 s46 s77 s82 _ _ _ hv1 hc25_0 hH h)
      · have h := bif_f hc103 h
        refine DrawG.fl rfl (ev_ex (wantS_yes' rfl rfl hc103) (ex_move rfl)) rfl ?_
        refine DrawG.fl rfl (ev_ex (wantS_yes' rfl rfl hc103) (ex_move rfl)) rfl ?_
        obtain ⟨x104, hx104, h⟩ := bnd_some h
        obtain ⟨p104, o104, hb104, hx104, he104⟩ := vec_elem (P := Tryz.prog) (t := 91) (kk := .i64) hH (i := 4) rfl hx104 els91
        refine DrawG.fl rfl (ev_ex (wantS_yes' rfl rfl hc103) (ex_elX rfl rfl hx104)) rfl ?_
        refine DrawG.fl rfl (ev_ex (wantS_yes' rfl rfl hc103) (ex_loadA rfl (hH.at (enc := enc97) (a := x104) (i := 4) rfl hb104 he104 enc97_len) rdLe_rfl agg97 rfl rfl rfl)) rfl ?_
        refine DrawG.fl rfl (ev_ex (wantS_yes' rfl rfl hc103) (ex_move rfl)) rfl ?_
        refine DrawG.fl rfl (ev_ex (wantS_yes' rfl rfl hc103) (ex_move rfl)) rfl ?_
        refine DrawG.fl rfl (ev_ex (wantS_yes' rfl rfl hc103) (ex_build (r := [(.int .i64 r95), (.int .i64 r97)]) rfl zer97 pls97 rfl)) rfl ?_
        refine DrawG.fl rfl (ev_ex (wantS_yes' rfl rfl hc103) (ex_neqA rfl rfl aeq97 (eqA_st agk97 (eqFs_cons (by decide) (part_one agg3 rfl) (part_one agg3 rfl) (eqA_int agk3) (eqFs_cons (by decide) (part_one agg3 rfl) (part_one agg3 rfl) (eqA_int agk3) eqFs_nil))))) rfl ?_
        refine DrawG.fl rfl (ev_ex wantS_none (ex_pickF' rfl hc103 rfl rfl)) rfl ?_
        refine DrawG.fl rfl (ev_ex wantS_none (ex_move rfl)) rfl ?_
        rcases btf ((!((x104.Low == r95) && ((x104.High == r97) && true)))) with hc105 | hc105
        · have h := bif_t hc105 h
          refine DrawG.fl rfl (ev_no (wantS_not' rfl rfl hc105)) rfl ?_
          refine DrawG.fl rfl (ev_no (wantS_not' rfl rfl hc105)) rfl ?_
          refine DrawG.fl rfl (ev_no (wantS_not' rfl rfl hc105)) rfl ?_
          refine DrawG.fl rfl (ev_no (wantS_not' rfl rfl hc105)) rfl ?_
          refine DrawG.fl rfl (ev_ex wantS_none (ex_pickT' rfl hc105 rfl rfl)) rfl ?_
          refine DrawG.fl rfl (ev_ex wantS_none (ex_move rfl)) rfl ?_
          refine DrawG.fl rfl (ev_no (wantS_not' rfl rfl rfl)) rfl ?_
          refine DrawG.fl rfl (ev_no (wantS_not' rfl rfl rfl)) rfl ?_
          refine DrawG.fl rfl (ev_no (wantS_not' rfl rfl rfl)) rfl ?_
          refine DrawG.fl rfl (ev_no (wantS_not' rfl rfl rfl)) rfl ?_
          refine DrawG.fl rfl (ev_no (wantS_not' rfl rfl rfl)) rfl ?_
          refine DrawG.fl rfl (ev_no (wantS_not' rfl rfl rfl)) rfl ?_
          refine DrawG.fl rfl (ev_no (wantS_not' rfl rfl rfl)) rfl ?_
          refine DrawG.fl rfl (ev_no (wantS_not' rfl rfl rfl)) rfl ?_
          refine DrawG.fl rfl (ev_no (wantS_not' rfl rfl rfl)) rfl ?_
          refine DrawG.fl rfl (ev_no (wantS_not' rfl rfl rfl)) rfl ?_
          refine DrawG.fl rfl (ev_no (wantS_not' rfl rfl rfl)) rfl ?_
          refine DrawG.fl rfl (ev_ex wantS_none (ex_pickT' rfl rfl rfl rfl)) rfl ?_
          refine DrawG.fl rfl (ev_ex wantS_none (ex_move rfl)) rfl ?_
          refine DrawG.fl rfl (ev_no (wantS_not' rfl rfl rfl)) rfl ?_
          refine DrawG.fl rfl (ev_no (wantS_not' rfl rfl rfl)) rfl ?_
          refine DrawG.fl rfl (ev_no (wantS_not' rfl rfl rfl)) rfl ?_
          refine DrawG.fl rfl (ev_no (wantS_not' rfl rfl rfl)) rfl ?_
          refine DrawG.fl rfl (ev_no (wantS_not' rfl rfl rfl)) rfl ?_
          refine DrawG.fl rfl (ev_no (wantS_not' rfl rfl rfl)) rfl ?_
          refine DrawG.fl rfl (ev_no (wantS_not' rfl rfl rfl)) rfl ?_
          refine DrawG.fl rfl (ev_no (wantS_not' rfl rfl rfl)) rfl ?_
          refine DrawG.fl rfl (ev_no (wantS_not' rfl rfl rfl)) rfl ?_
          refine DrawG.fl rfl (ev_no (wantS_not' rfl rfl rfl)) rfl ?_
          refine DrawG.fl rfl (ev_no (wantS_not' rfl rfl rfl)) rfl ?_
          refine DrawG.fl rfl (ev_ex wantS_none (ex_pickT' rfl rfl rfl rfl)) rfl ?_
          refine DrawG.fl rfl (ev_ex wantS_none (ex_move rfl)) rfl ?_
          refine DrawG.fl rfl (ev_no (wantS_not' rfl rfl rfl)) rfl ?_
          refine DrawG.fl rfl (ev_no (wantS_not' rfl rfl rfl)) rfl ?_
          refine DrawG.fl rfl (ev_no (wantS_not' rfl rfl rfl)) rfl ?_
          refine DrawG.fl rfl (ev_no (wantS_not' rfl rfl rfl)) rfl ?_
          refine DrawG.fl rfl (ev_no (wantS_not' rfl rfl rfl)) rfl ?_
          refine DrawG.fl rfl (ev_no (wantS_not' rfl rfl rfl)) rfl ?_
          refine DrawG.fl rfl (ev_no (wantS_not' rfl rfl rfl)) rfl ?_
          refine DrawG.fl rfl (ev_no (wantS_not' rfl rfl rfl)) rfl ?_
          refine DrawG.fl rfl (ev_no (wantS_not' rfl rfl rfl)) rfl ?_
          refine DrawG.fl rfl (ev_no (wantS_not' rfl rfl rfl)) rfl ?_
          refine DrawG.fl rfl (ev_no (wantS_not' rfl rfl rfl)) rfl ?_
          refine DrawG.fl rfl (ev_ex wantS_none (ex_pickT' rfl rfl rfl rfl)) rfl ?_
          refine DrawG.fl rfl (ev_ex wantS_none (ex_move rfl)) rfl ?_
          refine DrawG.fl rfl (ev_no (wantS_not' rfl rfl rfl)) rfl ?_
          refine DrawG.fl rfl (ev_no (wantS_not' rfl rfl rfl)) rfl ?_
          refine DrawG.fl rfl (ev_no (wantS_not' rfl rfl rfl)) rfl ?_
          refine DrawG.fl rfl (ev_no (wantS_not' rfl rfl rfl)) rfl ?_
          refine DrawG.fl rfl (ev_no (wantS_not' rfl rfl rfl)) rfl ?_
          refine DrawG.fl rfl (ev_no (wantS_not' rfl rfl rfl)) rfl ?_
          refine DrawG.fl rfl (ev_no (wantS_not' rfl rfl rfl)) rfl ?_
          refine DrawG.fl rfl (ev_no (wantS_not' rfl rfl rfl)) rfl ?_
          refine DrawG.fl rfl (ev_no (wantS_not' rfl rfl rfl)) rfl ?_
          refine DrawG.fl rfl (ev_no (wantS_not' rfl rfl rfl)) rfl ?_
          refine DrawG.fl rfl (ev_no (wantS_not' rfl rfl rfl)) rfl ?_
          refine DrawG.fl rfl (ev_ex wantS_none (ex_pickT' rfl rfl rfl rfl)) rfl ?_
          refine DrawG.sync ?_
          refine DrawG.nil ?_
          exact Run.pick [1, 3, 7, 9, 13, 14, 16, 252] (law05_RecordWithin_9_ok F hd6 hhd6 v1 v16 true c25_0 c25_1 c38_1 l30 l46 l77 l82 sv1 sc25_0 b25 s30 b38 s46 s77 s82 _ _ _ hv1 hc25_0 hH h)
        · have h := bif_f hc105 h
          refine DrawG.fl rfl (ev_ex (wantS_yes' rfl rfl hc105) (ex_move rfl)) rfl ?_
          refine DrawG.fl rfl (ev_ex (wantS_yes' rfl rfl hc105) (ex_move rfl)) rfl ?_
          refine DrawG.fl rfl (ev_ex (wantS_yes' rfl rfl hc105) (ex_sub rfl rfl)) rfl ?_
          refine DrawG.fl rfl (ev_ex (wantS_yes' rfl rfl hc105) (ex_gtr rfl rfl)) rfl ?_
          refine DrawG.fl rfl (ev_ex wantS_none (ex_pickF' rfl hc105 rfl rfl)) rfl ?_
          refine DrawG.fl rfl (ev_ex wantS_none (ex_move rfl)) rfl ?_
          rcases btf ((decide ((1 : Int) < (w64 (r97 - r95))))) with hc106 | hc106
          · have h := bif_t hc106 h
            refine DrawG.fl rfl (ev_no (wantS_not' rfl rfl hc106)) rfl ?_
            refine DrawG.fl rfl (ev_no (wantS_not' rfl rfl hc106)) rfl ?_
            refine DrawG.fl rfl (ev_no (wantS_not' rfl rfl hc106)) rfl ?_
            refine DrawG.fl rfl (ev_no (wantS_not' rfl rfl hc106)) rfl ?_
            refine DrawG.fl rfl (ev_no (wantS_not' rfl rfl hc106)) rfl ?_
            refine DrawG.fl rfl (ev_no (wantS_not' rfl rfl hc106)) rfl ?_
            refine DrawG.fl rfl (ev_no (wantS_not' rfl rfl hc106)) rfl ?_
            refine DrawG.fl rfl (ev_no (wantS_not' rfl rfl hc106)) rfl ?_
            refine DrawG.fl rfl (ev_no (wantS_not' rfl rfl hc106)) rfl ?_
            refine DrawG.fl rfl (ev_no (wantS_not' rfl rfl hc106)) rfl ?_
            refine DrawG.fl rfl (ev_no (wantS_not' rfl rfl hc106)) rfl ?_
            refine DrawG.fl rfl (ev_ex wantS_none (ex_pickT' rfl hc106 rfl rfl)) rfl ?_
            refine DrawG.fl rfl (ev_ex wantS_none (ex_move rfl)) rfl ?_
            refine DrawG.fl rfl (ev_no (wantS_not' rfl rfl rfl)) rfl ?_
            refine DrawG.fl rfl (ev_no (wantS_not' rfl rfl rfl)) rfl ?_
            refine DrawG.fl rfl (ev_no (wantS_not' rfl rfl rfl)) rfl ?_
            refine DrawG.fl rfl (ev_no (wantS_not' rfl rfl rfl)) rfl ?_
            refine DrawG.fl rfl (ev_no (wantS_not' rfl rfl rfl)) rfl ?_
            refine DrawG.fl rfl (ev_no (wantS_not' rfl rfl rfl)) rfl ?_
            refine DrawG.fl rfl (ev_no (wantS_not' rfl rfl rfl)) rfl ?_
            refine DrawG.fl rfl (ev_no (wantS_not' rfl rfl rfl)) rfl ?_
            refine DrawG.fl rfl (ev_no (wantS_not' rfl rfl rfl)) rfl ?_
            refine DrawG.fl rfl (ev_no (wantS_not' rfl rfl rfl)) rfl ?_
            refine DrawG.fl rfl (ev_no (wantS_not' rfl rfl rfl)) rfl ?_
            refine DrawG.fl rfl (ev_ex wantS_none (ex_pickT' rfl rfl rfl rfl)) rfl ?_
            refine DrawG.fl rfl (ev_ex wantS_none (ex_move rfl)) rfl ?_
            refine DrawG.fl rfl (ev_no (wantS_not' rfl rfl rfl)) rfl ?_
            refine DrawG.fl rfl (ev_no (wantS_not' rfl rfl rfl)) rfl ?_
            refine DrawG.fl rfl (ev_no (wantS_not' rfl rfl rfl)) rfl ?_
            refine DrawG.fl rfl (ev_no (wantS_not' rfl rfl rfl)) rfl ?_
            refine DrawG.fl rfl (ev_no (wantS_not' rfl rfl rfl)) rfl ?_
            refine DrawG.fl rfl (ev_no (wantS_not' rfl rfl rfl)) rfl ?_
            refine DrawG.fl rfl (ev_no (wantS_not' rfl rfl rfl)) rfl ?_
            refine DrawG.fl rfl (ev_no (wantS_not' rfl rfl rfl)) rfl ?_
            refine DrawG.fl rfl (ev_no (wantS_not' rfl rfl rfl)) rfl ?_
            refine DrawG.fl rfl (ev_no (wantS_not' rfl rfl rfl)) rfl ?_
            refine DrawG.fl rfl (ev_no (wantS_not' rfl rfl rfl)) rfl ?_
            refine DrawG.fl rfl (ev_ex wantS_none (ex_pickT' rfl rfl rfl rfl)) rfl ?_
            refine DrawG.fl rfl (ev_ex wantS_none (ex_move rfl)) rfl ?_
            refine DrawG.fl rfl (ev_no (wantS_not' rfl rfl rfl)) rfl ?_
            refine DrawG.fl rfl (ev_no (wantS_not' rfl rfl rfl)) rfl ?_
            refine DrawG.fl rfl (ev_no (wantS_not' rfl rfl rfl)) rfl ?_
            refine DrawG.fl rfl (ev_no (wantS_not' rfl rfl rfl)) rfl ?_
            refine DrawG.fl rfl (ev_no (wantS_not' rfl rfl rfl)) rfl ?_
            refine DrawG.fl rfl (ev_no (wantS_not' rfl rfl rfl)) rfl ?_
            refine DrawG.fl rfl (ev_no (wantS_not' rfl rfl rfl)) rfl ?_
            refine DrawG.fl rfl (ev_no (wantS_not' rfl rfl rfl)) rfl ?_
            refine DrawG.fl rfl (ev_no (wantS_not' rfl rfl rfl)) rfl ?_
            refine DrawG.fl rfl (ev_no (wantS_not' rfl rfl rfl)) rfl ?_
            refine DrawG.fl rfl (ev_no (wantS_not' rfl rfl rfl)) rfl ?_
            refine DrawG.fl rfl (ev_ex wantS_none (ex_pickT' rfl rfl rfl rfl)) rfl ?_
            refine DrawG.sync ?_
            refine DrawG.nil ?_
            exact Run.pick [1, 3, 7, 9, 13, 14, 16, 252] (law05_RecordWithin_9_ok F hd6 hhd6 v1 v16 true c25_0 c25_1 c38_1 l30 l46 l77 l82 sv1 sc25_0 b25 s30 b38 s46 s77 s82 _ _ _ hv1 hc25_0 hH h)
          · have h := bif_f hc106 h
            refine DrawG.fl rfl (ev_ex (wantS_yes' rfl rfl hc106) (ex_move rfl)) rfl ?_
            refine DrawG.fl rfl (ev_ex (wantS_yes' rfl rfl hc106) (ex_move rfl)) rfl ?_
            obtain ⟨x107, hx107, h⟩ := bnd_some h
            obtain ⟨p107, o107, hb107, hx107, he107⟩ := vec_elem (P := Tryz.prog) (t := 91) (kk := .i64) hH (i := 5) rfl hx107 els91
            refine DrawG.fl rfl (ev_ex (wantS_yes' rfl rfl hc106) (ex_elX rfl rfl hx107)) rfl ?_
            refine DrawG.fl rfl (ev_ex (wantS_yes' rfl rfl hc106) (ex_fieldAddr rfl off97_0)) rfl ?_
            refine DrawG.fl rfl (ev_ex (wantS_yes' rfl rfl hc106) (ex_load1 rfl ((hH.at (enc := enc97) (a := x107) (i := 5) rfl hb107 he107 enc97_len).fld (o := 0) rfl) rdLe_rfl agg3)) rfl ?_
            refine DrawG.fl rfl (ev_ex (wantS_yes' rfl rfl hc106) (ex_move rfl)) rfl ?_
            refine DrawG.fl rfl (ev_ex (wantS_yes' rfl rfl hc106) (ex_move rfl)) rfl ?_
            obtain ⟨x108, hx108, h⟩ := bnd_some h
            obtain ⟨p108, o108, hb108, hx108, he108⟩ := vec_elem (P := Tryz.prog) (t := 91) (kk := .i64) hH (i := 1) rfl hx108 els91
            refine DrawG.fl rfl (ev_ex (wantS_yes' rfl rfl hc106) (ex_elX rfl rfl hx108)) rfl ?_
            refine DrawG.fl rfl (ev_ex (wantS_yes' rfl rfl hc106) (ex_fieldAddr rfl off97_0)) rfl ?_
            refine DrawG.fl rfl (ev_ex (wantS_yes' rfl rfl hc106) (ex_load1 rfl ((hH.at (enc := enc97) (a := x108) (i := 1) rfl hb108 he108 enc97_len).fld (o := 0) rfl) rdLe_rfl agg3)) rfl ?_
            refine DrawG.fl rfl (ev_ex (wantS_yes' rfl rfl hc106) (ex_lss rfl rfl)) rfl ?_
            refine DrawG.fl rfl (ev_ex wantS_none (ex_pickF' rfl hc106 rfl rfl)) rfl ?_
            refine DrawG.fl rfl (ev_ex wantS_none (ex_move rfl)) rfl ?_
            rcases btf ((decide (x107.Low < x108.Low))) with hc109 | hc109
            · have h := bif_t hc109 h
              refine DrawG.fl rfl (ev_no (wantS_not' rfl rfl hc109)) rfl ?_
              refine DrawG.fl rfl (ev_no (wantS_not' rfl rfl hc109)) rfl ?_
              refine DrawG.fl rfl (ev_no (wantS_not' rfl rfl hc109)) rfl ?_
              refine DrawG.fl rfl (ev_no (wantS_not' rfl rfl hc109)) rfl ?_
              refine DrawG.fl rfl (ev_no (wantS_not' rfl rfl hc109)) rfl ?_
              refine DrawG.fl rfl (ev_no (wantS_not' rfl rfl hc109)) rfl ?_
              refine DrawG.fl rfl (ev_no (wantS_not' rfl rfl hc109)) rfl ?_
              refine DrawG.fl rfl (ev_no (wantS_not' rfl rfl hc109)) rfl ?_
              refine DrawG.fl rfl (ev_no (wantS_not' rfl rfl hc109)) rfl ?_
              refine DrawG.fl rfl (ev_no (wantS_not' rfl rfl hc109)) rfl ?_
              refine DrawG.fl rfl (ev_no (wantS_not' rfl rfl hc109)) rfl ?_
              refine DrawG.fl rfl (ev_ex wantS_none (ex_pickT' rfl hc109 rfl rfl)) rfl ?_
              refine DrawG.fl rfl (ev_ex wantS_none (ex_move rfl)) rfl ?_
              refine DrawG.fl rfl (ev_no (wantS_not' rfl rfl rfl)) rfl ?_
              refine DrawG.fl rfl (ev_no (wantS_not' rfl rfl rfl)) rfl ?_
              refine DrawG.fl rfl (ev_no (wantS_not' rfl rfl rfl)) rfl ?_
              refine DrawG.fl rfl (ev_no (wantS_not' rfl rfl rfl)) rfl ?_
              refine DrawG.fl rfl (ev_no (wantS_not' rfl rfl rfl)) rfl ?_
              refine DrawG.fl rfl (ev_no (wantS_not' rfl rfl rfl)) rfl ?_
              refine DrawG.fl rfl (ev_no (wantS_not' rfl rfl rfl)) rfl ?_
              refine DrawG.fl rfl (ev_no (wantS_not' rfl rfl rfl)) rfl ?_
              refine DrawG.fl rfl (ev_no (wantS_not' rfl rfl rfl)) rfl ?_
              refine DrawG.fl rfl (ev_no (wantS_not' rfl rfl rfl)) rfl ?_
              refine DrawG.fl rfl (ev_no (wantS_not' rfl rfl rfl)) rfl ?_
              refine DrawG.fl rfl (ev_ex wantS_none (ex_pickT' rfl rfl rfl rfl)) rfl ?_
              refine DrawG.fl rfl (ev_ex wantS_none (ex_move rfl)) rfl ?_
              refine DrawG.fl rfl (ev_no (wantS_not' rfl rfl rfl)) rfl ?_
              refine DrawG.fl rfl (ev_no (wantS_not' rfl rfl rfl)) rfl ?_
              refine DrawG.fl rfl (ev_no (wantS_not' rfl rfl rfl)) rfl ?_
              refine DrawG.fl rfl (ev_no (wantS_not' rfl rfl rfl)) rfl ?_
              refine DrawG.fl rfl (ev_no (wantS_not' rfl rfl rfl)) rfl ?_
              refine DrawG.fl rfl (ev_no (wantS_not' rfl rfl rfl)) rfl ?_
              refine DrawG.fl rfl (ev_no (wantS_not' rfl rfl rfl)) rfl ?_
              refine DrawG.fl rfl (ev_no (wantS_not' rfl rfl rfl)) rfl ?_
              refine DrawG.fl rfl (ev_no (wantS_not' rfl rfl rfl)) rfl ?_
              refine DrawG.fl rfl (ev_no (wantS_not' rfl rfl rfl)) rfl ?_
              refine DrawG.fl rfl (ev_no (wantS_not' rfl rfl rfl)) rfl ?_
              refine DrawG.fl rfl (ev_ex wantS_none (ex_pickT' rfl rfl rfl rfl)) rfl ?_
              refine DrawG.sync ?_
              refine DrawG.nil ?_
              exact Run.pick [1, 3, 7, 9, 13, 14, 16, 252] (law05_RecordWithin_9_ok F hd6 hhd6 v1 v16 true c25_0 c25_1 c38_1 l30 l46 l77 l82 sv1 sc25_0 b25 s30 b38 s46 s77 s82 _ _ _ hv1 hc25_0 hH h)
            · have h := bif_f hc109 h
              refine DrawG.fl rfl (ev_ex (wantS_yes' rfl rfl hc109) (ex_move rfl)) rfl ?_
              refine DrawG.fl rfl (ev_ex (wantS_yes' rfl rfl hc109) (ex_move rfl)) rfl ?_
              obtain ⟨x110, hx110, h⟩ := bnd_some h
              obtain ⟨p110, o110, hb110, hx110, he110⟩ := vec_elem (P := Tryz.prog) (t := 91) (kk := .i64) hH (i := 5) rfl hx110 els91
              refine DrawG.fl rfl (ev_ex (wantS_yes' rfl rfl hc109) (ex_elX rfl rfl hx110)) rfl ?_
              refine DrawG.fl rfl (ev_ex (wantS_yes' rfl rfl hc109) (ex_fieldAddr rfl off97_1)) rfl ?_
              refine DrawG.fl rfl (ev_ex (wantS_yes' rfl rfl hc109) (ex_load1 rfl ((hH.at (enc := enc97) (a := x110) (i := 5) rfl hb110 he110 enc97_len).fld (o := 1) rfl) rdLe_rfl agg3)) rfl ?_
              refine DrawG.fl rfl (ev_ex (wantS_yes' rfl rfl hc109) (ex_move rfl)) rfl ?_
              refine DrawG.fl rfl (ev_ex (wantS_yes' rfl rfl hc109) (ex_move rfl)) rfl ?_
              obtain ⟨x111, hx111, h⟩ := bnd_some h
              obtain ⟨p111, o111, hb111, hx111, he111⟩ := vec_elem (P := Tryz.prog) (t := 91) (kk := .i64) hH (i := 1) rfl hx111 els91
              refine DrawG.fl rfl (ev_ex (wantS_yes' rfl rfl hc109) (ex_elX rfl rfl hx111)) rfl ?_
              refine DrawG.fl rfl (ev_ex (wantS_yes' rfl rfl hc109) (ex_fieldAddr rfl off97_1)) rfl ?_
              refine DrawG.fl rfl (ev_ex (wantS_yes' rfl rfl hc109) (ex_load1 rfl ((hH.at (enc := enc97) (a := x111) (i := 1) rfl hb111 he111 enc97_len).fld (o := 1) rfl) rdLe_rfl agg3)) rfl ?_
              refine DrawG.fl rfl (ev_ex (wantS_yes' rfl rfl hc109) (ex_gtr rfl rfl)) rfl ?_
              refine DrawG.fl rfl (ev_ex wantS_none (ex_pickF' rfl hc109 rfl rfl)) rfl ?_
              refine DrawG.fl rfl (ev_ex wantS_none (ex_move rfl)) rfl ?_
              rcases btf ((decide (x111.High < x110.High))) with hc112 | hc112
              · have h := bif_t hc112 h
                refine DrawG.fl rfl (ev_no (wantS_not' rfl rfl hc112)) rfl ?_
                refine DrawG.fl rfl (ev_no (wantS_not' rfl rfl hc112)) rfl ?_
                refine DrawG.fl rfl (ev_no (wantS_not' rfl rfl hc112)) rfl ?_
                refine DrawG.fl rfl (ev_no (wantS_not' rfl rfl hc112)) rfl ?_
                refine DrawG.fl rfl (ev_no (wantS_not' rfl rfl hc112)) rfl ?_
                refine DrawG.fl rfl (ev_no (wantS_not' rfl rfl hc112)) rfl ?_
                refine DrawG.fl rfl (ev_no (wantS_not' rfl rfl hc112)) rfl ?_
                refine DrawG.fl rfl (ev_no (wantS_not' rfl rfl hc112)) rfl ?_
                refine DrawG.fl rfl (ev_no (wantS_not' rfl rfl hc112)) rfl ?_
                refine DrawG.fl rfl (ev_no (wantS_not' rfl rfl hc112)) rfl ?_
                refine DrawG.fl rfl (ev_no (wantS_not' rfl rfl hc112)) rfl ?_
                refine DrawG.fl rfl (ev_ex wantS_none (ex_pickT' rfl hc112 rfl rfl)) rfl ?_
                refine DrawG.fl rfl (ev_ex wantS_none (ex_move rfl)) rfl ?_
                refine DrawG.fl rfl (ev_no (wantS_not' rfl rfl rfl)) rfl ?_
                refine DrawG.fl rfl (ev_no (wantS_not' rfl rfl rfl)) rfl ?_
                refine DrawG.fl rfl (ev_no (wantS_not' rfl rfl rfl)) rfl ?_
                refine DrawG.fl rfl (ev_no (wantS_not' rfl rfl rfl)) rfl ?_
                refine DrawG.fl rfl (ev_no (wantS_not' rfl rfl rfl)) rfl ?_
                refine DrawG.fl rfl (ev_no (wantS_not' rfl rfl rfl)) rfl ?_
                refine DrawG.fl rfl (ev_no (wantS_not' rfl rfl rfl)) rfl ?_
                refine DrawG.fl rfl (ev_no (wantS_not' rfl rfl rfl)) rfl ?_
                refine DrawG.fl rfl (ev_no (wantS_not' rfl rfl rfl)) rfl ?_
                refine DrawG.fl rfl (ev_no (wantS_not' rfl rfl rfl)) rfl ?_
                refine DrawG.fl rfl (ev_no (wantS_not' rfl rfl rfl)) rfl ?_
                refine DrawG.fl rfl (ev_ex wantS_none (ex_pickT' rfl rfl rfl rfl)) rfl ?_
                refine DrawG.sync ?_
                refine DrawG.nil ?_
                exact Run.pick [1, 3, 7, 9, 13, 14, 16, 252] (law05_RecordWithin_9_ok F hd6 hhd6 v1 v16 true c25_0 c25_1 c38_1 l30 l46 l77 l82 sv1 sc25_0 b25 s30 b38 s46 s77 s82 _ _ _ hv1 hc25_0 hH h)
              · have h := bif_f hc112 h
                refine DrawG.fl rfl (ev_ex (wantS_yes' rfl rfl hc112) (ex_move rfl)) rfl ?_
                refine DrawG.fl rfl (ev_ex (wantS_yes' rfl rfl hc112) (ex_move rfl)) rfl ?_
                obtain ⟨x113, hx113, h⟩ := bnd_some h
                obtain ⟨p113, o113, hb113, hx113, he113⟩ := vec_elem (P := Tryz.prog) (t := 91) (kk := .i64) hH (i := 5) rfl hx113 els91
                refine DrawG.fl rfl (ev_ex (wantS_yes' rfl rfl hc112) (ex_elX rfl rfl hx113)) rfl ?_
                refine DrawG.fl rfl (ev_ex (wantS_yes' rfl rfl hc112) (ex_fieldAddr rfl off97_0)) rfl ?_
                refine DrawG.fl rfl (ev_ex (wantS_yes' rfl rfl hc112) (ex_load1 rfl ((hH.at (enc := enc97) (a := x113) (i := 5) rfl hb113 he113 enc97_len).fld (o := 0) rfl) rdLe_rfl agg3)) rfl ?_
                refine DrawG.fl rfl (ev_ex (wantS_yes' rfl rfl hc112) (ex_move rfl)) rfl ?_
                refine DrawG.fl rfl (ev_ex (wantS_yes' rfl rfl hc112) (ex_move rfl)) rfl ?_
                obtain ⟨x114, hx114, h⟩ := bnd_some h
                obtain ⟨p114, o114, hb114, hx114, he114⟩ := vec_elem (P := Tryz.prog) (t := 91) (kk := .i64) hH (i := 4) rfl hx114 els91
                refine DrawG.fl rfl (ev_ex (wantS_yes' rfl rfl hc112) (ex_elX rfl rfl hx114)) rfl ?_
                refine DrawG.fl rfl (ev_ex (wantS_yes' rfl rfl hc112) (ex_fieldAddr rfl off97_0)) rfl ?_
                refine DrawG.fl rfl (ev_ex (wantS_yes' rfl rfl hc112) (ex_load1 rfl ((hH.at (enc := enc97) (a := x114) (i := 4) rfl hb114 he114 enc97_len).fld (o := 0) rfl) rdLe_rfl agg3)) rfl ?_
                refine DrawG.fl rfl (ev_ex (wantS_yes' rfl rfl hc112) (ex_gtr rfl rfl)) rfl ?_
                refine DrawG.fl rfl (ev_ex wantS_none (ex_pickF' rfl hc112 rfl rfl)) rfl ?_
                refine DrawG.fl rfl (ev_ex wantS_none (ex_move rfl)) rfl ?_
                rcases btf ((decide (x114.Low < x113.Low))) with hc115 | hc115
                · have h := bif_t hc115 h
                  refine DrawG.fl rfl (ev_no (wantS_not' rfl rfl hc115)) rfl ?_
                  refine DrawG.fl rfl (ev_no (wantS_not' rfl rfl hc115)) rfl ?_
                  refine DrawG.fl rfl (ev_no (wantS_not' rfl rfl hc115)) rfl ?_
                  refine DrawG.fl rfl (ev_no (wantS_not' rfl rfl hc115)) rfl ?_
                  refine DrawG.fl rfl (ev_no (wantS_not' rfl rfl hc115)) rfl ?_
                  refine DrawG.fl rfl (ev_no (wantS_not' rfl rfl hc115)) rfl ?_
                  refine DrawG.fl rfl (ev_no (wantS_not' rfl rfl hc115)) rfl ?_
                  refine DrawG.fl rfl (ev_no (wantS_not' rfl rfl hc115)) rfl ?_
                  refine DrawG.fl rfl (ev_no (wantS_not' rfl rfl hc115)) rfl ?_
                  refine DrawG.fl rfl (ev_no (wantS_not' rfl rfl hc115)) rfl ?_
                  refine DrawG.fl rfl (ev_no (wantS_not' rfl rfl hc115)) rfl ?_
                  refine DrawG.fl rfl (ev_ex wantS_none (ex_pickT' rfl hc115 rfl rfl)) rfl ?_
                  refine DrawG.sync ?_
                  refine DrawG.nil ?_
                  exact Run.pick [1, 3, 7, 9, 13, 14, 16, 252] (law05_RecordWithin_9_ok F hd6 hhd6 v1 v16 true c25_0 c25_1 c38_1 l30 l46 l77 l82 sv1 sc25_0 b25 s30 b38 s46 s77 s82 _ _ _ hv1 hc25_0 hH h)
                · have h := bif_f hc115 h
                  refine DrawG.fl rfl (ev_ex (wantS_yes' rfl rfl hc115) (ex_move rfl)) rfl ?_
                  refine DrawG.fl rfl (ev_ex (wantS_yes' rfl rfl hc115) (ex_move rfl)) rfl ?_
                  obtain ⟨x116, hx116, h⟩ := bnd_some h
                  obtain ⟨p116, o116, hb116, hx116, he116⟩ := vec_elem (P := Tryz.prog) (t := 91) (kk := .i64) hH (i := 5) rfl hx116 els91
                  refine DrawG.fl rfl (ev_ex (wantS_yes' rfl rfl hc115) (ex_elX rfl rfl hx116)) rfl ?_
                  refine DrawG.fl rfl (ev_ex (wantS_yes' rfl rfl hc115) (ex_fieldAddr rfl off97_1)) rfl ?_
                  refine DrawG.fl rfl (ev_ex (wantS_yes' rfl rfl hc115) (ex_load1 rfl ((hH.at (enc := enc97) (a := x116) (i := 5) rfl hb116 he116 enc97_len).fld (o := 1) rfl) rdLe_rfl agg3)) rfl ?_
                  refine DrawG.fl rfl (ev_ex (wantS_yes' rfl rfl hc115) (ex_move rfl)) rfl ?_
                  refine DrawG.fl rfl (ev_ex (wantS_yes' rfl rfl hc115) (ex_move rfl)) rfl ?_
                  obtain ⟨x117, hx117, h⟩ := bnd_some h
                  obtain ⟨p117, o117, hb117, hx117, he117⟩ := vec_elem (P := Tryz.prog) (t := 91) (kk := .i64) hH (i := 4) rfl hx117 els91
                  refine DrawG.fl rfl (ev_ex (wantS_yes' rfl rfl hc115) (ex_elX rfl rfl hx117)) rfl ?_
                  refine DrawG.fl rfl (ev_ex (wantS_yes' rfl rfl hc115) (ex_fieldAddr rfl off97_1)) rfl ?_
                  refine DrawG.fl rfl (ev_ex (wantS_yes' rfl rfl hc115) (ex_load1 rfl ((hH.at (enc := enc97) (a := x117) (i := 4) rfl hb117 he117 enc97_len).fld (o := 1) rfl) rdLe_rfl agg3)) rfl ?_
                  refine DrawG.fl rfl (ev_ex (wantS_yes' rfl rfl hc115) (ex_lss rfl rfl)) rfl ?_
                  refine DrawG.fl rfl (ev_ex wantS_none (ex_pickF' rfl hc115 rfl rfl)) rfl ?_
                  refine DrawG.sync ?_
                  refine DrawG.nil ?_
                  exact Run.pick [1, 3, 7, 9, 13, 14, 16, 252] (law05_RecordWithin_9_ok F hd6 hhd6 v1 v16 (decide (x116.High < x117.High)) c25_0 c25_1 c38_1 l30 l46 l77 l82 sv1 sc25_0 b25 s30 b38 s46 s77 s82 _ _ _ hv1 hc25_0 hH h)

def law05_RecordWithin_7 (F : Nat) (hd6 : (List Int) → Int → (List S_api_Tap) → Int → Int → (List S_api_Tap) → (List S_api_Tap) → (List S_api_Tap) → (List S_api_Tap) → Option (Bool)) : Nat → (List Int) → Int → Int → Int → (List S_api_Tap) → Int → Int → (List S_api_Tap) → (List S_api_Tap) → (List S_api_Tap) → (List S_api_Tap) → Option (Bool)
  | 0, _, _, _, _, _, _, _, _, _, _, _ => none
  | N + 1, v1, v16, v17, v18, c25_0, c25_1, c38_1, l30, l46, l77, l82 =>
    bif (decide (v18 < (l46.length : Int))) then
      law05_RecordWithin_8 F hd6 (law05_RecordWithin_7 F hd6 N) v1 v16 v17 v18 (decide (v18 ≤ v16)) c25_0 c25_1 c38_1 l30 l46 l77 l82
    else
      law05_RecordWithin_8 F hd6 (law05_RecordWithin_7 F hd6 N) v1 v16 v17 v18 false c25_0 c25_1 c38_1 l30 l46 l77 l82

theorem law05_RecordWithin_7_ok (F : Nat) (hd6 : (List Int) → Int → (List S_api_Tap) → Int → Int → (List S_api_Tap) → (List S_api_Tap) → (List S_api_Tap) → (List S_api_Tap) → Option (Bool)) (hhd6 : ∀ (v1 : (List Int)) (v16 : Int) (c25_0 : (List S_api_Tap)) (c25_1 : Int) (c38_1 : Int) (l30 : (List S_api_Tap)) (l46 : (List S_api_Tap)) (l77 : (List S_api_Tap)) (l82 : (List S_api_Tap)) (sv1 : SV) (sc25_0 : SV) (b25 : Pos) (s30 : SV) (b38 : Pos) (s46 : SV) (s77 : SV) (s82 : SV) (Fr : Rd) (M : Mem) (r : Bool) (hv1 : Slc Fr 1 (FlatR enc3) sv1 v1) (hc25_0 : Slc Fr 2 (FlatR enc96) sc25_0 c25_0) (hH : Has Fr M [.obj b25 (.row 90 .whole [sc25_0, (.int .i64 c25_1)]), .vec 97 2 l30.length s30 (l30.flatMap enc97), .obj b38 (.row 90 .whole [s46, (.int .i64 c38_1)]), .vec 96 2 l46.length s46 (l46.flatMap enc96), .vec 97 2 l77.length s77 (l77.flatMap enc97), .vec 97 2 l82.length s82 (l82.flatMap enc97), tb0, tb1, tb2]), hd6 v1 v16 c25_0 c25_1 c38_1 l30 l46 l77 l82 = some r → Run Tryz.prog ⟨⟨9, [], none⟩, []⟩ 254 (law05_RecordWithin_post r) [(1, sv1), (3, (.ptr b25 0)), (7, s30), (9, (.ptr b38 0)), (13, s77), (14, s82), (16, (.int .i64 v16))] [codeC Tryz.prog 9 [1, 1, 1, 1, 1, 1, 1, 1, 1, 0, 1, 0, 0], loopC Tryz.prog 9 [1, 1, 1, 1, 1, 1, 1, 1, 1, 0, 1, 0, 0], .inBlock 2, codeC Tryz.prog 9 [1, 1, 1, 1, 1, 1, 1, 1, 1, 1]] M) : ∀ (N : Nat), ∀ (v1 : (List Int)) (v16 : Int) (v17 : Int) (v18 : Int) (c25_0 : (List S_api_Tap)) (c25_1 : Int) (c38_1 : Int) (l30 : (List S_api_Tap)) (l46 : (List S_api_Tap)) (l77 : (List S_api_Tap)) (l82 : (List S_api_Tap)) (sv1 : SV) (sc25_0 : SV) (b25 : Pos) (s30 : SV) (b38 : Pos) (s46 : SV) (s77 : SV) (s82 : SV) (Fr : Rd) (M : Mem) (r : Bool) (hv1 : Slc Fr 1 (FlatR enc3) sv1 v1) (hc25_0 : Slc Fr 2 (FlatR enc96) sc25_0 c25_0) (hH : Has Fr M [.obj b25 (.row 90 .whole [sc25_0, (.int .i64 c25_1)]), .vec 97 2 l30.length s30 (l30.flatMap enc97), .obj b38 (.row 90 .whole [s46, (.int .i64 c38_1)]), .vec 96 2 l46.length s46 (l46.flatMap enc96), .vec 97 2 l77.length s77 (l77.flatMap enc97), .vec 97 2 l82.length s82 (l82.flatMap enc97), tb0, tb1, tb2]), law05_RecordWithin_7 F hd6 N v1 v16 v17 v18 c25_0 c25_1 c38_1 l30 l46 l77 l82 = some r → Run Tryz.prog ⟨⟨9, [], none⟩, []⟩ 254 (law05_RecordWithin_post r) [(1, sv1), (3, (.ptr b25 0)), (7, s30), (9, (.ptr b38 0)), (13, s77), (14, s82), (16, (.int .i64 v16)), (17, (.int .i64 v17)), (18, (.int .i64 v18))] [codeC Tryz.prog 9 [1, 1, 1, 1, 1, 1, 1, 1, 1, 0, 1, 0, 0, 1, 0, 0, 1, 0, 1, 0, 0], loopC Tryz.prog 9 [1, 1, 1, 1, 1, 1, 1, 1, 1, 0, 1, 0, 0, 1, 0, 0, 1, 0, 1, 0, 0], .inBlock 4, codeC Tryz.prog 9 [1, 1, 1, 1, 1, 1, 1, 1, 1, 0, 1, 0, 0, 1, 0, 0, 1, 1], .inBlock 3, codeC Tryz.prog 9 [1, 1, 1, 1, 1, 1, 1, 1, 1, 0, 1, 0, 0, 1, 1], loopC Tryz.prog 9 [1, 1, 1, 1, 1, 1, 1, 1, 1, 0, 1, 0, 0], .inBlock 2, codeC Tryz.prog 9 [1, 1, 1, 1, 1, 1, 1, 1, 1, 1]] M := by
  intro N
  induction N with
  | zero =>
    intro v1 v16 v17 v18 c25_0 c25_1 c38_1 l30 l46 l77 l82 sv1 sc25_0 b25 s30 b38 s46 s77 s82 Fr M r hv1 hc25_0 hH h
    simp [law05_RecordWithin_7] at h
  | succ N ih =>
    intro v1 v16 v17 v18 c25_0 c25_1 c38_1 l30 l46 l77 l82 sv1 sc25_0 b25 s30 b38 s46 s77 s82 Fr M r hv1 hc25_0 hH h
    rw [law05_RecordWithin_7] at h
    refine Run.seq (Run.seq (Run.region ?_))
    refine Run.opG wantS_none (ex_move rfl) rfl ?_
    refine Run.opG wantS_none (ex_fieldAddr rfl off90_0) rfl ?_
    refine Run.opG wantS_none (ex_load1 rfl (hH.cells (i := 2) rfl 0 rfl) rdLe_rfl agg88) rfl ?_
    refine Run.opG wantS_none (ex_len' rfl (hH.slc (i := 3) rfl enc96_len) lenk88) rfl ?_
    refine Run.opG wantS_none (ex_lss rfl rfl) rfl ?_
    refine Run.opG wantS_none (ex_move rfl) rfl ?_
    rcases btf ((decide (v18 < (l46.length : Int)))) with hc89 | hc89
    · have h := bif_t hc89 h
      refine Run.opG (wantS_yes' rfl rfl hc89) (ex_move rfl) rfl ?_
      refine Run.opG (wantS_yes' rfl rfl hc89) (ex_move rfl) rfl ?_
      refine Run.opG (wantS_yes' rfl rfl hc89) (ex_leq rfl rfl) rfl ?_
      refine Run.opG wantS_none (ex_pickT' rfl hc89 rfl rfl) rfl ?_
      refine Run.opsEnd ?_
      exact Run.pick [1, 3, 7, 9, 13, 14, 16, 17, 18, 141] (law05_RecordWithin_8_ok F hd6 hhd6 (law05_RecordWithin_7 F hd6 N) ih v1 v16 v17 v18 (decide (v18 ≤ v16)) c25_0 c25_1 c38_1 l30 l46 l77 l82 sv1 sc25_0 b25 s30 b38 s46 s77 s82 _ _ _ hv1 hc25_0 hH h)
    · have h := bif_f hc89 h
      refine Run.no (wantS_not' rfl rfl hc89) rfl ?_
      refine Run.no (wantS_not' rfl rfl hc89) rfl ?_
      refine Run.no (wantS_not' rfl rfl hc89) rfl ?_
      refine Run.opG wantS_none (ex_pickF' rfl hc89 rfl rfl) rfl ?_
      refine Run.opsEnd ?_
      exact Run.pick [1, 3, 7, 9, 13, 14, 16, 17, 18, 141] (law05_RecordWithin_8_ok F hd6 hhd6 (law05_RecordWithin_7 F hd6 N) ih v1 v16 v17 v18 false c25_0 c25_1 c38_1 l30 l46 l77 l82 sv1 sc25_0 b25 s30 b38 s46 s77 s82 _ _ _ hv1 hc25_0 hH h)

def law05_RecordWithin_6 (F : Nat) : Nat → (List Int) → Int → (List S_api_Tap) → Int → Int → (List S_api_Tap) → (List S_api_Tap) → (List S_api_Tap) → (List S_api_Tap) → Option (Bool)
  | 0, _, _, _, _, _, _, _, _, _ => none
  | N + 1, v1, v16, c25_0, c25_1, c38_1, l30, l46, l77, l82 =>
    bif (decide (v16 < (v1.length : Int))) then
      law05_RecordWithin_7 F (law05_RecordWithin_6 F N) F v1 v16 (0 : Int) (0 : Int) c25_0 c25_1 c38_1 l30 l46 l77 l82
    else
      bnd (works F) fun r119 =>
      some r119

theorem law05_RecordWithin_6_ok (F : Nat) : ∀ (N : Nat), ∀ (v1 : (List Int)) (v16 : Int) (c25_0 : (List S_api_Tap)) (c25_1 : Int) (c38_1 : Int) (l30 : (List S_api_Tap)) (l46 : (List S_api_Tap)) (l77 : (List S_api_Tap)) (l82 : (List S_api_Tap)) (sv1 : SV) (sc25_0 : SV) (b25 : Pos) (s30 : SV) (b38 : Pos) (s46 : SV) (s77 : SV) (s82 : SV) (Fr : Rd) (M : Mem) (r : Bool) (hv1 : Slc Fr 1 (FlatR enc3) sv1 v1) (hc25_0 : Slc Fr 2 (FlatR enc96) sc25_0 c25_0) (hH : Has Fr M [.obj b25 (.row 90 .whole [sc25_0, (.int .i64 c25_1)]), .vec 97 2 l30.length s30 (l30.flatMap enc97), .obj b38 (.row 90 .whole [s46, (.int .i64 c38_1)]), .vec 96 2 l46.length s46 (l46.flatMap enc96), .vec 97 2 l77.length s77 (l77.flatMap enc97), .vec 97 2 l82.length s82 (l82.flatMap enc97), tb0, tb1, tb2]), law05_RecordWithin_6 F N v1 v16 c25_0 c25_1 c38_1 l30 l46 l77 l82 = some r → Run Tryz.prog ⟨⟨9, [], none⟩, []⟩ 254 (law05_RecordWithin_post r) [(1, sv1), (3, (.ptr b25 0)), (7, s30), (9, (.ptr b38 0)), (13, s77), (14, s82), (16, (.int .i64 v16))] [codeC Tryz.prog 9 [1, 1, 1, 1, 1, 1, 1, 1, 1, 0, 1, 0, 0], loopC Tryz.prog 9 [1, 1, 1, 1, 1, 1, 1, 1, 1, 0, 1, 0, 0], .inBlock 2, codeC Tryz.prog 9 [1, 1, 1, 1, 1, 1, 1, 1, 1, 1]] M := by
  intro N
  induction N with
  | zero =>
    intro v1 v16 c25_0 c25_1 c38_1 l30 l46 l77 l82 sv1 sc25_0 b25 s30 b38 s46 s77 s82 Fr M r hv1 hc25_0 hH h
    simp [law05_RecordWithin_6] at h
  | succ N ih =>
    intro v1 v16 c25_0 c25_1 c38_1 l30 l46 l77 l82 sv1 sc25_0 b25 s30 b38 s46 s77 s82 Fr M r hv1 hc25_0 hH h
    rw [law05_RecordWithin_6] at h
    refine Run.seq (Run.seq (Run.region ?_))
    refine Run.opG wantS_none (ex_move rfl) rfl ?_
    refine Run.opG wantS_none (ex_move rfl) rfl ?_
    refine Run.opG wantS_none (ex_len' rfl hv1 lenk26) rfl ?_
    refine Run.opG wantS_none (ex_lss rfl rfl) rfl ?_
    refine Run.opsEnd ?_
    rcases btf ((decide (v16 < (v1.length : Int)))) with hc88 | hc88
    · have h := bif_t hc88 h
      refine Run.condT' rfl hc88 ?_
      refine Run.skip (Run.seq (Run.block (Run.seq (Run.region ?_))))
      refine Run.opG wantS_none (ex_assign rfl) rfl ?_
      refine Run.opsEnd (Run.seq (Run.seq (Run.region ?_)))
      refine Run.opG wantS_none (ex_assign rfl) rfl ?_
      refine Run.opsEnd (Run.block (Run.loop ?_))
      exact Run.pick [1, 3, 7, 9, 13, 14, 16, 17, 18] (law05_RecordWithin_7_ok F (law05_RecordWithin_6 F N) ih F v1 v16 (0 : Int) (0 : Int) c25_0 c25_1 c38_1 l30 l46 l77 l82 sv1 sc25_0 b25 s30 b38 s46 s77 s82 _ _ _ hv1 hc25_0 hH h)
    · have h := bif_f hc88 h
      refine Run.condF' rfl hc88 ?_
      refine Run.exit rfl (Run.seq (Run.region ?_))
      obtain ⟨r119, hr119, h⟩ := bnd_some h
      refine Run.callP wantS_none (ex_call rfl mkk29 cal29) rfl (works_ok F r119 _ hH (List.mem_of_getElem? (i := 6) rfl) (List.mem_of_getElem? (i := 7) rfl) (List.mem_of_getElem? (i := 8) rfl) hr119) ?_
      refine Run.opG wantS_none (ex_assign rfl) rfl ?_
      refine Run.opsEnd ?_
      cases h
      exact Run.ret Tryz.func9 rfl (res_tmp rfl res_nil) rfl

def law05_RecordWithin_5 (F : Nat) (v1 : (List Int)) (v125 : Bool) (c25_0 : (List S_api_Tap)) (c25_1 : Int) (c38_1 : Int) (l30 : (List S_api_Tap)) (l46 : (List S_api_Tap)) (l77 : (List S_api_Tap)) (l82 : (List S_api_Tap)) : Option (Bool) :=
  bif v125 then
    some false
  else
    law05_RecordWithin_6 F F v1 (0 : Int) c25_0 c25_1 c38_1 l30 l46 l77 l82

theorem law05_RecordWithin_5_ok (F : Nat) : ∀ (v1 : (List Int)) (v125 : Bool) (c25_0 : (List S_api_Tap)) (c25_1 : Int) (c38_1 : Int) (l30 : (List S_api_Tap)) (l46 : (List S_api_Tap)) (l77 : (List S_api_Tap)) (l82 : (List S_api_Tap)) (sv1 : SV) (sc25_0 : SV) (b25 : Pos) (s30 : SV) (b38 : Pos) (s46 : SV) (s77 : SV) (s82 : SV) (Fr : Rd) (M : Mem) (r : Bool) (hv1 : Slc Fr 1 (FlatR enc3) sv1 v1) (hc25_0 : Slc Fr 2 (FlatR enc96) sc25_0 c25_0) (hH : Has Fr M [.obj b25 (.row 90 .whole [sc25_0, (.int .i64 c25_1)]), .vec 97 2 l30.length s30 (l30.flatMap enc97), .obj b38 (.row 90 .whole [s46, (.int .i64 c38_1)]), .vec 96 2 l46.length s46 (l46.flatMap enc96), .vec 97 2 l77.length s77 (l77.flatMap enc97), .vec 97 2 l82.length s82 (l82.flatMap enc97), tb0, tb1, tb2]), law05_RecordWithin_5 F v1 v125 c25_0 c25_1 c38_1 l30 l46 l77 l82 = some r → Run Tryz.prog ⟨⟨9, [], none⟩, []⟩ 254 (law05_RecordWithin_post r) [(1, sv1), (3, (.ptr b25 0)), (7, s30), (9, (.ptr b38 0)), (13, s77), (14, s82), (125, (.bool v125))] [codeC Tryz.prog 9 [1, 1, 1, 1, 1, 1, 1, 1, 0, 1], codeC Tryz.prog 9 [1, 1, 1, 1, 1, 1, 1, 1, 1]] M := by
  intro v1 v125 c25_0 c25_1 c38_1 l30 l46 l77 l82 sv1 sc25_0 b25 s30 b38 s46 s77 s82 Fr M r hv1 hc25_0 hH h
  rw [law05_RecordWithin_5] at h
  rcases btf (v125) with hc87 | hc87
  · have h := bif_t hc87 h
    refine Run.condT' rfl hc87 ?_
    refine Run.seq (Run.region ?_)
    refine Run.opG wantS_none (ex_assign rfl) rfl ?_
    refine Run.opsEnd ?_
    cases h
    exact Run.ret Tryz.func9 rfl (res_tmp rfl res_nil) rfl
  · have h := bif_f hc87 h
    refine Run.condF' rfl hc87 ?_
    refine Run.skip (Run.seq (Run.seq (Run.region ?_)))
    refine Run.opG wantS_none (ex_assign rfl) rfl ?_
    refine Run.opsEnd (Run.block (Run.loop ?_))
    exact Run.pick [1, 3, 7, 9, 13, 14, 16] (law05_RecordWithin_6_ok F F v1 (0 : Int) c25_0 c25_1 c38_1 l30 l46 l77 l82 sv1 sc25_0 b25 s30 b38 s46 s77 s82 _ _ _ hv1 hc25_0 hH h)

def law05_RecordWithin_4 (F : Nat) (v1 : (List Int)) (v118 : Bool) (c25_0 : (List S_api_Tap)) (c25_1 : Int) (c38_1 : Int) (l30 : (List S_api_Tap)) (l46 : (List S_api_Tap)) (l77 : (List S_api_Tap)) (l82 : (List S_api_Tap)) : Option (Bool) :=
  bif v118 then
    law05_RecordWithin_5 F v1 true c25_0 c25_1 c38_1 l30 l46 l77 l82
  else
    law05_RecordWithin_5 F v1 (!((l82.length : Int) == (v1.length : Int))) c25_0 c25_1 c38_1 l30 l46 l77 l82

theorem law05_RecordWithin_4_ok (F : Nat) : ∀ (v1 : (List Int)) (v118 : Bool) (c25_0 : (List S_api_Tap)) (c25_1 : Int) (c38_1 : Int) (l30 : (List S_api_Tap)) (l46 : (List S_api_Tap)) (l77 : (List S_api_Tap)) (l82 : (List S_api_Tap)) (sv1 : SV) (sc25_0 : SV) (b25 : Pos) (s30 : SV) (b38 : Pos) (s46 : SV) (s77 : SV) (s82 : SV) (Fr : Rd) (M : Mem) (r : Bool) (hv1 : Slc Fr 1 (FlatR enc3) sv1 v1) (hc25_0 : Slc Fr 2 (FlatR enc96) sc25_0 c25_0) (hH : Has Fr M [.obj b25 (.row 90 .whole [sc25_0, (.int .i64 c25_1)]), .vec 97 2 l30.length s30 (l30.flatMap enc97), .obj b38 (.row 90 .whole [s46, (.int .i64 c38_1)]), .vec 96 2 l46.length s46 (l46.flatMap enc96), .vec 97 2 l77.length s77 (l77.flatMap enc97), .vec 97 2 l82.length s82 (l82.flatMap enc97), tb0, tb1, tb2]), law05_RecordWithin_4 F v1 v118 c25_0 c25_1 c38_1 l30 l46 l77 l82 = some r → Run Tryz.prog ⟨⟨9, [], none⟩, []⟩ 254 (law05_RecordWithin_post r) [(1, sv1), (3, (.ptr b25 0)), (7, s30), (9, (.ptr b38 0)), (13, s77), (14, s82), (118, (.bool v118))] [itemC Tryz.prog 9 [1, 1, 1, 1, 1, 1, 1, 1, 0, 0] 13, codeC Tryz.prog 9 [1, 1, 1, 1, 1, 1, 1, 1, 0, 1], codeC Tryz.prog 9 [1, 1, 1, 1, 1, 1, 1, 1, 1]] M := by
  intro v1 v118 c25_0 c25_1 c38_1 l30 l46 l77 l82 sv1 sc25_0 b25 s30 b38 s46 s77 s82 Fr M r hv1 hc25_0 hH h
  rw [law05_RecordWithin_4] at h
  refine Run.opG wantS_none (ex_move rfl) rfl ?_
  rcases btf (v118) with hc86 | hc86
  · have h := bif_t hc86 h
    refine Run.no (wantS_not' rfl rfl hc86) rfl ?_
    refine Run.no (wantS_not' rfl rfl hc86) rfl ?_
    refine Run.no (wantS_not' rfl rfl hc86) rfl ?_
    refine Run.no (wantS_not' rfl rfl hc86) rfl ?_
    refine Run.no (wantS_not' rfl rfl hc86) rfl ?_
    refine Run.opG wantS_none (ex_pickT' rfl hc86 rfl rfl) rfl ?_
    refine Run.opsEnd ?_
    exact Run.pick [1, 3, 7, 9, 13, 14, 125] (law05_RecordWithin_5_ok F v1 true c25_0 c25_1 c38_1 l30 l46 l77 l82 sv1 sc25_0 b25 s30 b38 s46 s77 s82 _ _ _ hv1 hc25_0 hH h)
  · have h := bif_f hc86 h
    refine Run.opG (wantS_yes' rfl rfl hc86) (ex_move rfl) rfl ?_
    refine Run.opG (wantS_yes' rfl rfl hc86) (ex_len' rfl (hH.slc (i := 5) rfl enc97_len) lenk91) rfl ?_
    refine Run.opG (wantS_yes' rfl rfl hc86) (ex_move rfl) rfl ?_
    refine Run.opG (wantS_yes' rfl rfl hc86) (ex_len' rfl hv1 lenk26) rfl ?_
    refine Run.opG (wantS_yes' rfl rfl hc86) (ex_neq rfl rfl) rfl ?_
    refine Run.opG wantS_none (ex_pickF' rfl hc86 rfl rfl) rfl ?_
    refine Run.opsEnd ?_
    exact Run.pick [1, 3, 7, 9, 13, 14, 125] (law05_RecordWithin_5_ok F v1 (!((l82.length : Int) == (v1.length : Int))) c25_0 c25_1 c38_1 l30 l46 l77 l82 sv1 sc25_0 b25 s30 b38 s46 s77 s82 _ _ _ hv1 hc25_0 hH h)

def law05_RecordWithin_3 (F : Nat) (v1 : (List Int)) (v111 : Bool) (c25_0 : (List S_api_Tap)) (c25_1 : Int) (c38_1 : Int) (l30 : (List S_api_Tap)) (l46 : (List S_api_Tap)) (l77 : (List S_api_Tap)) (l82 : (List S_api_Tap)) : Option (Bool) :=
  bif v111 then
    law05_RecordWithin_4 F v1 true c25_0 c25_1 c38_1 l30 l46 l77 l82
  else
    law05_RecordWithin_4 F v1 (!((l77.length : Int) == (v1.length : Int))) c25_0 c25_1 c38_1 l30 l46 l77 l82

theorem law05_RecordWithin_3_ok (F : Nat) : ∀ (v1 : (List Int)) (v111 : Bool) (c25_0 : (List S_api_Tap)) (c25_1 : Int) (c38_1 : Int) (l30 : (List S_api_Tap)) (l46 : (List S_api_Tap)) (l77 : (List S_api_Tap)) (l82 : (List S_api_Tap)) (sv1 : SV) (sc25_0 : SV) (b25 : Pos) (s30 : SV) (b38 : Pos) (s46 : SV) (s77 : SV) (s82 : SV) (Fr : Rd) (M : Mem) (r : Bool) (hv1 : Slc Fr 1 (FlatR enc3) sv1 v1) (hc25_0 : Slc Fr 2 (FlatR enc96) sc25_0 c25_0) (hH : Has Fr M [.obj b25 (.row 90 .whole [sc25_0, (.int .i64 c25_1)]), .vec 97 2 l30.length s30 (l30.flatMap enc97), .obj b38 (.row 90 .whole [s46, (.int .i64 c38_1)]), .vec 96 2 l46.length s46 (l46.flatMap enc96), .vec 97 2 l77.length s77 (l77.flatMap enc97), .vec 97 2 l82.length s82 (l82.flatMap enc97), tb0, tb1, tb2]), law05_RecordWithin_3 F v1 v111 c25_0 c25_1 c38_1 l30 l46 l77 l82 = some r → Run Tryz.prog ⟨⟨9, [], none⟩, []⟩ 254 (law05_RecordWithin_post r) [(1, sv1), (3, (.ptr b25 0)), (7, s30), (9, (.ptr b38 0)), (13, s77), (14, s82), (111, (.bool v111))] [itemC Tryz.prog 9 [1, 1, 1, 1, 1, 1, 1, 1, 0, 0] 6, codeC Tryz.prog 9 [1, 1, 1, 1, 1, 1, 1, 1, 0, 1], codeC Tryz.prog 9 [1, 1, 1, 1, 1, 1, 1, 1, 1]] M := by
  intro v1 v111 c25_0 c25_1 c38_1 l30 l46 l77 l82 sv1 sc25_0 b25 s30 b38 s46 s77 s82 Fr M r hv1 hc25_0 hH h
  rw [law05_RecordWithin_3] at h
  refine Run.opG wantS_none (ex_move rfl) rfl ?_
  rcases btf (v111) with hc85 | hc85
  · have h := bif_t hc85 h
    refine Run.no (wantS_not' rfl rfl hc85) rfl ?_
    refine Run.no (wantS_not' rfl rfl hc85) rfl ?_
    refine Run.no (wantS_not' rfl rfl hc85) rfl ?_
    refine Run.no (wantS_not' rfl rfl hc85) rfl ?_
    refine Run.no (wantS_not' rfl rfl hc85) rfl ?_
    refine Run.opG wantS_none (ex_pickT' rfl hc85 rfl rfl) rfl ?_
    exact Run.pick [1, 3, 7, 9, 13, 14, 118] (law05_RecordWithin_4_ok F v1 true c25_0 c25_1 c38_1 l30 l46 l77 l82 sv1 sc25_0 b25 s30 b38 s46 s77 s82 _ _ _ hv1 hc25_0 hH h)
  · have h := bif_f hc85 h
    refine Run.opG (wantS_yes' rfl rfl hc85) (ex_move rfl) rfl ?_
    refine Run.opG (wantS_yes' rfl rfl hc85) (ex_len' rfl (hH.slc (i := 4) rfl enc97_len) lenk91) rfl ?_
    refine Run.opG (wantS_yes' rfl rfl hc85) (ex_move rfl) rfl ?_
    refine Run.opG (wantS_yes' rfl rfl hc85) (ex_len' rfl hv1 lenk26) rfl ?_
    refine Run.opG (wantS_yes' rfl rfl hc85) (ex_neq rfl rfl) rfl ?_
    refine Run.opG wantS_none (ex_pickF' rfl hc85 rfl rfl) rfl ?_
    exact Run.pick [1, 3, 7, 9, 13, 14, 118] (law05_RecordWithin_4_ok F v1 (!((l77.length : Int) == (v1.length : Int))) c25_0 c25_1 c38_1 l30 l46 l77 l82 sv1 sc25_0 b25 s30 b38 s46 s77 s82 _ _ _ hv1 hc25_0 hH h)

def law05_RecordWithin_2 (F : Nat) : Nat → (List Int) → (List Int) → Int → (List S_api_Tap) → Int → Int → Int → (List S_api_Tap) → (List S_api_Tap) → (List S_api_Tap) → Option (Bool)
  | 0, _, _, _, _, _, _, _, _, _, _ => none
  | N + 1, v1, v2, v11, c25_0, c25_1, c38_1, c40_1, l30, l46, l44 =>
    bif (decide (v11 < (c25_0.length : Int))) then
      bnd (idx c25_0 v11) fun x49 =>
      bnd (idx c25_0 v11) fun x51 =>
      bnd (law05_pick F v2 v11 x49.Low x51.High) fun r53 =>
      bnd (apd 16 l46 ([(S_api_Tap.mk r53 r53)] : List S_api_Tap)) fun l60 =>
      bnd (idx c25_0 v11) fun x64 =>
      bnd (law05_pick F v2 (w64 (v11 + (1 : Int))) x64.Low r53) fun r66 =>
      bnd (apd 16 l44 ([(S_api_Tap.mk r66 r53)] : List S_api_Tap)) fun l70 =>
      (law05_RecordWithin_2 F N) v1 v2 (w64 (v11 + (1 : Int))) c25_0 c25_1 c38_1 c40_1 l30 l60 l70
    else
      bnd (record_Strain F (S_api_Model.mk l46 c38_1) v1) fun r76 =>
      bnd (record_Strain F (S_api_Model.mk l44 c40_1) v1) fun r81 =>
      bif (!(r76.2 == (0 : Int))) then
        law05_RecordWithin_3 F v1 true c25_0 c25_1 c38_1 l30 l46 r76.1 r81.1
      else
        law05_RecordWithin_3 F v1 (!(r81.2 == (0 : Int))) c25_0 c25_1 c38_1 l30 l46 r76.1 r81.1

theorem law05_RecordWithin_2_ok (F : Nat) : ∀ (N : Nat), ∀ (v1 : (List Int)) (v2 : (List Int)) (v11 : Int) (c25_0 : (List S_api_Tap)) (c25_1 : Int) (c38_1 : Int) (c40_1 : Int) (l30 : (List S_api_Tap)) (l46 : (List S_api_Tap)) (l44 : (List S_api_Tap)) (sv1 : SV) (sv2 : SV) (sc25_0 : SV) (b25 : Pos) (s30 : SV) (b38 : Pos) (s46 : SV) (b40 : Pos) (s44 : SV) (Fr : Rd) (M : Mem) (r : Bool) (hv1 : Slc Fr 1 (FlatR enc3) sv1 v1) (hv2 : Slc Fr 1 (FlatR enc3) sv2 v2) (hc25_0 : Slc Fr 2 (FlatR enc96) sc25_0 c25_0) (hH : Has Fr M [.obj b25 (.row 90 .whole [sc25_0, (.int .i64 c25_1)]), .vec 97 2 l30.length s30 (l30.flatMap enc97), .obj b38 (.row 90 .whole [s46, (.int .i64 c38_1)]), .vec 96 2 l46.length s46 (l46.flatMap enc96), .obj b40 (.row 90 .whole [s44, (.int .i64 c40_1)]), .vec 96 2 l44.length s44 (l44.flatMap enc96), tb0, tb1, tb2]), law05_RecordWithin_2 F N v1 v2 v11 c25_0 c25_1 c38_1 c40_1 l30 l46 l44 = some r → Run Tryz.prog ⟨⟨9, [], none⟩, []⟩ 254 (law05_RecordWithin_post r) [(1, sv1), (2, sv2), (3, (.ptr b25 0)), (7, s30), (9, (.ptr b38 0)), (10, (.ptr b40 0)), (11, (.int .i64 v11))] [codeC Tryz.prog 9 [1, 1, 1, 1, 1, 0, 1, 0, 0], loopC Tryz.prog 9 [1, 1, 1, 1, 1, 0, 1, 0, 0], .inBlock 0, codeC Tryz.prog 9 [1, 1, 1, 1, 1, 1]] M := by
  intro N
  induction N with
  | zero =>
    intro v1 v2 v11 c25_0 c25_1 c38_1 c40_1 l30 l46 l44 sv1 sv2 sc25_0 b25 s30 b38 s46 b40 s44 Fr M r hv1 hv2 hc25_0 hH h
    simp [law05_RecordWithin_2] at h
  | succ N ih =>
    intro v1 v2 v11 c25_0 c25_1 c38_1 c40_1 l30 l46 l44 sv1 sv2 sc25_0 b25 s30 b38 s46 b40 s44 Fr M r hv1 hv2 hc25_0 hH h
    rw [law05_RecordWithin_2] at h
    refine Run.seq (Run.seq (Run.region ?_))
    refine Run.opG wantS_none (ex_move rfl) rfl ?_
    refine Run.opG wantS_none (ex_fieldAddr rfl off90_0) rfl ?_
    refine Run.opG wantS_none (ex_load1 rfl (hH.cells (i := 0) rfl 0 rfl) rdLe_rfl agg88) rfl ?_
    refine Run.opG wantS_none (ex_len' rfl hc25_0 lenk88) rfl ?_
    refine Run.opG wantS_none (ex_lss rfl rfl) rfl ?_
    refine Run.opsEnd ?_
    rcases btf ((decide (v11 < (c25_0.length : Int)))) with hc48 | hc48
    · have h := bif_t hc48 h
      refine Run.condT' rfl hc48 ?_
      refine Run.skip (Run.seq (Run.block (Run.seq ?_)))
      refine Run.drawG plan9_1_1_1_1_1_0_1_0_0_1_0_0_0 ?_
      refine DrawG.fl rfl (ev_ex wantS_none (ex_move rfl)) rfl ?_
      refine DrawG.fl rfl (ev_ex wantS_none (ex_move rfl)) rfl ?_
      refine DrawG.fl rfl (ev_ex wantS_none (ex_fieldAddr rfl off90_0)) rfl ?_
      refine DrawG.fl rfl (ev_ex wantS_none (ex_load1 rfl (hH.cells (i := 0) rfl 0 rfl) rdLe_rfl agg88)) rfl ?_
      refine DrawG.fl rfl (ev_ex wantS_none (ex_move rfl)) rfl ?_
      obtain ⟨x49, hx49, h⟩ := bnd_some h
      obtain ⟨p49, o49, _, hx49, hp49, rfl⟩ := sl_elem (P := Tryz.prog) (t := 88) (kk := .i64) hc25_0 hx49 els88
      refine DrawG.fl rfl (ev_ex wantS_none (ex_elX rfl rfl hx49)) rfl ?_
      have hp50 := (hp49.fld (o := 0) rfl)
      refine DrawG.fl rfl (ev_ex wantS_none (ex_fieldAddr rfl off96_0)) rfl ?_
      refine DrawG.fl rfl (ev_ex wantS_none (ex_load1 rfl (hH.ptrF hp50) rdLe_rfl agg3)) rfl ?_
      refine DrawG.fl rfl (ev_ex wantS_none (ex_fieldAddr rfl off90_0)) rfl ?_
      refine DrawG.fl rfl (ev_ex wantS_none (ex_load1 rfl (hH.cells (i := 0) rfl 0 rfl) rdLe_rfl agg88)) rfl ?_
      refine DrawG.fl rfl (ev_ex wantS_none (ex_move rfl)) rfl ?_
      obtain ⟨x51, hx51, h⟩ := bnd_some h
      obtain ⟨p51, o51, _, hx51, hp51, rfl⟩ := sl_elem (P := Tryz.prog) (t := 88) (kk := .i64) hc25_0 hx51 els88
      refine DrawG.fl rfl (ev_ex wantS_none (ex_elX rfl rfl hx51)) rfl ?_
      have hp52 := (hp51.fld (o := 1) rfl)
      refine DrawG.fl rfl (ev_ex wantS_none (ex_fieldAddr rfl off96_1)) rfl ?_
      refine DrawG.fl rfl (ev_ex wantS_none (ex_load1 rfl (hH.ptrF hp52) rdLe_rfl agg3)) rfl ?_
      obtain ⟨r53, hr53, h⟩ := bnd_some h
      refine DrawG.callP rfl wantS_none (ex_call rfl mkk31 cal31) rfl (law05_pick_ok F v2 v11 x49.Low x51.High sv2 _ _ (hH.slcF hv2) hr53) st_nil ?_
      refine DrawG.fl rfl (ev_ex wantS_none (ex_assign rfl)) rfl ?_
      refine DrawG.sync ?_
      refine DrawG.nil ?_
      refine Run.seq (Run.region ?_)
      refine Run.opG wantS_none (ex_fieldAddr rfl off90_0) rfl ?_
      refine Run.opG wantS_none (ex_load1 rfl (hH.cells (i := 2) rfl 0 rfl) rdLe_rfl agg88) rfl ?_
      refine Run.opG wantS_none (ex_move rfl) rfl ?_
      refine Run.opG wantS_none (ex_move rfl) rfl ?_
      refine Run.opG wantS_none (ex_build (r := [(.int .i64 r53), (.int .i64 r53)]) rfl zer96 pls96 rfl) rfl ?_
      refine Run.opX wantS_none rfl (ExG.built (enc := enc96) (l := ([(S_api_Tap.mk r53 r53)] : List S_api_Tap)) (z := 2) rfl elt88 rfl rfl rfl enc96_len hH) ?_
      rintro s56 M57 (hH57 : Has Fr M57 [.vec 96 2 ([(S_api_Tap.mk r53 r53)] : List S_api_Tap).length s56 (([(S_api_Tap.mk r53 r53)] : List S_api_Tap).flatMap enc96), .obj b25 (.row 90 .whole [sc25_0, (.int .i64 c25_1)]), .vec 97 2 l30.length s30 (l30.flatMap enc97), .obj b38 (.row 90 .whole [s46, (.int .i64 c38_1)]), .vec 96 2 l46.length s46 (l46.flatMap enc96), .obj b40 (.row 90 .whole [s44, (.int .i64 c40_1)]), .vec 96 2 l44.length s44 (l44.flatMap enc96), tb0, tb1, tb2])
      obtain ⟨l60, hl60, h⟩ := bnd_some h
      refine Run.opX wantS_none rfl (ExG.append rfl rfl hH57 (i := 4) rfl enc96_len rfl enc96_ones appt88_88 rfl (len_slc (hH57.slc (i := 0) rfl enc96_len)) (first_slc (hH57.slc (i := 0) rfl enc96_len) (rdLe_rdRow _) enc96_len) hl60) ?_
      rintro s60 M62 (hH62 : Has Fr M62 [.vec 96 2 ([(S_api_Tap.mk r53 r53)] : List S_api_Tap).length s56 (([(S_api_Tap.mk r53 r53)] : List S_api_Tap).flatMap enc96), .obj b25 (.row 90 .whole [sc25_0, (.int .i64 c25_1)]), .vec 97 2 l30.length s30 (l30.flatMap enc97), .obj b38 (.row 90 .whole [s46, (.int .i64 c38_1)]), .vec 96 2 l60.length s60 (l60.flatMap enc96), .obj b40 (.row 90 .whole [s44, (.int .i64 c40_1)]), .vec 96 2 l44.length s44 (l44.flatMap enc96), tb0, tb1, tb2])
      refine Run.opG wantS_none (ex_fieldAddr rfl off90_0) rfl ?_
      refine Run.opX wantS_none rfl (ExG.storeC (c' := [s60, (.int .i64 c38_1)]) rfl rfl (cells_one (vec_one hH62 (i := 4) rfl)) hH62 (i := 3) rfl sz88 rfl rfl rfl (ones_cons (vec_one hH62 (i := 4) rfl) ones_nil) rfl) ?_
      rintro _ M63 ⟨rfl, (hH63 : Has Fr M63 [.vec 96 2 ([(S_api_Tap.mk r53 r53)] : List S_api_Tap).length s56 (([(S_api_Tap.mk r53 r53)] : List S_api_Tap).flatMap enc96), .obj b25 (.row 90 .whole [sc25_0, (.int .i64 c25_1)]), .vec 97 2 l30.length s30 (l30.flatMap enc97), .obj b38 (.row 90 .whole [s60, (.int .i64 c38_1)]), .vec 96 2 l60.length s60 (l60.flatMap enc96), .obj b40 (.row 90 .whole [s44, (.int .i64 c40_1)]), .vec 96 2 l44.length s44 (l44.flatMap enc96), tb0, tb1, tb2])⟩
      refine Run.opsEnd ?_
      refine Run.drawG plan9_1_1_1_1_1_0_1_0_0_1_0_0_1_1 ?_
      refine DrawG.fl rfl (ev_ex wantS_none (ex_fieldAddr rfl off90_0)) rfl ?_
      refine DrawG.fl rfl (ev_ex wantS_none (ex_load1 rfl (hH63.cells (i := 5) rfl 0 rfl) rdLe_rfl agg88)) rfl ?_
      refine DrawG.fl rfl (ev_ex wantS_none (ex_move rfl)) rfl ?_
      refine DrawG.fl rfl (ev_ex wantS_none (ex_move rfl)) rfl ?_
      refine DrawG.fl rfl (ev_ex wantS_none (ex_add rfl rfl)) rfl ?_
      refine DrawG.fl rfl (ev_ex wantS_none (ex_fieldAddr rfl off90_0)) rfl ?_
      refine DrawG.fl rfl (ev_ex wantS_none (ex_load1 rfl (hH63.cells (i := 1) rfl 0 rfl) rdLe_rfl agg88)) rfl ?_
      refine DrawG.fl rfl (ev_ex wantS_none (ex_move rfl)) rfl ?_
      obtain ⟨x64, hx64, h⟩ := bnd_some h
      obtain ⟨p64, o64, _, hx64, hp64, rfl⟩ := sl_elem (P := Tryz.prog) (t := 88) (kk := .i64) hc25_0 hx64 els88
      refine DrawG.fl rfl (ev_ex wantS_none (ex_elX rfl rfl hx64)) rfl ?_
      have hp65 := (hp64.fld (o := 0) rfl)
      refine DrawG.fl rfl (ev_ex wantS_none (ex_fieldAddr rfl off96_0)) rfl ?_
      refine DrawG.fl rfl (ev_ex wantS_none (ex_load1 rfl (hH63.ptrF hp65) rdLe_rfl agg3)) rfl ?_
      refine DrawG.fl rfl (ev_ex wantS_none (ex_move rfl)) rfl ?_
      refine DrawG.fl rfl (ev_ex wantS_none (ex_move rfl)) rfl ?_
      obtain ⟨r66, hr66, h⟩ := bnd_some h
      refine DrawG.callP rfl wantS_none (ex_call rfl mkk31 cal31) rfl (law05_pick_ok F v2 (w64 (v11 + (1 : Int))) x64.Low r53 sv2 _ _ (hH63.slcF hv2) hr66) (st_cons rfl (ev_ex wantS_none (ex_move rfl)) rfl rfl rfl (st_cons rfl (ev_ex wantS_none (ex_load1 rfl (hH63.cells (i := 5) rfl 0 rfl) rdLe_rfl agg88)) rfl rfl (blk_self hH63 (i := 6) rfl) (st_cons rfl (ev_ex wantS_none (ex_fieldAddr rfl off90_0)) rfl rfl rfl st_nil))) ?_
      refine DrawG.fl rfl (ev_ex wantS_none (ex_build (r := [(.int .i64 r66), (.int .i64 r53)]) rfl zer96 pls96 rfl)) rfl ?_
      refine DrawG.opX rfl wantS_none rfl (ExG.built (enc := enc96) (l := ([(S_api_Tap.mk r66 r53)] : List S_api_Tap)) (z := 2) rfl elt88 rfl rfl rfl enc96_len hH63) ?_
      rintro s68 M69 (hH69 : Has Fr M69 [.vec 96 2 ([(S_api_Tap.mk r66 r53)] : List S_api_Tap).length s68 (([(S_api_Tap.mk r66 r53)] : List S_api_Tap).flatMap enc96), .vec 96 2 ([(S_api_Tap.mk r53 r53)] : List S_api_Tap).length s56 (([(S_api_Tap.mk r53 r53)] : List S_api_Tap).flatMap enc96), .obj b25 (.row 90 .whole [sc25_0, (.int .i64 c25_1)]), .vec 97 2 l30.length s30 (l30.flatMap enc97), .obj b38 (.row 90 .whole [s60, (.int .i64 c38_1)]), .vec 96 2 l60.length s60 (l60.flatMap enc96), .obj b40 (.row 90 .whole [s44, (.int .i64 c40_1)]), .vec 96 2 l44.length s44 (l44.flatMap enc96), tb0, tb1, tb2])
      refine ⟨(st_cons rfl (ev_ex wantS_none (ex_load1 rfl (hH69.cells (i := 6) rfl 0 rfl) rdLe_rfl agg88)) rfl rfl (blk_self hH69 (i := 7) rfl) (st_cons rfl (ev_ex wantS_none (ex_fieldAddr rfl off90_0)) rfl rfl rfl st_nil)), ?_⟩
      obtain ⟨l70, hl70, h⟩ := bnd_some h
      refine DrawG.opX rfl wantS_none rfl (ExG.append rfl rfl hH69 (i := 7) rfl enc96_len rfl enc96_ones appt88_88 rfl (len_slc (hH69.slc (i := 0) rfl enc96_len)) (first_slc (hH69.slc (i := 0) rfl enc96_len) (rdLe_rdRow _) enc96_len) hl70) ?_
      rintro s70 M72 (hH72 : Has Fr M72 [.vec 96 2 ([(S_api_Tap.mk r66 r53)] : List S_api_Tap).length s68 (([(S_api_Tap.mk r66 r53)] : List S_api_Tap).flatMap enc96), .vec 96 2 ([(S_api_Tap.mk r53 r53)] : List S_api_Tap).length s56 (([(S_api_Tap.mk r53 r53)] : List S_api_Tap).flatMap enc96), .obj b25 (.row 90 .whole [sc25_0, (.int .i64 c25_1)]), .vec 97 2 l30.length s30 (l30.flatMap enc97), .obj b38 (.row 90 .whole [s60, (.int .i64 c38_1)]), .vec 96 2 l60.length s60 (l60.flatMap enc96), .obj b40 (.row 90 .whole [s44, (.int .i64 c40_1)]), .vec 96 2 l70.length s70 (l70.flatMap enc96), tb0, tb1, tb2])
      refine ⟨st_nil, ?_⟩
      refine DrawG.fl rfl (ev_ex wantS_none (ex_fieldAddr rfl off90_0)) rfl ?_
      refine DrawG.opX rfl wantS_none rfl (ExG.storeC (c' := [s70, (.int .i64 c40_1)]) rfl rfl (cells_one (vec_one hH72 (i := 7) rfl)) hH72 (i := 6) rfl sz88 rfl rfl rfl (ones_cons (vec_one hH72 (i := 7) rfl) ones_nil) rfl) ?_
      rintro _ M73 ⟨rfl, (hH73 : Has Fr M73 [.vec 96 2 ([(S_api_Tap.mk r66 r53)] : List S_api_Tap).length s68 (([(S_api_Tap.mk r66 r53)] : List S_api_Tap).flatMap enc96), .vec 96 2 ([(S_api_Tap.mk r53 r53)] : List S_api_Tap).length s56 (([(S_api_Tap.mk r53 r53)] : List S_api_Tap).flatMap enc96), .obj b25 (.row 90 .whole [sc25_0, (.int .i64 c25_1)]), .vec 97 2 l30.length s30 (l30.flatMap enc97), .obj b38 (.row 90 .whole [s60, (.int .i64 c38_1)]), .vec 96 2 l60.length s60 (l60.flatMap enc96), .obj b40 (.row 90 .whole [s70, (.int .i64 c40_1)]), .vec 96 2 l70.length s70 (l70.flatMap enc96), tb0, tb1, tb2])⟩
      refine ⟨st_nil, ?_⟩
      refine DrawG.sync ?_
      refine DrawG.nil ?_
      refine Run.inBlock (Run.region ?_)
      refine Run.opG wantS_none (ex_move rfl) rfl ?_
      refine Run.opG wantS_none (ex_add rfl rfl) rfl ?_
      refine Run.opG wantS_none (ex_assign rfl) rfl ?_
      refine Run.opsEnd (Run.inLoop ?_)
      exact Run.pick [1, 2, 3, 7, 9, 10, 11] (ih v1 v2 (w64 (v11 + (1 : Int))) c25_0 c25_1 c38_1 c40_1 l30 l60 l70 sv1 sv2 sc25_0 b25 s30 b38 s60 b40 s70 _ _ _ hv1 hv2 hc25_0 (hH73.pick [2, 3, 4, 5, 6, 7, 8, 9, 10] rfl rfl) h)
    · have h := bif_f hc48 h
      refine Run.condF' rfl hc48 ?_
      refine Run.exit rfl (Run.seq (Run.region ?_))
      refine Run.opG wantS_none (ex_loadA rfl (hH.cells (i := 2) rfl 0 rfl) rdLe_rfl agg90 rfl rfl rfl) rfl ?_
      refine Run.opG wantS_none (ex_move rfl) rfl ?_
      obtain ⟨r76, hr76, h⟩ := bnd_some h
      refine Run.callX wantS_none (ex_call rfl mkk30 cal30) rfl (record_Strain_ok F (S_api_Model.mk l46 c38_1) v1 s46 sv1 _ _ (hH.slc (i := 3) rfl enc96_len) (hH.slcF hv1) hr76) ?_
      rintro _ M78 ⟨s76_0, rfl, hN76⟩
      have hH78 : Has Fr M78 [.vec 97 2 r76.1.length s76_0 (r76.1.flatMap enc97), .obj b25 (.row 90 .whole [sc25_0, (.int .i64 c25_1)]), .vec 97 2 l30.length s30 (l30.flatMap enc97), .obj b38 (.row 90 .whole [s46, (.int .i64 c38_1)]), .vec 96 2 l46.length s46 (l46.flatMap enc96), .obj b40 (.row 90 .whole [s44, (.int .i64 c40_1)]), .vec 96 2 l44.length s44 (l44.flatMap enc96), tb0, tb1, tb2] := hN76.1 _ _ hH
      refine Run.opG wantS_none (ex_move rfl) rfl ?_
      refine Run.opG wantS_none (ex_extract rfl rfl) rfl ?_
      refine Run.opG wantS_none (ex_extract rfl rfl) rfl ?_
      refine Run.opG wantS_none (ex_assign rfl) rfl ?_
      refine Run.opG wantS_none (ex_assign rfl) rfl ?_
      refine Run.opsEnd (Run.seq (Run.region ?_))
      refine Run.opG wantS_none (ex_loadA rfl (hH78.cells (i := 5) rfl 0 rfl) rdLe_rfl agg90 rfl rfl rfl) rfl ?_
      refine Run.opG wantS_none (ex_move rfl) rfl ?_
      obtain ⟨r81, hr81, h⟩ := bnd_some h
      refine Run.callX wantS_none (ex_call rfl mkk30 cal30) rfl (record_Strain_ok F (S_api_Model.mk l44 c40_1) v1 s44 sv1 _ _ (hH78.slc (i := 6) rfl enc96_len) (hH78.slcF hv1) hr81) ?_
      rintro _ M83 ⟨s81_0, rfl, hN81⟩
      have hH83 : Has Fr M83 [.vec 97 2 r81.1.length s81_0 (r81.1.flatMap enc97), .vec 97 2 r76.1.length s76_0 (r76.1.flatMap enc97), .obj b25 (.row 90 .whole [sc25_0, (.int .i64 c25_1)]), .vec 97 2 l30.length s30 (l30.flatMap enc97), .obj b38 (.row 90 .whole [s46, (.int .i64 c38_1)]), .vec 96 2 l46.length s46 (l46.flatMap enc96), .obj b40 (.row 90 .whole [s44, (.int .i64 c40_1)]), .vec 96 2 l44.length s44 (l44.flatMap enc96), tb0, tb1, tb2] := hN81.1 _ _ hH78
      refine Run.opG wantS_none (ex_move rfl) rfl ?_
      refine Run.opG wantS_none (ex_extract rfl rfl) rfl ?_
      refine Run.opG wantS_none (ex_extract rfl rfl) rfl ?_
      refine Run.opG wantS_none (ex_assign rfl) rfl ?_
      refine Run.opG wantS_none (ex_assign rfl) rfl ?_
      refine Run.opsEnd (Run.seq (Run.seq (Run.region ?_)))
      refine Run.opG wantS_none (ex_move rfl) rfl ?_
      refine Run.opG wantS_none (ex_neq rfl rfl) rfl ?_
      refine Run.opG wantS_none (ex_move rfl) rfl ?_
      rcases btf ((!(r76.2 == (0 : Int)))) with hc84 | hc84
      · have h := bif_t hc84 h
        refine Run.no (wantS_not' rfl rfl hc84) rfl ?_
        refine Run.no (wantS_not' rfl rfl hc84) rfl ?_
        refine Run.opG wantS_none (ex_pickT' rfl hc84 rfl rfl) rfl ?_
        exact Run.pick [1, 3, 7, 9, 13, 14, 111] (law05_RecordWithin_3_ok F v1 true c25_0 c25_1 c38_1 l30 l46 r76.1 r81.1 sv1 sc25_0 b25 s30 b38 s46 s76_0 s81_0 _ _ _ hv1 hc25_0 (hH83.pick [2, 3, 4, 5, 1, 0, 8, 9, 10] rfl rfl) h)
      · have h := bif_f hc84 h
        refine Run.opG (wantS_yes' rfl rfl hc84) (ex_move rfl) rfl ?_
        refine Run.opG (wantS_yes' rfl rfl hc84) (ex_neq rfl rfl) rfl ?_
        refine Run.opG wantS_none (ex_pickF' rfl hc84 rfl rfl) rfl ?_
        exact Run.pick [1, 3, 7, 9, 13, 14, 111] (law05_RecordWithin_3_ok F v1 (!(r81.2 == (0 : Int))) c25_0 c25_1 c38_1 l30 l46 r76.1 r81.1 sv1 sc25_0 b25 s30 b38 s46 s76_0 s81_0 _ _ _ hv1 hc25_0 (hH83.pick [2, 3, 4, 5, 1, 0, 8, 9, 10] rfl rfl) h)

def law05_RecordWithin (F : Nat) (a0 : S_api_Model) (a1 : (List Int)) (a2 : (List Int)) : Option (Bool) :=
  bnd (record_Strain F a0 a1) fun r29 =>
  bif (!(r29.2 == (0 : Int))) then
    bif ((r29.1.length : Int) == (0 : Int)) then
      bnd (works F) fun r35 =>
      law05_RecordWithin_1 F r35
    else
      law05_RecordWithin_1 F false
  else
    bif (!((r29.1.length : Int) == (a1.length : Int))) then
      some false
    else
      law05_RecordWithin_2 F F a1 a2 (0 : Int) a0.Taps a0.Shift a0.Shift a0.Shift r29.1 ([] : List S_api_Tap) ([] : List S_api_Tap)

theorem law05_RecordWithin_run (F : Nat) (a0 : S_api_Model) (a1 : (List Int)) (a2 : (List Int)) (s0 s1 s2 : SV) (r : Bool) (M : Mem) (hs0 : Slc (rd M) 2 (FlatR enc96) s0 a0.Taps) (hs1 : Slc (rd M) 1 (FlatR enc3) s1 a1) (hs2 : Slc (rd M) 1 (FlatR enc3) s2 a2) (hfx : FixIn M fixes) (h : law05_RecordWithin F a0 a1 a2 = some r) : Run Tryz.prog (fx0 9) 254 (law05_RecordWithin_post r) [(0, (.agg [s0, (.int .i64 a0.Shift)])), (1, s1), (2, s2)] [codeC Tryz.prog 9 []] (frozen M) := by
  rw [law05_RecordWithin] at h
  replace hs0 := hs0.mono (rdLe_frozen M) (fun _ _ h => h)
  replace hs1 := hs1.mono (rdLe_frozen M) (fun _ _ h => h)
  replace hs2 := hs2.mono (rdLe_frozen M) (fun _ _ h => h)
  have hH : Has (ro (frozen M)) (frozen M) [tb0, tb1, tb2] := Has.ofFix hfx.frozen
  refine Run.seq (Run.region ?_)
  refine Run.opX wantS_none rfl (ExG.box rfl rfl hH) ?_
  rintro _ M26 ⟨b25, rfl, (hH26 : Has (ro (frozen M)) M26 [.obj b25 (.row 90 .whole [s0, (.int .i64 a0.Shift)]), tb0, tb1, tb2])⟩
  refine Run.opG wantS_none (ex_assign rfl) rfl ?_
  refine Run.opsEnd (Run.seq (Run.region ?_))
  refine Run.opG wantS_none (ex_loadA rfl (hH26.cells (i := 0) rfl 0 rfl) rdLe_rfl agg90 rfl rfl rfl) rfl ?_
  refine Run.opG wantS_none (ex_move rfl) rfl ?_
  obtain ⟨r29, hr29, h⟩ := bnd_some h
  refine Run.callX wantS_none (ex_call rfl mkk30 cal30) rfl (record_Strain_ok F a0 a1 s0 s1 _ _ (hH26.slcF hs0) (hH26.slcF hs1) hr29) ?_
  rintro _ M31 ⟨s29_0, rfl, hN29⟩
  have hH31 : Has (ro (frozen M)) M31 [.vec 97 2 r29.1.length s29_0 (r29.1.flatMap enc97), .obj b25 (.row 90 .whole [s0, (.int .i64 a0.Shift)]), tb0, tb1, tb2] := hN29.1 _ _ hH26
  refine Run.opG wantS_none (ex_move rfl) rfl ?_
  refine Run.opG wantS_none (ex_extract rfl rfl) rfl ?_
  refine Run.opG wantS_none (ex_extract rfl rfl) rfl ?_
  refine Run.opG wantS_none (ex_assign rfl) rfl ?_
  refine Run.opG wantS_none (ex_assign rfl) rfl ?_
  refine Run.opsEnd (Run.seq (Run.seq (Run.region ?_)))
  refine Run.opG wantS_none (ex_move rfl) rfl ?_
  refine Run.opG wantS_none (ex_neq rfl rfl) rfl ?_
  refine Run.opsEnd ?_
  rcases btf ((!(r29.2 == (0 : Int)))) with hc32 | hc32
  · have h := bif_t hc32 h
    refine Run.condT' rfl hc32 ?_
    refine Run.seq (Run.region ?_)
    refine Run.opG wantS_none (ex_move rfl) rfl ?_
    refine Run.opG wantS_none (ex_len' rfl (hH31.slc (i := 0) rfl enc97_len) lenk91) rfl ?_
    refine Run.opG wantS_none (ex_eql rfl rfl) rfl ?_
    refine Run.opG wantS_none (ex_move rfl) rfl ?_
    rcases btf (((r29.1.length : Int) == (0 : Int))) with hc33 | hc33
    · have h := bif_t hc33 h
      obtain ⟨r35, hr35, h⟩ := bnd_some h
      refine Run.callP (wantS_yes' rfl rfl hc33) (ex_call rfl mkk29 cal29) rfl (works_ok F r35 _ hH31 (List.mem_of_getElem? (i := 2) rfl) (List.mem_of_getElem? (i := 3) rfl) (List.mem_of_getElem? (i := 4) rfl) hr35) ?_
      refine Run.opG wantS_none (ex_pickT' rfl hc33 rfl rfl) rfl ?_
      exact Run.pick [34] (law05_RecordWithin_1_ok F r35 _ _ _ (hH31.pick [2, 3, 4] rfl rfl) h)
    · have h := bif_f hc33 h
      refine Run.no (wantS_not' rfl rfl hc33) rfl ?_
      refine Run.opG wantS_none (ex_pickF' rfl hc33 rfl rfl) rfl ?_
      exact Run.pick [34] (law05_RecordWithin_1_ok F false _ _ _ (hH31.pick [2, 3, 4] rfl rfl) h)
  · have h := bif_f hc32 h
    refine Run.condF' rfl hc32 ?_
    refine Run.skip (Run.seq (Run.seq (Run.region ?_)))
    refine Run.opG wantS_none (ex_move rfl) rfl ?_
    refine Run.opG wantS_none (ex_len' rfl (hH31.slc (i := 0) rfl enc97_len) lenk91) rfl ?_
    refine Run.opG wantS_none (ex_move rfl) rfl ?_
    refine Run.opG wantS_none (ex_len' rfl hs1 lenk26) rfl ?_
    refine Run.opG wantS_none (ex_neq rfl rfl) rfl ?_
    refine Run.opsEnd ?_
    rcases btf ((!((r29.1.length : Int) == (a1.length : Int)))) with hc37 | hc37
    · have h := bif_t hc37 h
      refine Run.condT' rfl hc37 ?_
      refine Run.seq (Run.region ?_)
      refine Run.opG wantS_none (ex_assign rfl) rfl ?_
      refine Run.opsEnd ?_
      cases h
      exact Run.ret Tryz.func9 rfl (res_tmp rfl res_nil) rfl
    · have h := bif_f hc37 h
      refine Run.condF' rfl hc37 ?_
      refine Run.skip (Run.seq ?_)
      refine Run.lateG latep9_1_1_1_1_0 rfl rfl ?_
      refine PureK.val wantS_none (ex_fieldAddr rfl off90_1) rfl ?_
      refine PureK.val wantS_none (ex_load1 rfl (hH31.cells (i := 1) rfl 1 rfl) rdLe_rfl agg3) rfl ?_
      refine PureK.val wantS_none (ex_build (r := [.nils, (.int .i64 a0.Shift)]) rfl zer90 pls90 rfl) rfl ?_
      refine PureK.val wantS_none (ex_fieldAddr rfl off90_1) rfl ?_
      refine PureK.val wantS_none (ex_load1 rfl (hH31.cells (i := 1) rfl 1 rfl) rdLe_rfl agg3) rfl ?_
      refine PureK.val wantS_none (ex_build (r := [.nils, (.int .i64 a0.Shift)]) rfl zer90 pls90 rfl) rfl ?_
      refine PureK.new (v := fun b => .ptr b 0) wantS_none (ex_alloc zer90) rfl hH31 ?_
      intro b38 M39 (hH39 : Has (ro (frozen M)) M39 [.obj b38 (.row 90 .whole [.nils, (.int .i64 0)]), .vec 97 2 r29.1.length s29_0 (r29.1.flatMap enc97), .obj b25 (.row 90 .whole [s0, (.int .i64 a0.Shift)]), tb0, tb1, tb2])
      refine PureK.new (v := fun b => .ptr b 0) wantS_none (ex_alloc zer90) rfl hH39 ?_
      intro b40 M41 (hH41 : Has (ro (frozen M)) M41 [.obj b40 (.row 90 .whole [.nils, (.int .i64 0)]), .obj b38 (.row 90 .whole [.nils, (.int .i64 0)]), .vec 97 2 r29.1.length s29_0 (r29.1.flatMap enc97), .obj b25 (.row 90 .whole [s0, (.int .i64 a0.Shift)]), tb0, tb1, tb2])
      refine PureK.nil ⟨(st_cons rfl (ev_ex wantS_none (ex_fieldAddr rfl off90_1)) rfl rfl rfl (st_cons rfl (ev_ex wantS_none (ex_load1 rfl (hH41.cells (i := 3) rfl 1 rfl) rdLe_rfl agg3)) rfl rfl rfl (st_cons rfl (ev_ex wantS_none (ex_build (r := [.nils, (.int .i64 a0.Shift)]) rfl zer90 pls90 rfl)) rfl rfl (self_agg (self_cons rfl (self_cons rfl self_nil))) st_nil))), ?_⟩
      refine SeqLG.opX wantS_none rfl (ExG.storeC (c' := [.nils, (.int .i64 a0.Shift)]) rfl rfl rfl hH41 (i := 1) rfl sz90 rfl rfl rfl rfl rfl) ?_
      rintro _ M42 ⟨rfl, (hH42 : Has (ro (frozen M)) M42 [.obj b40 (.row 90 .whole [.nils, (.int .i64 0)]), .obj b38 (.row 90 .whole [.nils, (.int .i64 a0.Shift)]), .vec 97 2 r29.1.length s29_0 (r29.1.flatMap enc97), .obj b25 (.row 90 .whole [s0, (.int .i64 a0.Shift)]), tb0, tb1, tb2])⟩
      refine ⟨(st_cons rfl (ev_ex wantS_none (ex_fieldAddr rfl off90_1)) rfl rfl rfl (st_cons rfl (ev_ex wantS_none (ex_load1 rfl (hH42.cells (i := 3) rfl 1 rfl) rdLe_rfl agg3)) rfl rfl rfl (st_cons rfl (ev_ex wantS_none (ex_build (r := [.nils, (.int .i64 a0.Shift)]) rfl zer90 pls90 rfl)) rfl rfl (self_agg (self_cons rfl (self_cons rfl self_nil))) st_nil))), ?_⟩
      refine SeqLG.opX wantS_none rfl (ExG.storeC (c' := [.nils, (.int .i64 a0.Shift)]) rfl rfl rfl hH42 (i := 0) rfl sz90 rfl rfl rfl rfl rfl) ?_
      rintro _ M43 ⟨rfl, (hH43 : Has (ro (frozen M)) M43 [.obj b40 (.row 90 .whole [.nils, (.int .i64 a0.Shift)]), .obj b38 (.row 90 .whole [.nils, (.int .i64 a0.Shift)]), .vec 97 2 r29.1.length s29_0 (r29.1.flatMap enc97), .obj b25 (.row 90 .whole [s0, (.int .i64 a0.Shift)]), tb0, tb1, tb2])⟩
      refine ⟨(st_cons rfl (ev_ex wantS_none (ex_fieldAddr rfl off90_1)) rfl rfl rfl (st_cons rfl (ev_ex wantS_none (ex_load1 rfl (hH43.cells (i := 3) rfl 1 rfl) rdLe_rfl agg3)) rfl rfl rfl (st_cons rfl (ev_ex wantS_none (ex_build (r := [.nils, (.int .i64 a0.Shift)]) rfl zer90 pls90 rfl)) rfl rfl (self_agg (self_cons rfl (self_cons rfl self_nil))) st_nil))), ?_⟩
      refine SeqLG.nil ?_
      refine Run.seq (Run.seq (Run.region ?_))
      refine Run.opG wantS_none (ex_assign rfl) rfl ?_
      refine Run.opsEnd (Run.block (Run.loop ?_))
      have hH45 : Has (ro (frozen M)) M43 [.vec 96 2 ([] : List S_api_Tap).length .nils (([] : List S_api_Tap).flatMap enc96), .obj b40 (.row 90 .whole [.nils, (.int .i64 a0.Shift)]), .obj b38 (.row 90 .whole [.nils, (.int .i64 a0.Shift)]), .vec 97 2 r29.1.length s29_0 (r29.1.flatMap enc97), .obj b25 (.row 90 .whole [s0, (.int .i64 a0.Shift)]), tb0, tb1, tb2] := hH43.nils 96 2
      have hH47 : Has (ro (frozen M)) M43 [.vec 96 2 ([] : List S_api_Tap).length .nils (([] : List S_api_Tap).flatMap enc96), .vec 96 2 ([] : List S_api_Tap).length .nils (([] : List S_api_Tap).flatMap enc96), .obj b40 (.row 90 .whole [.nils, (.int .i64 a0.Shift)]), .obj b38 (.row 90 .whole [.nils, (.int .i64 a0.Shift)]), .vec 97 2 r29.1.length s29_0 (r29.1.flatMap enc97), .obj b25 (.row 90 .whole [s0, (.int .i64 a0.Shift)]), tb0, tb1, tb2] := hH45.nils 96 2
      exact Run.pick [1, 2, 3, 7, 9, 10, 11] (law05_RecordWithin_2_ok F F a1 a2 (0 : Int) a0.Taps a0.Shift a0.Shift a0.Shift r29.1 ([] : List S_api_Tap) ([] : List S_api_Tap) s1 s2 s0 b25 s29_0 b38 .nils b40 .nils _ _ _ hs1 hs2 hs0 (hH47.pick [5, 4, 3, 0, 2, 1, 6, 7, 8] rfl rfl) h)

end Go.Ev.RecordWithin
