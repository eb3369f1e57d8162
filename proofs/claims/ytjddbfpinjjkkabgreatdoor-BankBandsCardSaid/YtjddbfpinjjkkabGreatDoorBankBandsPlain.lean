/- Plain functions that say what functions of the program come to, and proofs of it, written by a program of the verifier's own. -/
import Derived.Test.YtjddbfpinjjkkabGreatDoorEvL21
import Derived.Test.YtjddbfpinjjkkabGreatDoorWorks
import Derived.KernelRfl
namespace Go.Ev.BankBands
open Go Go.Ev Go.Proofs
set_option maxRecDepth 100000
set_option linter.unusedVariables false

noncomputable def fixes : List (Nat × List SV) := Go.Proofs.YtjddbfpinjjkkabGreatDoor.works.fixes
noncomputable def tb0 : Ent := fixE (5, intCells .u8 [0, 1, 28, 2, 29, 14, 24, 3, 30, 22, 20, 15, 25, 17, 4, 8, 31, 27, 13, 23, 21, 19, 16, 7, 26, 12, 18, 6, 11, 5, 10, 9])
noncomputable def tb1 : Ent := fixE (6, intCells .u8 [0, 1, 56, 2, 57, 49, 28, 3, 61, 58, 42, 50, 38, 29, 17, 4, 62, 47, 59, 36, 45, 43, 51, 22, 53, 39, 33, 30, 24, 18, 12, 5, 63, 55, 48, 27, 60, 41, 37, 16, 46, 35, 44, 21, 52, 32, 23, 11, 54, 26, 40, 15, 34, 20, 31, 10, 25, 14, 19, 9, 13, 8, 7, 6])
noncomputable def tb2 : Ent := fixE (4, intCells .u64 [1, 10, 100, 1000, 10000, 100000, 1000000, 10000000, 100000000, 1000000000, 10000000000, 100000000000, 1000000000000, 10000000000000, 100000000000000, 1000000000000000, 10000000000000000, 100000000000000000, 1000000000000000000, 10000000000000000000])
noncomputable def tb3 : Ent := fixE (0, intCells .i64 [0, 12, 25, 37, 49, 60, 71, 81, 90, 98, 106, 112, 117, 122, 125, 126, 127])
def works (_ : Nat) : Option Bool := some true
theorem fixH {Fr : Rd} {H : List Ent} {M : Mem} (hH : Has Fr M H) (h0 : tb0 ∈ H) (h1 : tb1 ∈ H) (h2 : tb2 ∈ H) (h3 : tb3 ∈ H) : FixIn M fixes := by
  refine hH.fixIn fun x hx => ?_
  simp only [fixes, Go.Proofs.YtjddbfpinjjkkabGreatDoor.works.fixes, List.mem_cons, List.not_mem_nil, or_false] at hx
  rcases hx with rfl | rfl | rfl | rfl
  · exact h0
  · exact h1
  · exact h2
  · exact h3

theorem works_ok (F : Nat) (r : Bool) {Fr : Rd} {H : List Ent} (M : Mem) (hH : Has Fr M H) (h0 : tb0 ∈ H) (h1 : tb1 ∈ H) (h2 : tb2 ∈ H) (h3 : tb3 ∈ H) (h : works F = some r) : CallsM Tryz.prog 8 [] M fun s M' => s = .bool r ∧ M' = M := by
  cases h
  refine CallsM.closedFix (n := 600) (l := Go.Proofs.YtjddbfpinjjkkabGreatDoor.works.fixes) Go.Proofs.YtjddbfpinjjkkabGreatDoor.works.below Go.Proofs.YtjddbfpinjjkkabGreatDoor.works.plainF Go.Proofs.YtjddbfpinjjkkabGreatDoor.works.works_true (hH.fixIn fun x hx => ?_)
  simp only [Go.Proofs.YtjddbfpinjjkkabGreatDoor.works.fixes, List.mem_cons, List.not_mem_nil, or_false] at hx
  rcases hx with rfl | rfl | rfl | rfl
  · exact h0
  · exact h1
  · exact h2
  · exact h3


structure S_api_Tap where
  Low : Int
  High : Int

structure S_api_Model where
  Taps : (List S_api_Tap)
  Shift : Int

structure S_api_Chirp where
  P : Int
  Q : Int

def enc37 (a : S_api_Tap) : List SV := [(.int .i64 a.Low), (.int .i64 a.High)]
theorem enc37_len (a : S_api_Tap) : (enc37 a).length = 2 := rfl
theorem enc37_ones (a : S_api_Tap) : ones (enc37 a) = true := rfl
def enc3 (a : Int) : List SV := [(.int .i64 a)]
theorem enc3_len (a : Int) : (enc3 a).length = 1 := rfl
theorem enc3_ones (a : Int) : ones (enc3 a) = true := rfl
theorem agg24 : aggSize Tryz.prog 24 = some (some 2) := by kernel_rfl
def enc39 (a : S_api_Tap) : List SV := [(.int .i64 a.Low), (.int .i64 a.High)]
theorem enc39_len (a : S_api_Tap) : (enc39 a).length = 2 := rfl
theorem enc39_ones (a : S_api_Tap) : ones (enc39 a) = true := rfl
theorem off24_0 : fieldOff Tryz.prog 24 0 = some 0 := by kernel_rfl
theorem agg22 : aggSize Tryz.prog 22 = some none := by kernel_rfl
theorem lenk22 : lenK Tryz.prog 22 = some .sl := by kernel_rfl
abbrev record_isFrom_post (r : Bool) : SV → Mem → Prop := fun s _ => s = (.bool r)

def record_isFrom_1 (F : Nat) (v14 : Bool) : Option (Bool) :=
  some v14

theorem record_isFrom_1_ok (F : Nat) : ∀ (v14 : Bool) (Fr : Rd) (M : Mem) (r : Bool) (hH : Has Fr M []), record_isFrom_1 F v14 = some r → Run Tryz.prog ⟨⟨69, [], none⟩, []⟩ 15 (record_isFrom_post r) [(14, (.bool v14))] [itemC Tryz.prog 69 [1, 0] 8, codeC Tryz.prog 69 [1, 1]] M := by
  intro v14 Fr M r hH h
  rw [record_isFrom_1] at h
  refine Run.opG wantS_none (ex_assign rfl) rfl ?_
  refine Run.opsEnd ?_
  cases h
  exact Run.ret Tryz.func69 rfl (res_tmp rfl res_nil) rfl

def record_isFrom (F : Nat) (a0 : Int) (a1 : Int) (a2 : Int) : Option (Bool) :=
  bif (decide (a0 ≤ a1)) then
    record_isFrom_1 F (decide (a1 ≤ a2))
  else
    record_isFrom_1 F false

theorem record_isFrom_ok (F : Nat) (a0 : Int) (a1 : Int) (a2 : Int) (r : Bool) (M : Mem) (h : record_isFrom F a0 a1 a2 = some r) : CallsM Tryz.prog 69 [(.int .i64 a0), (.int .i64 a1), (.int .i64 a2)] M (fun s M' => s = (.bool r) ∧ M' = M) := by
  refine CallsM.plain Tryz.func69 rfl rfl rfl (show Run _ _ _ (record_isFrom_post r) _ _ _ from ?_)
  rw [record_isFrom] at h
  have hH := Has.nil (frozen M)
  refine Run.seq (Run.region ?_)
  refine Run.opG wantS_none (ex_assign rfl) rfl ?_
  refine Run.opsEnd (Run.seq (Run.region ?_))
  refine Run.opG wantS_none (ex_move rfl) rfl ?_
  refine Run.opG wantS_none (ex_move rfl) rfl ?_
  refine Run.opG wantS_none (ex_leq rfl rfl) rfl ?_
  refine Run.opG wantS_none (ex_move rfl) rfl ?_
  rcases btf ((decide (a0 ≤ a1))) with hc21 | hc21
  · have h := bif_t hc21 h
    refine Run.opG (wantS_yes' rfl rfl hc21) (ex_move rfl) rfl ?_
    refine Run.opG (wantS_yes' rfl rfl hc21) (ex_move rfl) rfl ?_
    refine Run.opG (wantS_yes' rfl rfl hc21) (ex_leq rfl rfl) rfl ?_
    refine Run.opG wantS_none (ex_pickT' rfl hc21 rfl rfl) rfl ?_
    exact Run.pick [14] (record_isFrom_1_ok F (decide (a1 ≤ a2)) _ _ _ hH h)
  · have h := bif_f hc21 h
    refine Run.no (wantS_not' rfl rfl hc21) rfl ?_
    refine Run.no (wantS_not' rfl rfl hc21) rfl ?_
    refine Run.no (wantS_not' rfl rfl hc21) rfl ?_
    refine Run.opG wantS_none (ex_pickF' rfl hc21 rfl rfl) rfl ?_
    exact Run.pick [14] (record_isFrom_1_ok F false _ _ _ hH h)

theorem mkk69 : makeK Tryz.prog 69 = none := by kernel_rfl
theorem cal69 : callable Tryz.prog 69 = true := by kernel_rfl
theorem els22 : elems Tryz.prog 22 = some (.sl 2) := by kernel_rfl
theorem agg37 : aggSize Tryz.prog 37 = some (some 2) := by kernel_rfl
theorem zer37 : zerosOf Tryz.prog 37 = some [(.int .i64 0), (.int .i64 0)] := by kernel_rfl
theorem sz37 : szOf Tryz.prog 37 = some 2 := by kernel_rfl
theorem off37_0 : fieldOff Tryz.prog 37 0 = some 0 := by kernel_rfl
theorem agg3 : aggSize Tryz.prog 3 = some none := by kernel_rfl
theorem off37_1 : fieldOff Tryz.prog 37 1 = some 1 := by kernel_rfl
theorem off24_1 : fieldOff Tryz.prog 24 1 = some 1 := by kernel_rfl
abbrev record_CheckModel_post (r : Int) : SV → Mem → Prop := fun s _ => s = (.int .i64 r)

def record_CheckModel_4 (F : Nat) (hd2 : (List S_api_Tap) → Int → Int → Option (Int)) (v17 : (List S_api_Tap)) (v18 : Int) (v19 : Int) (v37 : Bool) : Option (Int) :=
  bif v37 then
    some (53 : Int)
  else
    hd2 v17 v18 (w64 (v19 + (1 : Int)))

theorem record_CheckModel_4_ok (F : Nat) (hd2 : (List S_api_Tap) → Int → Int → Option (Int)) (hhd2 : ∀ (v17 : (List S_api_Tap)) (v18 : Int) (v19 : Int) (sv17 : SV) (Fr : Rd) (M : Mem) (r : Int) (hv17 : Slc Fr 2 (FlatR enc37) sv17 v17) (hH : Has Fr M []), hd2 v17 v18 v19 = some r → Run Tryz.prog ⟨⟨22, [], none⟩, []⟩ 39 (record_CheckModel_post r) [(17, sv17), (18, (.int .i64 v18)), (19, (.int .i64 v19))] [codeC Tryz.prog 22 [1, 1, 0, 1, 0, 0], loopC Tryz.prog 22 [1, 1, 0, 1, 0, 0], .inBlock 0, codeC Tryz.prog 22 [1, 1, 1]] M) : ∀ (v17 : (List S_api_Tap)) (v18 : Int) (v19 : Int) (v37 : Bool) (sv17 : SV) (Fr : Rd) (M : Mem) (r : Int) (hv17 : Slc Fr 2 (FlatR enc37) sv17 v17) (hH : Has Fr M []), record_CheckModel_4 F hd2 v17 v18 v19 v37 = some r → Run Tryz.prog ⟨⟨22, [], none⟩, []⟩ 39 (record_CheckModel_post r) [(17, sv17), (18, (.int .i64 v18)), (19, (.int .i64 v19)), (37, (.bool v37))] [codeC Tryz.prog 22 [1, 1, 0, 1, 0, 0, 1, 1, 0, 0, 1, 1], .inBlock 1, codeC Tryz.prog 22 [1, 1, 0, 1, 0, 0, 1, 1, 1], loopC Tryz.prog 22 [1, 1, 0, 1, 0, 0], .inBlock 0, codeC Tryz.prog 22 [1, 1, 1]] M := by
  intro v17 v18 v19 v37 sv17 Fr M r hv17 hH h
  rw [record_CheckModel_4] at h
  rcases btf (v37) with hc38 | hc38
  · have h := bif_t hc38 h
    refine Run.condT' rfl hc38 ?_
    refine Run.seq (Run.region ?_)
    refine Run.opG wantS_none (ex_assign rfl) rfl ?_
    refine Run.opsEnd ?_
    cases h
    exact Run.ret Tryz.func22 rfl (res_tmp rfl res_nil) rfl
  · have h := bif_f hc38 h
    refine Run.condF' rfl hc38 ?_
    refine Run.skip (Run.inBlock (Run.region ?_))
    refine Run.opG wantS_none (ex_add rfl rfl) rfl ?_
    refine Run.opG wantS_none (ex_move rfl) rfl ?_
    refine Run.opsEnd (Run.inLoop ?_)
    exact Run.pick [17, 18, 19] (hhd2 v17 v18 (w64 (v19 + (1 : Int))) sv17 _ _ _ hv17 hH h)

def record_CheckModel_3 (F : Nat) (hd2 : (List S_api_Tap) → Int → Int → Option (Int)) (v17 : (List S_api_Tap)) (v18 : Int) (v19 : Int) (v32 : Bool) (c33 : S_api_Tap) : Option (Int) :=
  bif v32 then
    record_CheckModel_4 F hd2 v17 v18 v19 true
  else
    record_CheckModel_4 F hd2 v17 v18 v19 (decide ((1048576 : Int) < c33.High))

theorem record_CheckModel_3_ok (F : Nat) (hd2 : (List S_api_Tap) → Int → Int → Option (Int)) (hhd2 : ∀ (v17 : (List S_api_Tap)) (v18 : Int) (v19 : Int) (sv17 : SV) (Fr : Rd) (M : Mem) (r : Int) (hv17 : Slc Fr 2 (FlatR enc37) sv17 v17) (hH : Has Fr M []), hd2 v17 v18 v19 = some r → Run Tryz.prog ⟨⟨22, [], none⟩, []⟩ 39 (record_CheckModel_post r) [(17, sv17), (18, (.int .i64 v18)), (19, (.int .i64 v19))] [codeC Tryz.prog 22 [1, 1, 0, 1, 0, 0], loopC Tryz.prog 22 [1, 1, 0, 1, 0, 0], .inBlock 0, codeC Tryz.prog 22 [1, 1, 1]] M) : ∀ (v17 : (List S_api_Tap)) (v18 : Int) (v19 : Int) (v32 : Bool) (c33 : S_api_Tap) (sv17 : SV) (b33 : Pos) (Fr : Rd) (M : Mem) (r : Int) (hv17 : Slc Fr 2 (FlatR enc37) sv17 v17) (hH : Has Fr M [.obj b33 (.row 37 .whole [(.int .i64 c33.Low), (.int .i64 c33.High)])]), record_CheckModel_3 F hd2 v17 v18 v19 v32 c33 = some r → Run Tryz.prog ⟨⟨22, [], none⟩, []⟩ 39 (record_CheckModel_post r) [(4, (.ptr b33 0)), (17, sv17), (18, (.int .i64 v18)), (19, (.int .i64 v19)), (32, (.bool v32))] [itemC Tryz.prog 22 [1, 1, 0, 1, 0, 0, 1, 1, 0, 0, 1, 0] 10, codeC Tryz.prog 22 [1, 1, 0, 1, 0, 0, 1, 1, 0, 0, 1, 1], .inBlock 1, codeC Tryz.prog 22 [1, 1, 0, 1, 0, 0, 1, 1, 1], loopC Tryz.prog 22 [1, 1, 0, 1, 0, 0], .inBlock 0, codeC Tryz.prog 22 [1, 1, 1]] M := by
  intro v17 v18 v19 v32 c33 sv17 b33 Fr M r hv17 hH h
  rw [record_CheckModel_3] at h
  refine Run.opG wantS_none (ex_move rfl) rfl ?_
  rcases btf (v32) with hc37 | hc37
  · have h := bif_t hc37 h
    refine Run.no (wantS_not' rfl rfl hc37) rfl ?_
    refine Run.no (wantS_not' rfl rfl hc37) rfl ?_
    refine Run.no (wantS_not' rfl rfl hc37) rfl ?_
    refine Run.opG wantS_none (ex_pickT' rfl hc37 rfl rfl) rfl ?_
    refine Run.opsEnd ?_
    exact Run.pick [17, 18, 19, 37] (record_CheckModel_4_ok F hd2 hhd2 v17 v18 v19 true sv17 _ _ _ hv17 (hH.pick [] rfl rfl) h)
  · have h := bif_f hc37 h
    refine Run.opG (wantS_yes' rfl rfl hc37) (ex_fieldAddr rfl off37_1) rfl ?_
    refine Run.opG (wantS_yes' rfl rfl hc37) (ex_load1 rfl (hH.cells (i := 0) rfl 1 rfl) rdLe_rfl agg3) rfl ?_
    refine Run.opG (wantS_yes' rfl rfl hc37) (ex_gtr rfl rfl) rfl ?_
    refine Run.opG wantS_none (ex_pickF' rfl hc37 rfl rfl) rfl ?_
    refine Run.opsEnd ?_
    exact Run.pick [17, 18, 19, 37] (record_CheckModel_4_ok F hd2 hhd2 v17 v18 v19 (decide ((1048576 : Int) < c33.High)) sv17 _ _ _ hv17 (hH.pick [] rfl rfl) h)

def record_CheckModel_2 (F : Nat) : Nat → (List S_api_Tap) → Int → Int → Option (Int)
  | 0, _, _, _ => none
  | N + 1, v17, v18, v19 =>
    bif (decide (v19 < v18)) then
      bnd (idx v17 v19) fun x31 =>
      bif (decide (x31.High < x31.Low)) then
        record_CheckModel_3 F (record_CheckModel_2 F N) v17 v18 v19 true x31
      else
        record_CheckModel_3 F (record_CheckModel_2 F N) v17 v18 v19 (decide (x31.Low < ((-1048576) : Int))) x31
    else
      some (0 : Int)

theorem record_CheckModel_2_ok (F : Nat) : ∀ (N : Nat), ∀ (v17 : (List S_api_Tap)) (v18 : Int) (v19 : Int) (sv17 : SV) (Fr : Rd) (M : Mem) (r : Int) (hv17 : Slc Fr 2 (FlatR enc37) sv17 v17) (hH : Has Fr M []), record_CheckModel_2 F N v17 v18 v19 = some r → Run Tryz.prog ⟨⟨22, [], none⟩, []⟩ 39 (record_CheckModel_post r) [(17, sv17), (18, (.int .i64 v18)), (19, (.int .i64 v19))] [codeC Tryz.prog 22 [1, 1, 0, 1, 0, 0], loopC Tryz.prog 22 [1, 1, 0, 1, 0, 0], .inBlock 0, codeC Tryz.prog 22 [1, 1, 1]] M := by
  intro N
  induction N with
  | zero =>
    intro v17 v18 v19 sv17 Fr M r hv17 hH h
    simp [record_CheckModel_2] at h
  | succ N ih =>
    intro v17 v18 v19 sv17 Fr M r hv17 hH h
    rw [record_CheckModel_2] at h
    refine Run.seq (Run.region ?_)
    refine Run.opG wantS_none (ex_lss rfl rfl) rfl ?_
    refine Run.opsEnd (Run.seq ?_)
    rcases btf ((decide (v19 < v18))) with hc29 | hc29
    · have h := bif_t hc29 h
      refine Run.condT' rfl hc29 ?_
      refine Run.skip (Run.seq (Run.block (Run.seq (Run.region ?_))))
      obtain ⟨x31, hx31, h⟩ := bnd_some h
      obtain ⟨p31, o31, _, hx31, hp31, rfl⟩ := sl_elem (P := Tryz.prog) (t := 22) (kk := .i64) hv17 hx31 els22
      refine Run.opG wantS_none (ex_elX rfl rfl hx31) rfl ?_
      refine Run.opG wantS_none (ex_loadA rfl (hH.ptrF hp31) rdLe_rfl agg37 rfl rfl rfl) rfl ?_
      refine Run.opX wantS_none rfl (ExG.new (v := fun b => .ptr b 0) (ex_alloc zer37) hH) ?_
      rintro _ M34 ⟨b33, rfl, (hH34 : Has Fr M34 [.obj b33 (.row 37 .whole [(.int .i64 0), (.int .i64 0)])])⟩
      refine Run.opX wantS_none rfl (ExG.storeC (c' := [(.int .i64 x31.Low), (.int .i64 x31.High)]) rfl rfl rfl hH34 (i := 0) rfl sz37 rfl rfl rfl rfl rfl) ?_
      rintro _ M35 ⟨rfl, (hH35 : Has Fr M35 [.obj b33 (.row 37 .whole [(.int .i64 x31.Low), (.int .i64 x31.High)])])⟩
      refine Run.opsEnd (Run.seq (Run.region ?_))
      refine Run.opG wantS_none (ex_fieldAddr rfl off37_0) rfl ?_
      refine Run.opG wantS_none (ex_load1 rfl (hH35.cells (i := 0) rfl 0 rfl) rdLe_rfl agg3) rfl ?_
      refine Run.opG wantS_none (ex_fieldAddr rfl off37_1) rfl ?_
      refine Run.opG wantS_none (ex_load1 rfl (hH35.cells (i := 0) rfl 1 rfl) rdLe_rfl agg3) rfl ?_
      refine Run.opG wantS_none (ex_gtr rfl rfl) rfl ?_
      refine Run.opG wantS_none (ex_move rfl) rfl ?_
      rcases btf ((decide (x31.High < x31.Low))) with hc36 | hc36
      · have h := bif_t hc36 h
        refine Run.no (wantS_not' rfl rfl hc36) rfl ?_
        refine Run.no (wantS_not' rfl rfl hc36) rfl ?_
        refine Run.no (wantS_not' rfl rfl hc36) rfl ?_
        refine Run.opG wantS_none (ex_pickT' rfl hc36 rfl rfl) rfl ?_
        exact Run.pick [4, 17, 18, 19, 32] (record_CheckModel_3_ok F (record_CheckModel_2 F N) ih v17 v18 v19 true x31 sv17 b33 _ _ _ hv17 hH35 h)
      · have h := bif_f hc36 h
        refine Run.opG (wantS_yes' rfl rfl hc36) (ex_fieldAddr rfl off37_0) rfl ?_
        refine Run.opG (wantS_yes' rfl rfl hc36) (ex_load1 rfl (hH35.cells (i := 0) rfl 0 rfl) rdLe_rfl agg3) rfl ?_
        refine Run.opG (wantS_yes' rfl rfl hc36) (ex_lss rfl rfl) rfl ?_
        refine Run.opG wantS_none (ex_pickF' rfl hc36 rfl rfl) rfl ?_
        exact Run.pick [4, 17, 18, 19, 32] (record_CheckModel_3_ok F (record_CheckModel_2 F N) ih v17 v18 v19 (decide (x31.Low < ((-1048576) : Int))) x31 sv17 b33 _ _ _ hv17 hH35 h)
    · have h := bif_f hc29 h
      refine Run.condF' rfl hc29 ?_
      refine Run.exit rfl (Run.seq (Run.region ?_))
      refine Run.opG wantS_none (ex_assign rfl) rfl ?_
      refine Run.opsEnd ?_
      cases h
      exact Run.ret Tryz.func22 rfl (res_tmp rfl res_nil) rfl

def record_CheckModel_1 (F : Nat) (v15 : Bool) (c22_0 : (List S_api_Tap)) (c22_1 : Int) : Option (Int) :=
  bif v15 then
    some (53 : Int)
  else
    record_CheckModel_2 F F c22_0 (c22_0.length : Int) (0 : Int)

theorem record_CheckModel_1_ok (F : Nat) : ∀ (v15 : Bool) (c22_0 : (List S_api_Tap)) (c22_1 : Int) (sc22_0 : SV) (b22 : Pos) (Fr : Rd) (M : Mem) (r : Int) (hc22_0 : Slc Fr 2 (FlatR enc37) sc22_0 c22_0) (hH : Has Fr M [.obj b22 (.row 24 .whole [sc22_0, (.int .i64 c22_1)])]), record_CheckModel_1 F v15 c22_0 c22_1 = some r → Run Tryz.prog ⟨⟨22, [], none⟩, []⟩ 39 (record_CheckModel_post r) [(1, (.ptr b22 0)), (15, (.bool v15))] [codeC Tryz.prog 22 [1, 0, 1], codeC Tryz.prog 22 [1, 1]] M := by
  intro v15 c22_0 c22_1 sc22_0 b22 Fr M r hc22_0 hH h
  rw [record_CheckModel_1] at h
  rcases btf (v15) with hc28 | hc28
  · have h := bif_t hc28 h
    refine Run.condT' rfl hc28 ?_
    refine Run.seq (Run.region ?_)
    refine Run.opG wantS_none (ex_assign rfl) rfl ?_
    refine Run.opsEnd ?_
    cases h
    exact Run.ret Tryz.func22 rfl (res_tmp rfl res_nil) rfl
  · have h := bif_f hc28 h
    refine Run.condF' rfl hc28 ?_
    refine Run.skip (Run.seq (Run.seq (Run.region ?_)))
    refine Run.opG wantS_none (ex_fieldAddr rfl off24_0) rfl ?_
    refine Run.opG wantS_none (ex_load1 rfl (hH.cells (i := 0) rfl 0 rfl) rdLe_rfl agg22) rfl ?_
    refine Run.opG wantS_none (ex_len' rfl hc22_0 lenk22) rfl ?_
    refine Run.opG wantS_none (ex_move rfl) rfl ?_
    refine Run.opsEnd (Run.block (Run.loop ?_))
    exact Run.pick [17, 18, 19] (record_CheckModel_2_ok F F c22_0 (c22_0.length : Int) (0 : Int) sc22_0 _ _ _ hc22_0 (hH.pick [] rfl rfl) h)

def record_CheckModel (F : Nat) (a0 : S_api_Model) : Option (Int) :=
  bnd (record_isFrom F (1 : Int) (a0.Taps.length : Int) (16 : Int)) fun r25 =>
  bif (!r25) then
    record_CheckModel_1 F true a0.Taps a0.Shift
  else
    bnd (record_isFrom F (0 : Int) a0.Shift (20 : Int)) fun r40 =>
    record_CheckModel_1 F (!r40) a0.Taps a0.Shift

theorem record_CheckModel_ok (F : Nat) (a0 : S_api_Model) (s0 : SV) (r : Int) (M : Mem) (hs0 : Slc (rd M) 2 (FlatR enc37) s0 a0.Taps) (h : record_CheckModel F a0 = some r) : CallsM Tryz.prog 22 [(.agg [s0, (.int .i64 a0.Shift)])] M (fun s M' => s = (.int .i64 r) ∧ M' = M) := by
  refine CallsM.plain Tryz.func22 rfl rfl rfl (show Run _ _ _ (record_CheckModel_post r) _ _ _ from ?_)
  rw [record_CheckModel] at h
  replace hs0 := hs0.mono (rdLe_frozen M) (fun _ _ h => h)
  have hH := Has.nil (frozen M)
  refine Run.seq (Run.region ?_)
  refine Run.opX wantS_none rfl (ExG.box rfl rfl hH) ?_
  rintro _ M23 ⟨b22, rfl, (hH23 : Has (ro (frozen M)) M23 [.obj b22 (.row 24 .whole [s0, (.int .i64 a0.Shift)])])⟩
  refine Run.opG wantS_none (ex_assign rfl) rfl ?_
  refine Run.opsEnd (Run.seq (Run.seq (Run.region ?_)))
  refine Run.opG wantS_none (ex_fieldAddr rfl off24_0) rfl ?_
  refine Run.opG wantS_none (ex_load1 rfl (hH23.cells (i := 0) rfl 0 rfl) rdLe_rfl agg22) rfl ?_
  refine Run.opG wantS_none (ex_len' rfl hs0 lenk22) rfl ?_
  obtain ⟨r25, hr25, h⟩ := bnd_some h
  refine Run.callP wantS_none (ex_call rfl mkk69 cal69) rfl (record_isFrom_ok F (1 : Int) (a0.Taps.length : Int) (16 : Int) _ _ hr25) ?_
  refine Run.opG wantS_none (ex_not rfl) rfl ?_
  refine Run.opG wantS_none (ex_move rfl) rfl ?_
  rcases btf ((!r25)) with hc27 | hc27
  · have h := bif_t hc27 h
    refine Run.no (wantS_not' rfl rfl hc27) rfl ?_
    refine Run.no (wantS_not' rfl rfl hc27) rfl ?_
    refine Run.no (wantS_not' rfl rfl hc27) rfl ?_
    refine Run.no (wantS_not' rfl rfl hc27) rfl ?_
    refine Run.opG wantS_none (ex_pickT' rfl hc27 rfl rfl) rfl ?_
    refine Run.opsEnd ?_
    exact Run.pick [1, 15] (record_CheckModel_1_ok F true a0.Taps a0.Shift s0 b22 _ _ _ hs0 hH23 h)
  · have h := bif_f hc27 h
    refine Run.opG (wantS_yes' rfl rfl hc27) (ex_fieldAddr rfl off24_1) rfl ?_
    refine Run.opG (wantS_yes' rfl rfl hc27) (ex_load1 rfl (hH23.cells (i := 0) rfl 1 rfl) rdLe_rfl agg3) rfl ?_
    obtain ⟨r40, hr40, h⟩ := bnd_some h
    refine Run.callP (wantS_yes' rfl rfl hc27) (ex_call rfl mkk69 cal69) rfl (record_isFrom_ok F (0 : Int) a0.Shift (20 : Int) _ _ hr40) ?_
    refine Run.opG (wantS_yes' rfl rfl hc27) (ex_not rfl) rfl ?_
    refine Run.opG wantS_none (ex_pickF' rfl hc27 rfl rfl) rfl ?_
    refine Run.opsEnd ?_
    exact Run.pick [1, 15] (record_CheckModel_1_ok F (!r40) a0.Taps a0.Shift s0 b22 _ _ _ hs0 hH23 h)

theorem mkk22 : makeK Tryz.prog 22 = none := by kernel_rfl
theorem cal22 : callable Tryz.prog 22 = true := by kernel_rfl
theorem lenk25 : lenK Tryz.prog 25 = some .sl := by kernel_rfl
theorem els25 : elems Tryz.prog 25 = some (.sl 1) := by kernel_rfl
abbrev record_areFrom_post (r : Bool) : SV → Mem → Prop := fun s _ => s = (.bool r)

def record_areFrom_1 (F : Nat) : Nat → Int → (List Int) → Int → Int → Option (Bool)
  | 0, _, _, _, _ => none
  | N + 1, v1, v7, v8, v9 =>
    bif (decide (v9 < v8)) then
      bnd (idx v7 v9) fun x23 =>
      bnd (record_isFrom F (w64 (-v1)) x23 v1) fun r25 =>
      bif (!r25) then
        some false
      else
        (record_areFrom_1 F N) v1 v7 v8 (w64 (v9 + (1 : Int)))
    else
      some true

theorem record_areFrom_1_ok (F : Nat) : ∀ (N : Nat), ∀ (v1 : Int) (v7 : (List Int)) (v8 : Int) (v9 : Int) (sv7 : SV) (Fr : Rd) (M : Mem) (r : Bool) (hv7 : Slc Fr 1 (FlatR enc3) sv7 v7) (hH : Has Fr M []), record_areFrom_1 F N v1 v7 v8 v9 = some r → Run Tryz.prog ⟨⟨70, [], none⟩, []⟩ 20 (record_areFrom_post r) [(1, (.int .i64 v1)), (7, sv7), (8, (.int .i64 v8)), (9, (.int .i64 v9))] [codeC Tryz.prog 70 [1, 0, 1, 0, 0], loopC Tryz.prog 70 [1, 0, 1, 0, 0], .inBlock 0, codeC Tryz.prog 70 [1, 1]] M := by
  intro N
  induction N with
  | zero =>
    intro v1 v7 v8 v9 sv7 Fr M r hv7 hH h
    simp [record_areFrom_1] at h
  | succ N ih =>
    intro v1 v7 v8 v9 sv7 Fr M r hv7 hH h
    rw [record_areFrom_1] at h
    refine Run.seq (Run.region ?_)
    refine Run.opG wantS_none (ex_lss rfl rfl) rfl ?_
    refine Run.opsEnd (Run.seq ?_)
    rcases btf ((decide (v9 < v8))) with hc21 | hc21
    · have h := bif_t hc21 h
      refine Run.condT' rfl hc21 ?_
      refine Run.skip (Run.seq (Run.block (Run.seq (Run.region ?_))))
      obtain ⟨x23, hx23, h⟩ := bnd_some h
      obtain ⟨p23, o23, _, hx23, hp23, rfl⟩ := sl_elem (P := Tryz.prog) (t := 25) (kk := .i64) hv7 hx23 els25
      refine Run.opG wantS_none (ex_elX rfl rfl hx23) rfl ?_
      refine Run.opG wantS_none (ex_load1 rfl (hH.ptrF hp23) rdLe_rfl agg3) rfl ?_
      refine Run.opG wantS_none (ex_assign rfl) rfl ?_
      refine Run.opsEnd (Run.seq (Run.region ?_))
      refine Run.opG wantS_none (ex_move rfl) rfl ?_
      refine Run.opG wantS_none (ex_neg rfl) rfl ?_
      refine Run.opG wantS_none (ex_move rfl) rfl ?_
      refine Run.opG wantS_none (ex_move rfl) rfl ?_
      obtain ⟨r25, hr25, h⟩ := bnd_some h
      refine Run.callP wantS_none (ex_call rfl mkk69 cal69) rfl (record_isFrom_ok F (w64 (-v1)) x23 v1 _ _ hr25) ?_
      refine Run.opG wantS_none (ex_not rfl) rfl ?_
      refine Run.opsEnd ?_
      rcases btf ((!r25)) with hc27 | hc27
      · have h := bif_t hc27 h
        refine Run.condT' rfl hc27 ?_
        refine Run.seq (Run.region ?_)
        refine Run.opG wantS_none (ex_assign rfl) rfl ?_
        refine Run.opsEnd ?_
        cases h
        exact Run.ret Tryz.func70 rfl (res_tmp rfl res_nil) rfl
      · have h := bif_f hc27 h
        refine Run.condF' rfl hc27 ?_
        refine Run.skip (Run.inBlock (Run.region ?_))
        refine Run.opG wantS_none (ex_add rfl rfl) rfl ?_
        refine Run.opG wantS_none (ex_move rfl) rfl ?_
        refine Run.opsEnd (Run.inLoop ?_)
        exact Run.pick [1, 7, 8, 9] (ih v1 v7 v8 (w64 (v9 + (1 : Int))) sv7 _ _ _ hv7 hH h)
    · have h := bif_f hc21 h
      refine Run.condF' rfl hc21 ?_
      refine Run.exit rfl (Run.seq (Run.region ?_))
      refine Run.opG wantS_none (ex_assign rfl) rfl ?_
      refine Run.opsEnd ?_
      cases h
      exact Run.ret Tryz.func70 rfl (res_tmp rfl res_nil) rfl

def record_areFrom (F : Nat) (a0 : (List Int)) (a1 : Int) : Option (Bool) :=
  record_areFrom_1 F F a1 a0 (a0.length : Int) (0 : Int)

theorem record_areFrom_ok (F : Nat) (a0 : (List Int)) (a1 : Int) (s0 : SV) (r : Bool) (M : Mem) (hs0 : Slc (rd M) 1 (FlatR enc3) s0 a0) (h : record_areFrom F a0 a1 = some r) : CallsM Tryz.prog 70 [s0, (.int .i64 a1)] M (fun s M' => s = (.bool r) ∧ M' = M) := by
  refine CallsM.plain Tryz.func70 rfl rfl rfl (show Run _ _ _ (record_areFrom_post r) _ _ _ from ?_)
  rw [record_areFrom] at h
  replace hs0 := hs0.mono (rdLe_frozen M) (fun _ _ h => h)
  have hH := Has.nil (frozen M)
  refine Run.seq (Run.region ?_)
  refine Run.opG wantS_none (ex_assign rfl) rfl ?_
  refine Run.opsEnd (Run.seq (Run.seq (Run.region ?_)))
  refine Run.opG wantS_none (ex_move rfl) rfl ?_
  refine Run.opG wantS_none (ex_len' rfl hs0 lenk25) rfl ?_
  refine Run.opG wantS_none (ex_move rfl) rfl ?_
  refine Run.opsEnd (Run.block (Run.loop ?_))
  exact Run.pick [1, 7, 8, 9] (record_areFrom_1_ok F F a1 a0 (a0.length : Int) (0 : Int) s0 _ _ _ hs0 hH h)

theorem mkk70 : makeK Tryz.prog 70 = none := by kernel_rfl
theorem cal70 : callable Tryz.prog 70 = true := by kernel_rfl
abbrev record_CheckSeries_post (r : Int) : SV → Mem → Prop := fun s _ => s = (.int .i64 r)

def record_CheckSeries_1 (F : Nat) (v10 : Bool) : Option (Int) :=
  bif v10 then
    some (55 : Int)
  else
    some (0 : Int)

theorem record_CheckSeries_1_ok (F : Nat) : ∀ (v10 : Bool) (Fr : Rd) (M : Mem) (r : Int) (hH : Has Fr M []), record_CheckSeries_1 F v10 = some r → Run Tryz.prog ⟨⟨23, [], none⟩, []⟩ 11 (record_CheckSeries_post r) [(10, (.bool v10))] [codeC Tryz.prog 23 [1, 0, 1], codeC Tryz.prog 23 [1, 1]] M := by
  intro v10 Fr M r hH h
  rw [record_CheckSeries_1] at h
  rcases btf (v10) with hc22 | hc22
  · have h := bif_t hc22 h
    refine Run.condT' rfl hc22 ?_
    refine Run.seq (Run.region ?_)
    refine Run.opG wantS_none (ex_assign rfl) rfl ?_
    refine Run.opsEnd ?_
    cases h
    exact Run.ret Tryz.func23 rfl (res_tmp rfl res_nil) rfl
  · have h := bif_f hc22 h
    refine Run.condF' rfl hc22 ?_
    refine Run.skip (Run.seq (Run.region ?_))
    refine Run.opG wantS_none (ex_assign rfl) rfl ?_
    refine Run.opsEnd ?_
    cases h
    exact Run.ret Tryz.func23 rfl (res_tmp rfl res_nil) rfl

def record_CheckSeries (F : Nat) (a0 : (List Int)) : Option (Int) :=
  bif (decide ((4096 : Int) < (a0.length : Int))) then
    record_CheckSeries_1 F true
  else
    bnd (record_areFrom F a0 (8388608 : Int)) fun r24 =>
    record_CheckSeries_1 F (!r24)

theorem record_CheckSeries_ok (F : Nat) (a0 : (List Int)) (s0 : SV) (r : Int) (M : Mem) (hs0 : Slc (rd M) 1 (FlatR enc3) s0 a0) (h : record_CheckSeries F a0 = some r) : CallsM Tryz.prog 23 [s0] M (fun s M' => s = (.int .i64 r) ∧ M' = M) := by
  refine CallsM.plain Tryz.func23 rfl rfl rfl (show Run _ _ _ (record_CheckSeries_post r) _ _ _ from ?_)
  rw [record_CheckSeries] at h
  replace hs0 := hs0.mono (rdLe_frozen M) (fun _ _ h => h)
  have hH := Has.nil (frozen M)
  refine Run.seq (Run.region ?_)
  refine Run.opG wantS_none (ex_assign rfl) rfl ?_
  refine Run.opsEnd (Run.seq (Run.seq (Run.region ?_)))
  refine Run.opG wantS_none (ex_move rfl) rfl ?_
  refine Run.opG wantS_none (ex_len' rfl hs0 lenk25) rfl ?_
  refine Run.opG wantS_none (ex_gtr rfl rfl) rfl ?_
  refine Run.opG wantS_none (ex_move rfl) rfl ?_
  rcases btf ((decide ((4096 : Int) < (a0.length : Int)))) with hc21 | hc21
  · have h := bif_t hc21 h
    refine Run.no (wantS_not' rfl rfl hc21) rfl ?_
    refine Run.no (wantS_not' rfl rfl hc21) rfl ?_
    refine Run.no (wantS_not' rfl rfl hc21) rfl ?_
    refine Run.opG wantS_none (ex_pickT' rfl hc21 rfl rfl) rfl ?_
    refine Run.opsEnd ?_
    exact Run.pick [10] (record_CheckSeries_1_ok F true _ _ _ hH h)
  · have h := bif_f hc21 h
    refine Run.opG (wantS_yes' rfl rfl hc21) (ex_move rfl) rfl ?_
    obtain ⟨r24, hr24, h⟩ := bnd_some h
    refine Run.callP (wantS_yes' rfl rfl hc21) (ex_call rfl mkk70 cal70) rfl (record_areFrom_ok F a0 (8388608 : Int) s0 _ _ (hH.slcF hs0) hr24) ?_
    refine Run.opG (wantS_yes' rfl rfl hc21) (ex_not rfl) rfl ?_
    refine Run.opG wantS_none (ex_pickF' rfl hc21 rfl rfl) rfl ?_
    refine Run.opsEnd ?_
    exact Run.pick [10] (record_CheckSeries_1_ok F (!r24) _ _ _ hH h)

theorem mkk23 : makeK Tryz.prog 23 = none := by kernel_rfl
theorem cal23 : callable Tryz.prog 23 = true := by kernel_rfl
theorem elt28 : sliceElt Tryz.prog 28 = some (⟨2, 16, [(.int .i64 0), (.int .i64 0)], 39⟩ : Elt) := by kernel_rfl
theorem slk25 : slK Tryz.prog 25 = some (.sl 1) := by kernel_rfl
theorem zer39 : zerosOf Tryz.prog 39 = some [(.int .i64 0), (.int .i64 0)] := by kernel_rfl
theorem slk22 : slK Tryz.prog 22 = some (.sl 2) := by kernel_rfl
theorem plan24_1_1_0_1_0_0_1_1_0_0_1_1_0 : planOf Tryz.prog (opsC (atC Tryz.prog 24 [1, 1, 0, 1, 0, 0, 1, 1, 0, 0, 1, 1, 0])) = some [.fl 0, .fl 1, .fl 2, .fl 3, .fl 4, .fl 5, .fl 6, .fl 7, .fl 8, .fl 9, .sync] := by kernel_rfl
theorem pls39 : placesOf Tryz.prog 39 = some (.st [(0, 1), (1, 1)]) := by kernel_rfl
theorem sz39 : szOf Tryz.prog 39 = some 2 := by kernel_rfl
theorem agg39 : aggSize Tryz.prog 39 = some (some 2) := by kernel_rfl
theorem plan24_1_1_1_0 : planOf Tryz.prog (opsC (atC Tryz.prog 24 [1, 1, 1, 0])) = some [.fl 0, .fl 1, .fl 2, .fl 3, .fl 4, .fl 5, .fl 6, .fl 7, .fl 8, .fl 9, .fl 10, .an 11 [], .sync] := by kernel_rfl
abbrev record_bandOf_post (r : S_api_Tap) : SV → Mem → Prop := fun s _ => s = (.agg [(.int .i64 r.Low), (.int .i64 r.High)])

def record_bandOf_1 (F : Nat) : Nat → (List Int) → Int → Int → (List S_api_Tap) → Int → Int → (List S_api_Tap) → Int → S_api_Tap → Option (S_api_Tap)
  | 0, _, _, _, _, _, _, _, _, _ => none
  | N + 1, v1, v5, v6, v20, v21, v22, c22_0, c22_1, c25 =>
    bif (decide (v22 < v21)) then
      bnd (idx v20 v22) fun x31 =>
      bnd (idx v1 (w64 ((w64 ((v1.length : Int) - (1 : Int))) - v22))) fun x37 =>
      (record_bandOf_1 F N) v1 (w64 (v5 + (min (w64 (x31.Low * x37)) (w64 (x31.High * x37))))) (w64 (v6 + (max (w64 (x31.Low * x37)) (w64 (x31.High * x37))))) v20 v21 (w64 (v22 + (1 : Int))) c22_0 c22_1 c25
    else
      bnd (shn c22_1) fun j38 =>
      bnd (shn c22_1) fun j39 =>
      some (S_api_Tap.mk (Int.fdiv v5 (2 ^ (min j38 (IntKind.bits .i64)))) (w64 (-(Int.fdiv (w64 (-v6)) (2 ^ (min j39 (IntKind.bits .i64)))))))

theorem record_bandOf_1_ok (F : Nat) : ∀ (N : Nat), ∀ (v1 : (List Int)) (v5 : Int) (v6 : Int) (v20 : (List S_api_Tap)) (v21 : Int) (v22 : Int) (c22_0 : (List S_api_Tap)) (c22_1 : Int) (c25 : S_api_Tap) (sv1 : SV) (sv20 : SV) (sc22_0 : SV) (b22 : Pos) (b25 : Pos) (Fr : Rd) (M : Mem) (r : S_api_Tap) (hv1 : Slc Fr 1 (FlatR enc3) sv1 v1) (hv20 : Slc Fr 2 (FlatR enc37) sv20 v20) (hc22_0 : Slc Fr 2 (FlatR enc37) sc22_0 c22_0) (hH : Has Fr M [.obj b22 (.row 24 .whole [sc22_0, (.int .i64 c22_1)]), .obj b25 (.row 39 .whole [(.int .i64 c25.Low), (.int .i64 c25.High)])]), record_bandOf_1 F N v1 v5 v6 v20 v21 v22 c22_0 c22_1 c25 = some r → Run Tryz.prog ⟨⟨24, [], none⟩, []⟩ 65 (record_bandOf_post r) [(1, sv1), (2, (.ptr b22 0)), (4, (.ptr b25 0)), (5, (.int .i64 v5)), (6, (.int .i64 v6)), (20, sv20), (21, (.int .i64 v21)), (22, (.int .i64 v22))] [codeC Tryz.prog 24 [1, 1, 0, 1, 0, 0], loopC Tryz.prog 24 [1, 1, 0, 1, 0, 0], .inBlock 0, codeC Tryz.prog 24 [1, 1, 1]] M := by
  intro N
  induction N with
  | zero =>
    intro v1 v5 v6 v20 v21 v22 c22_0 c22_1 c25 sv1 sv20 sc22_0 b22 b25 Fr M r hv1 hv20 hc22_0 hH h
    simp [record_bandOf_1] at h
  | succ N ih =>
    intro v1 v5 v6 v20 v21 v22 c22_0 c22_1 c25 sv1 sv20 sc22_0 b22 b25 Fr M r hv1 hv20 hc22_0 hH h
    rw [record_bandOf_1] at h
    refine Run.seq (Run.region ?_)
    refine Run.opG wantS_none (ex_lss rfl rfl) rfl ?_
    refine Run.opsEnd (Run.seq ?_)
    rcases btf ((decide (v22 < v21))) with hc29 | hc29
    · have h := bif_t hc29 h
      refine Run.condT' rfl hc29 ?_
      refine Run.skip (Run.seq (Run.block (Run.seq (Run.region ?_))))
      refine Run.opG wantS_none (ex_move rfl) rfl ?_
      obtain ⟨x31, hx31, h⟩ := bnd_some h
      obtain ⟨p31, o31, _, hx31, hp31, rfl⟩ := sl_elem (P := Tryz.prog) (t := 22) (kk := .i64) hv20 hx31 els22
      refine Run.opG wantS_none (ex_elX rfl rfl hx31) rfl ?_
      refine Run.opG wantS_none (ex_loadA rfl (hH.ptrF hp31) rdLe_rfl agg37 rfl rfl rfl) rfl ?_
      refine Run.opX wantS_none rfl (ExG.new (v := fun b => .ptr b 0) (ex_alloc zer37) hH) ?_
      rintro _ M34 ⟨b33, rfl, (hH34 : Has Fr M34 [.obj b33 (.row 37 .whole [(.int .i64 0), (.int .i64 0)]), .obj b22 (.row 24 .whole [sc22_0, (.int .i64 c22_1)]), .obj b25 (.row 39 .whole [(.int .i64 c25.Low), (.int .i64 c25.High)])])⟩
      refine Run.opG wantS_none (ex_assign rfl) rfl ?_
      refine Run.opX wantS_none rfl (ExG.storeC (c' := [(.int .i64 x31.Low), (.int .i64 x31.High)]) rfl rfl rfl hH34 (i := 0) rfl sz37 rfl rfl rfl rfl rfl) ?_
      rintro _ M35 ⟨rfl, (hH35 : Has Fr M35 [.obj b33 (.row 37 .whole [(.int .i64 x31.Low), (.int .i64 x31.High)]), .obj b22 (.row 24 .whole [sc22_0, (.int .i64 c22_1)]), .obj b25 (.row 39 .whole [(.int .i64 c25.Low), (.int .i64 c25.High)])])⟩
      refine Run.opsEnd (Run.seq (Run.region ?_))
      refine Run.opG wantS_none (ex_move rfl) rfl ?_
      refine Run.opG wantS_none (ex_move rfl) rfl ?_
      refine Run.opG wantS_none (ex_len' rfl hv1 lenk25) rfl ?_
      refine Run.opG wantS_none (ex_sub rfl rfl) rfl ?_
      refine Run.opG wantS_none (ex_move rfl) rfl ?_
      refine Run.opG wantS_none (ex_sub rfl rfl) rfl ?_
      obtain ⟨x37, hx37, h⟩ := bnd_some h
      obtain ⟨p37, o37, _, hx37, hp37, rfl⟩ := sl_elem (P := Tryz.prog) (t := 25) (kk := .i64) hv1 hx37 els25
      refine Run.opG wantS_none (ex_elX rfl rfl hx37) rfl ?_
      refine Run.opG wantS_none (ex_load1 rfl (hH35.ptrF hp37) rdLe_rfl agg3) rfl ?_
      refine Run.opG wantS_none (ex_assign rfl) rfl ?_
      refine Run.opsEnd (Run.seq ?_)
      refine Run.drawG plan24_1_1_0_1_0_0_1_1_0_0_1_1_0 ?_
      refine DrawG.fl rfl (ev_ex wantS_none (ex_fieldAddr rfl off37_0)) rfl ?_
      refine DrawG.fl rfl (ev_ex wantS_none (ex_load1 rfl (hH35.cells (i := 0) rfl 0 rfl) rdLe_rfl agg3)) rfl ?_
      refine DrawG.fl rfl (ev_ex wantS_none (ex_move rfl)) rfl ?_
      refine DrawG.fl rfl (ev_ex wantS_none (ex_mul rfl rfl)) rfl ?_
      refine DrawG.fl rfl (ev_ex wantS_none (ex_fieldAddr rfl off37_1)) rfl ?_
      refine DrawG.fl rfl (ev_ex wantS_none (ex_load1 rfl (hH35.cells (i := 0) rfl 1 rfl) rdLe_rfl agg3)) rfl ?_
      refine DrawG.fl rfl (ev_ex wantS_none (ex_move rfl)) rfl ?_
      refine DrawG.fl rfl (ev_ex wantS_none (ex_mul rfl rfl)) rfl ?_
      refine DrawG.fl rfl (ev_ex wantS_none (ex_assign rfl)) rfl ?_
      refine DrawG.fl rfl (ev_ex wantS_none (ex_assign rfl)) rfl ?_
      refine DrawG.sync ?_
      refine DrawG.nil ?_
      refine Run.seq (Run.region ?_)
      refine Run.opG wantS_none (ex_move rfl) rfl ?_
      refine Run.opG wantS_none (ex_move rfl) rfl ?_
      refine Run.opG wantS_none (ex_move rfl) rfl ?_
      refine Run.opG wantS_none (ex_min rfl rfl) rfl ?_
      refine Run.opG wantS_none (ex_add rfl rfl) rfl ?_
      refine Run.opG wantS_none (ex_assign rfl) rfl ?_
      refine Run.opsEnd (Run.region ?_)
      refine Run.opG wantS_none (ex_move rfl) rfl ?_
      refine Run.opG wantS_none (ex_move rfl) rfl ?_
      refine Run.opG wantS_none (ex_move rfl) rfl ?_
      refine Run.opG wantS_none (ex_max rfl rfl) rfl ?_
      refine Run.opG wantS_none (ex_add rfl rfl) rfl ?_
      refine Run.opG wantS_none (ex_assign rfl) rfl ?_
      refine Run.opsEnd (Run.inBlock (Run.region ?_))
      refine Run.opG wantS_none (ex_add rfl rfl) rfl ?_
      refine Run.opG wantS_none (ex_move rfl) rfl ?_
      refine Run.opsEnd (Run.inLoop ?_)
      exact Run.pick [1, 2, 4, 5, 6, 20, 21, 22] (ih v1 (w64 (v5 + (min (w64 (x31.Low * x37)) (w64 (x31.High * x37))))) (w64 (v6 + (max (w64 (x31.Low * x37)) (w64 (x31.High * x37))))) v20 v21 (w64 (v22 + (1 : Int))) c22_0 c22_1 c25 sv1 sv20 sc22_0 b22 b25 _ _ _ hv1 hv20 hc22_0 (hH35.pick [1, 2] rfl rfl) h)
    · have h := bif_f hc29 h
      refine Run.condF' rfl hc29 ?_
      refine Run.exit rfl (Run.seq ?_)
      refine Run.drawG plan24_1_1_1_0 ?_
      refine DrawG.fl rfl (ev_ex wantS_none (ex_move rfl)) rfl ?_
      refine DrawG.fl rfl (ev_ex wantS_none (ex_fieldAddr rfl off24_1)) rfl ?_
      refine DrawG.fl rfl (ev_ex wantS_none (ex_load1 rfl (hH.cells (i := 0) rfl 1 rfl) rdLe_rfl agg3)) rfl ?_
      obtain ⟨j38, hj38, h⟩ := bnd_some h
      refine DrawG.fl rfl (ev_ex wantS_none (ex_shr' rfl rfl hj38)) rfl ?_
      refine DrawG.fl rfl (ev_ex wantS_none (ex_move rfl)) rfl ?_
      refine DrawG.fl rfl (ev_ex wantS_none (ex_neg rfl)) rfl ?_
      refine DrawG.fl rfl (ev_ex wantS_none (ex_fieldAddr rfl off24_1)) rfl ?_
      refine DrawG.fl rfl (ev_ex wantS_none (ex_load1 rfl (hH.cells (i := 0) rfl 1 rfl) rdLe_rfl agg3)) rfl ?_
      obtain ⟨j39, hj39, h⟩ := bnd_some h
      refine DrawG.fl rfl (ev_ex wantS_none (ex_shr' rfl rfl hj39)) rfl ?_
      refine DrawG.fl rfl (ev_ex wantS_none (ex_neg rfl)) rfl ?_
      refine DrawG.fl rfl (ev_ex wantS_none (ex_build (r := [(.int .i64 (Int.fdiv v5 (2 ^ (min j38 (IntKind.bits .i64))))), (.int .i64 (w64 (-(Int.fdiv (w64 (-v6)) (2 ^ (min j39 (IntKind.bits .i64)))))))]) rfl zer39 pls39 rfl)) rfl ?_
      refine DrawG.opX rfl wantS_none rfl (ExG.storeC (c' := [(.int .i64 (Int.fdiv v5 (2 ^ (min j38 (IntKind.bits .i64))))), (.int .i64 (w64 (-(Int.fdiv (w64 (-v6)) (2 ^ (min j39 (IntKind.bits .i64)))))))]) rfl rfl rfl hH (i := 1) rfl sz39 rfl rfl rfl rfl rfl) ?_
      rintro _ M40 ⟨rfl, (hH40 : Has Fr M40 [.obj b22 (.row 24 .whole [sc22_0, (.int .i64 c22_1)]), .obj b25 (.row 39 .whole [(.int .i64 (Int.fdiv v5 (2 ^ (min j38 (IntKind.bits .i64))))), (.int .i64 (w64 (-(Int.fdiv (w64 (-v6)) (2 ^ (min j39 (IntKind.bits .i64)))))))])])⟩
      refine ⟨st_nil, ?_⟩
      refine DrawG.sync ?_
      refine DrawG.nil ?_
      cases h
      exact Run.ret Tryz.func24 rfl (res_cell rfl (x_load (ex_loadA rfl (hH40.cells (i := 1) rfl 0 rfl) rdLe_rfl agg39 rfl rfl rfl)) res_nil) rfl

def record_bandOf (F : Nat) (a0 : S_api_Model) (a1 : (List Int)) : Option (S_api_Tap) :=
  bnd (sub a0.Taps 0 (min (a0.Taps.length : Int) (a1.length : Int))) fun l28 =>
  record_bandOf_1 F F a1 (0 : Int) (0 : Int) l28 (l28.length : Int) (0 : Int) a0.Taps a0.Shift (S_api_Tap.mk 0 0)

theorem record_bandOf_ok (F : Nat) (a0 : S_api_Model) (a1 : (List Int)) (s0 s1 : SV) (r : S_api_Tap) (M : Mem) (hs0 : Slc (rd M) 2 (FlatR enc37) s0 a0.Taps) (hs1 : Slc (rd M) 1 (FlatR enc3) s1 a1) (h : record_bandOf F a0 a1 = some r) : CallsM Tryz.prog 24 [(.agg [s0, (.int .i64 a0.Shift)]), s1] M (fun s M' => s = (.agg [(.int .i64 r.Low), (.int .i64 r.High)]) ∧ M' = M) := by
  refine CallsM.plain Tryz.func24 rfl rfl rfl (show Run _ _ _ (record_bandOf_post r) _ _ _ from ?_)
  rw [record_bandOf] at h
  replace hs0 := hs0.mono (rdLe_frozen M) (fun _ _ h => h)
  replace hs1 := hs1.mono (rdLe_frozen M) (fun _ _ h => h)
  have hH := Has.nil (frozen M)
  refine Run.seq (Run.region ?_)
  refine Run.opX wantS_none rfl (ExG.box rfl rfl hH) ?_
  rintro _ M23 ⟨b22, rfl, (hH23 : Has (ro (frozen M)) M23 [.obj b22 (.row 24 .whole [s0, (.int .i64 a0.Shift)])])⟩
  refine Run.opX wantS_none rfl (ExG.new (v := fun b => .ptr b 0) (ex_alloc zer39) hH23) ?_
  rintro _ M26 ⟨b25, rfl, (hH26 : Has (ro (frozen M)) M26 [.obj b25 (.row 39 .whole [(.int .i64 0), (.int .i64 0)]), .obj b22 (.row 24 .whole [s0, (.int .i64 a0.Shift)])])⟩
  refine Run.opsEnd (Run.seq (Run.region ?_))
  refine Run.opG wantS_none (ex_assign rfl) rfl ?_
  refine Run.opG wantS_none (ex_assign rfl) rfl ?_
  refine Run.opsEnd (Run.seq (Run.seq (Run.region ?_)))
  refine Run.opG wantS_none (ex_fieldAddr rfl off24_0) rfl ?_
  refine Run.opG wantS_none (ex_load1 rfl (hH26.cells (i := 1) rfl 0 rfl) rdLe_rfl agg22) rfl ?_
  refine Run.opG wantS_none (ex_fieldAddr rfl off24_0) rfl ?_
  refine Run.opG wantS_none (ex_load1 rfl (hH26.cells (i := 1) rfl 0 rfl) rdLe_rfl agg22) rfl ?_
  refine Run.opG wantS_none (ex_len' rfl hs0 lenk22) rfl ?_
  refine Run.opG wantS_none (ex_move rfl) rfl ?_
  refine Run.opG wantS_none (ex_len' rfl hs1 lenk25) rfl ?_
  refine Run.opG wantS_none (ex_min rfl rfl) rfl ?_
  obtain ⟨l28, hl28, h⟩ := bnd_some h
  obtain ⟨s28, hx28, hs28⟩ := sl_subH (P := Tryz.prog) (t := 22) (k0 := .i64) hs0 hl28 slk22
  refine Run.opG wantS_none (ex_slX rfl (argO_none) (argO_some rfl) hx28) rfl ?_
  refine Run.opG wantS_none (ex_len' rfl hs28 lenk22) rfl ?_
  refine Run.opG wantS_none (ex_move rfl) rfl ?_
  refine Run.opsEnd (Run.block (Run.loop ?_))
  exact Run.pick [1, 2, 4, 5, 6, 20, 21, 22] (record_bandOf_1_ok F F a1 (0 : Int) (0 : Int) l28 (l28.length : Int) (0 : Int) a0.Taps a0.Shift (S_api_Tap.mk 0 0) s1 s28 s0 b22 b25 _ _ _ hs1 hs28 hs0 (hH26.pick [1, 0] rfl rfl) h)

theorem mkk24 : makeK Tryz.prog 24 = none := by kernel_rfl
theorem cal24 : callable Tryz.prog 24 = true := by kernel_rfl
theorem els28 : elems Tryz.prog 28 = some (.sl 2) := by kernel_rfl
theorem plan6_1_1_1_1_0_1_0_0_1_1_0_0_1 : planOf Tryz.prog (opsC (atC Tryz.prog 6 [1, 1, 1, 1, 0, 1, 0, 0, 1, 1, 0, 0, 1])) = some [.fl 0, .fl 1, .fl 2, .fl 3, .fl 4, .fl 5, .fl 6, .an 7 [1, 0], .fl 8, .an 9 [], .sync] := by kernel_rfl
abbrev record_Strain_post (r : (List S_api_Tap) × Int) : SV → Mem → Prop := fun s Me => ∃ q1, s = (.tuple [q1, (.int .i64 r.2)]) ∧ Has (fun _ => none) Me [.vec 39 2 r.1.length q1 (r.1.flatMap enc39)]

def record_Strain_1 (F : Nat) : Nat → (List Int) → Int → Int → (List S_api_Tap) → Int → (List S_api_Tap) → Option ((List S_api_Tap) × Int)
  | 0, _, _, _, _, _, _ => none
  | N + 1, v1, v24, v25, c22_0, c22_1, l37 =>
    bif (decide (v25 < v24)) then
      bnd (sub v1 0 (w64 (v25 + (1 : Int)))) fun l40 =>
      bnd (record_bandOf F (S_api_Model.mk c22_0 c22_1) l40) fun r41 =>
      bnd (inn l37 v25) fun o43 =>
      bnd (upd l37 o43 r41) fun l44 =>
      (record_Strain_1 F N) v1 v24 (w64 (v25 + (1 : Int))) c22_0 c22_1 l44
    else
      some (l37, (0 : Int))

theorem record_Strain_1_ok (F : Nat) : ∀ (N : Nat), ∀ (v1 : (List Int)) (v24 : Int) (v25 : Int) (c22_0 : (List S_api_Tap)) (c22_1 : Int) (l37 : (List S_api_Tap)) (sv1 : SV) (sc22_0 : SV) (b22 : Pos) (s37 : SV) (Fr : Rd) (M : Mem) (r : (List S_api_Tap) × Int) (hv1 : Slc Fr 1 (FlatR enc3) sv1 v1) (hc22_0 : Slc Fr 2 (FlatR enc37) sc22_0 c22_0) (hH : Has Fr M [.obj b22 (.row 24 .whole [sc22_0, (.int .i64 c22_1)]), .vec 39 2 l37.length s37 (l37.flatMap enc39)]), record_Strain_1 F N v1 v24 v25 c22_0 c22_1 l37 = some r → Run Tryz.prog ⟨⟨6, [], none⟩, []⟩ 39 (record_Strain_post r) [(1, sv1), (2, (.ptr b22 0)), (8, s37), (24, (.int .i64 v24)), (25, (.int .i64 v25))] [codeC Tryz.prog 6 [1, 1, 1, 1, 0, 1, 0, 0], loopC Tryz.prog 6 [1, 1, 1, 1, 0, 1, 0, 0], .inBlock 0, codeC Tryz.prog 6 [1, 1, 1, 1, 1]] M := by
  intro N
  induction N with
  | zero =>
    intro v1 v24 v25 c22_0 c22_1 l37 sv1 sc22_0 b22 s37 Fr M r hv1 hc22_0 hH h
    simp [record_Strain_1] at h
  | succ N ih =>
    intro v1 v24 v25 c22_0 c22_1 l37 sv1 sc22_0 b22 s37 Fr M r hv1 hc22_0 hH h
    rw [record_Strain_1] at h
    refine Run.seq (Run.region ?_)
    refine Run.opG wantS_none (ex_lss rfl rfl) rfl ?_
    refine Run.opsEnd (Run.seq ?_)
    rcases btf ((decide (v25 < v24))) with hc39 | hc39
    · have h := bif_t hc39 h
      refine Run.condT' rfl hc39 ?_
      refine Run.skip (Run.seq (Run.block (Run.seq (Run.region ?_))))
      refine Run.opG wantS_none (ex_move rfl) rfl ?_
      refine Run.opG wantS_none (ex_assign rfl) rfl ?_
      refine Run.opsEnd ?_
      refine Run.drawG plan6_1_1_1_1_0_1_0_0_1_1_0_0_1 ?_
      refine DrawG.fl rfl (ev_ex wantS_none (ex_move rfl)) rfl ?_
      refine DrawG.fl rfl (ev_ex wantS_none (ex_move rfl)) rfl ?_
      refine DrawG.fl rfl (ev_ex wantS_none (ex_loadA rfl (hH.cells (i := 0) rfl 0 rfl) rdLe_rfl agg24 rfl rfl rfl)) rfl ?_
      refine DrawG.fl rfl (ev_ex wantS_none (ex_move rfl)) rfl ?_
      refine DrawG.fl rfl (ev_ex wantS_none (ex_move rfl)) rfl ?_
      refine DrawG.fl rfl (ev_ex wantS_none (ex_add rfl rfl)) rfl ?_
      obtain ⟨l40, hl40, h⟩ := bnd_some h
      obtain ⟨s40, hx40, hs40⟩ := sl_subH (P := Tryz.prog) (t := 25) (k0 := .i64) hv1 hl40 slk25
      refine DrawG.fl rfl (ev_ex wantS_none (ex_slX rfl (argO_none) (argO_some rfl) hx40)) rfl ?_
      obtain ⟨r41, hr41, h⟩ := bnd_some h
      refine DrawG.callP rfl wantS_none (ex_call rfl mkk24 cal24) rfl (record_bandOf_ok F (S_api_Model.mk c22_0 c22_1) l40 sc22_0 s40 _ _ (hH.slcF hc22_0) (hH.slcF hs40) hr41) (st_cons rfl (ev_ex wantS_none (ex_move rfl)) rfl rfl rfl (st_cons rfl (ev_ex wantS_none (ex_move rfl)) rfl rfl (blk_self hH (i := 1) rfl) st_nil)) ?_
      obtain ⟨o43, ho43, h⟩ := bnd_some h
      obtain ⟨p43, hb43, hx43⟩ := vec_place (P := Tryz.prog) (t := 28) (kk := .i64) hH (i := 1) rfl ho43 els28
      refine DrawG.fl rfl (ev_ex wantS_none (ex_elX rfl rfl hx43)) rfl ?_
      obtain ⟨l44, hl44, h⟩ := bnd_some h
      refine DrawG.opX rfl wantS_none rfl (ExG.storeEl rfl rfl hH (i := 1) rfl hb43 hl44 sz39 rfl enc39_len enc39_ones) ?_
      rintro _ M45 ⟨rfl, (hH45 : Has Fr M45 [.obj b22 (.row 24 .whole [sc22_0, (.int .i64 c22_1)]), .vec 39 2 l44.length s37 (l44.flatMap enc39)])⟩
      refine ⟨st_nil, ?_⟩
      refine DrawG.sync ?_
      refine DrawG.nil ?_
      refine Run.inBlock (Run.region ?_)
      refine Run.opG wantS_none (ex_add rfl rfl) rfl ?_
      refine Run.opG wantS_none (ex_move rfl) rfl ?_
      refine Run.opsEnd (Run.inLoop ?_)
      exact Run.pick [1, 2, 8, 24, 25] (ih v1 v24 (w64 (v25 + (1 : Int))) c22_0 c22_1 l44 sv1 sc22_0 b22 s37 _ _ _ hv1 hc22_0 hH45 h)
    · have h := bif_f hc39 h
      refine Run.condF' rfl hc39 ?_
      refine Run.exit rfl (Run.seq (Run.region ?_))
      refine Run.opG wantS_none (ex_move rfl) rfl ?_
      refine Run.opG wantS_none (ex_assign rfl) rfl ?_
      refine Run.opG wantS_none (ex_assign rfl) rfl ?_
      refine Run.opsEnd ?_
      cases h
      exact Run.ret Tryz.func6 rfl (res_tmp rfl (res_tmp rfl res_nil)) ⟨_, rfl, (hH.pick [1] rfl rfl).upF (none_le _)⟩

def record_Strain (F : Nat) (a0 : S_api_Model) (a1 : (List Int)) : Option ((List S_api_Tap) × Int) :=
  bnd (record_CheckModel F a0) fun r25 =>
  bif (!(r25 == (0 : Int))) then
    some (([] : List S_api_Tap), r25)
  else
    bnd (record_CheckSeries F a1) fun r31 =>
    bif (!(r31 == (0 : Int))) then
      some (([] : List S_api_Tap), r31)
    else
      bnd (mk (a1.length : Int) 16 (S_api_Tap.mk (0 : Int) (0 : Int))) fun l37 =>
      record_Strain_1 F F a1 (a1.length : Int) (0 : Int) a0.Taps a0.Shift l37

theorem record_Strain_ok (F : Nat) (a0 : S_api_Model) (a1 : (List Int)) (s0 s1 : SV) (r : (List S_api_Tap) × Int) (M : Mem) (hs0 : Slc (rd M) 2 (FlatR enc37) s0 a0.Taps) (hs1 : Slc (rd M) 1 (FlatR enc3) s1 a1) (h : record_Strain F a0 a1 = some r) : CallsM Tryz.prog 6 [(.agg [s0, (.int .i64 a0.Shift)]), s1] M (fun s M' => ∃ q1, s = (.tuple [q1, (.int .i64 r.2)]) ∧ New M M' [.vec 39 2 r.1.length q1 (r.1.flatMap enc39)]) := by
  refine CallsM.fresh (Q := record_Strain_post r) Tryz.func6 rfl rfl ?_ (by rintro s Me ⟨q1, rfl, hx⟩ ha hw; exact ⟨_, rfl, New.of rfl hx ha hw⟩)
  rw [record_Strain] at h
  replace hs0 := hs0.mono (rdLe_frozen M) (fun _ _ h => h)
  replace hs1 := hs1.mono (rdLe_frozen M) (fun _ _ h => h)
  have hH := Has.nil (frozen M)
  refine Run.seq (Run.region ?_)
  refine Run.opX wantS_none rfl (ExG.box rfl rfl hH) ?_
  rintro _ M23 ⟨b22, rfl, (hH23 : Has (ro (frozen M)) M23 [.obj b22 (.row 24 .whole [s0, (.int .i64 a0.Shift)])])⟩
  refine Run.opG wantS_none (ex_assign rfl) rfl ?_
  refine Run.opG wantS_none (ex_assign rfl) rfl ?_
  refine Run.opsEnd (Run.seq (Run.seq (Run.region ?_)))
  refine Run.opG wantS_none (ex_loadA rfl (hH23.cells (i := 0) rfl 0 rfl) rdLe_rfl agg24 rfl rfl rfl) rfl ?_
  obtain ⟨r25, hr25, h⟩ := bnd_some h
  refine Run.callP wantS_none (ex_call rfl mkk22 cal22) rfl (record_CheckModel_ok F a0 s0 _ _ (hH23.slcF hs0) hr25) ?_
  refine Run.opG wantS_none (ex_assign rfl) rfl ?_
  refine Run.opsEnd (Run.seq (Run.region ?_))
  refine Run.opG wantS_none (ex_move rfl) rfl ?_
  refine Run.opG wantS_none (ex_neq rfl rfl) rfl ?_
  refine Run.opsEnd ?_
  rcases btf ((!(r25 == (0 : Int)))) with hc27 | hc27
  · have h := bif_t hc27 h
    refine Run.condT' rfl hc27 ?_
    refine Run.seq (Run.region ?_)
    refine Run.opG wantS_none (ex_move rfl) rfl ?_
    refine Run.opG wantS_none (ex_assign rfl) rfl ?_
    refine Run.opG wantS_none (ex_assign rfl) rfl ?_
    refine Run.opsEnd ?_
    have hH29 : Has (ro (frozen M)) M23 [.vec 39 2 ([] : List S_api_Tap).length .nils (([] : List S_api_Tap).flatMap enc39), .obj b22 (.row 24 .whole [s0, (.int .i64 a0.Shift)])] := hH23.nils 39 2
    cases h
    exact Run.ret Tryz.func6 rfl (res_tmp rfl (res_tmp rfl res_nil)) ⟨_, rfl, (hH29.pick [0] rfl rfl).upF (none_le _)⟩
  · have h := bif_f hc27 h
    refine Run.condF' rfl hc27 ?_
    refine Run.skip (Run.seq (Run.seq (Run.region ?_)))
    refine Run.opG wantS_none (ex_move rfl) rfl ?_
    obtain ⟨r31, hr31, h⟩ := bnd_some h
    refine Run.callP wantS_none (ex_call rfl mkk23 cal23) rfl (record_CheckSeries_ok F a1 s1 _ _ (hH23.slcF hs1) hr31) ?_
    refine Run.opG wantS_none (ex_assign rfl) rfl ?_
    refine Run.opsEnd (Run.seq (Run.region ?_))
    refine Run.opG wantS_none (ex_move rfl) rfl ?_
    refine Run.opG wantS_none (ex_neq rfl rfl) rfl ?_
    refine Run.opsEnd ?_
    rcases btf ((!(r31 == (0 : Int)))) with hc33 | hc33
    · have h := bif_t hc33 h
      refine Run.condT' rfl hc33 ?_
      refine Run.seq (Run.region ?_)
      refine Run.opG wantS_none (ex_move rfl) rfl ?_
      refine Run.opG wantS_none (ex_assign rfl) rfl ?_
      refine Run.opG wantS_none (ex_assign rfl) rfl ?_
      refine Run.opsEnd ?_
      have hH35 : Has (ro (frozen M)) M23 [.vec 39 2 ([] : List S_api_Tap).length .nils (([] : List S_api_Tap).flatMap enc39), .obj b22 (.row 24 .whole [s0, (.int .i64 a0.Shift)])] := hH23.nils 39 2
      cases h
      exact Run.ret Tryz.func6 rfl (res_tmp rfl (res_tmp rfl res_nil)) ⟨_, rfl, (hH35.pick [0] rfl rfl).upF (none_le _)⟩
    · have h := bif_f hc33 h
      refine Run.condF' rfl hc33 ?_
      refine Run.skip (Run.seq (Run.region ?_))
      refine Run.opG wantS_none (ex_move rfl) rfl ?_
      refine Run.opG wantS_none (ex_len' rfl hs1 lenk25) rfl ?_
      obtain ⟨l37, hl37, h⟩ := bnd_some h
      refine Run.opX wantS_none rfl (ExG.make (enc := enc39) (z := 2) rfl rfl hl37 elt28 rfl rfl enc39_len hH23) ?_
      rintro s37 M38 (hH38 : Has (ro (frozen M)) M38 [.vec 39 2 l37.length s37 (l37.flatMap enc39), .obj b22 (.row 24 .whole [s0, (.int .i64 a0.Shift)])])
      refine Run.opG wantS_none (ex_assign rfl) rfl ?_
      refine Run.opsEnd (Run.seq (Run.seq (Run.region ?_)))
      refine Run.opG wantS_none (ex_move rfl) rfl ?_
      refine Run.opG wantS_none (ex_len' rfl hs1 lenk25) rfl ?_
      refine Run.opG wantS_none (ex_move rfl) rfl ?_
      refine Run.opsEnd (Run.block (Run.loop ?_))
      exact Run.pick [1, 2, 8, 24, 25] (record_Strain_1_ok F F a1 (a1.length : Int) (0 : Int) a0.Taps a0.Shift l37 s1 s0 b22 s37 _ _ _ hs1 hs0 (hH38.pick [1, 0] rfl rfl) h)

theorem mkk6 : makeK Tryz.prog 6 = none := by kernel_rfl
theorem cal6 : callable Tryz.prog 6 = true := by kernel_rfl
theorem agg27 : aggSize Tryz.prog 27 = some (some 2) := by kernel_rfl
abbrev bank_isFrom_post (r : Bool) : SV → Mem → Prop := fun s _ => s = (.bool r)

def bank_isFrom_1 (F : Nat) (v14 : Bool) : Option (Bool) :=
  some v14

theorem bank_isFrom_1_ok (F : Nat) : ∀ (v14 : Bool) (Fr : Rd) (M : Mem) (r : Bool) (hH : Has Fr M []), bank_isFrom_1 F v14 = some r → Run Tryz.prog ⟨⟨39, [], none⟩, []⟩ 15 (bank_isFrom_post r) [(14, (.bool v14))] [itemC Tryz.prog 39 [1, 0] 8, codeC Tryz.prog 39 [1, 1]] M := by
  intro v14 Fr M r hH h
  rw [bank_isFrom_1] at h
  refine Run.opG wantS_none (ex_assign rfl) rfl ?_
  refine Run.opsEnd ?_
  cases h
  exact Run.ret Tryz.func39 rfl (res_tmp rfl res_nil) rfl

def bank_isFrom (F : Nat) (a0 : Int) (a1 : Int) (a2 : Int) : Option (Bool) :=
  bif (decide (a0 ≤ a1)) then
    bank_isFrom_1 F (decide (a1 ≤ a2))
  else
    bank_isFrom_1 F false

theorem bank_isFrom_ok (F : Nat) (a0 : Int) (a1 : Int) (a2 : Int) (r : Bool) (M : Mem) (h : bank_isFrom F a0 a1 a2 = some r) : CallsM Tryz.prog 39 [(.int .i64 a0), (.int .i64 a1), (.int .i64 a2)] M (fun s M' => s = (.bool r) ∧ M' = M) := by
  refine CallsM.plain Tryz.func39 rfl rfl rfl (show Run _ _ _ (bank_isFrom_post r) _ _ _ from ?_)
  rw [bank_isFrom] at h
  have hH := Has.nil (frozen M)
  refine Run.seq (Run.region ?_)
  refine Run.opG wantS_none (ex_assign rfl) rfl ?_
  refine Run.opsEnd (Run.seq (Run.region ?_))
  refine Run.opG wantS_none (ex_move rfl) rfl ?_
  refine Run.opG wantS_none (ex_move rfl) rfl ?_
  refine Run.opG wantS_none (ex_leq rfl rfl) rfl ?_
  refine Run.opG wantS_none (ex_move rfl) rfl ?_
  rcases btf ((decide (a0 ≤ a1))) with hc21 | hc21
  · have h := bif_t hc21 h
    refine Run.opG (wantS_yes' rfl rfl hc21) (ex_move rfl) rfl ?_
    refine Run.opG (wantS_yes' rfl rfl hc21) (ex_move rfl) rfl ?_
    refine Run.opG (wantS_yes' rfl rfl hc21) (ex_leq rfl rfl) rfl ?_
    refine Run.opG wantS_none (ex_pickT' rfl hc21 rfl rfl) rfl ?_
    exact Run.pick [14] (bank_isFrom_1_ok F (decide (a1 ≤ a2)) _ _ _ hH h)
  · have h := bif_f hc21 h
    refine Run.no (wantS_not' rfl rfl hc21) rfl ?_
    refine Run.no (wantS_not' rfl rfl hc21) rfl ?_
    refine Run.no (wantS_not' rfl rfl hc21) rfl ?_
    refine Run.opG wantS_none (ex_pickF' rfl hc21 rfl rfl) rfl ?_
    exact Run.pick [14] (bank_isFrom_1_ok F false _ _ _ hH h)

theorem mkk39 : makeK Tryz.prog 39 = none := by kernel_rfl
theorem cal39 : callable Tryz.prog 39 = true := by kernel_rfl
abbrev bank_isLength_post (r : Bool) : SV → Mem → Prop := fun s _ => s = (.bool r)

def bank_isLength (F : Nat) (a0 : Int) : Option (Bool) :=
  bnd (bank_isFrom F (4 : Int) a0 (64 : Int)) fun r22 =>
  some r22

theorem bank_isLength_ok (F : Nat) (a0 : Int) (r : Bool) (M : Mem) (h : bank_isLength F a0 = some r) : CallsM Tryz.prog 36 [(.int .i64 a0)] M (fun s M' => s = (.bool r) ∧ M' = M) := by
  refine CallsM.plain Tryz.func36 rfl rfl rfl (show Run _ _ _ (bank_isLength_post r) _ _ _ from ?_)
  rw [bank_isLength] at h
  have hH := Has.nil (frozen M)
  refine Run.seq (Run.region ?_)
  refine Run.opG wantS_none (ex_assign rfl) rfl ?_
  refine Run.opsEnd (Run.seq (Run.region ?_))
  refine Run.opG wantS_none (ex_move rfl) rfl ?_
  obtain ⟨r22, hr22, h⟩ := bnd_some h
  refine Run.callP wantS_none (ex_call rfl mkk39 cal39) rfl (bank_isFrom_ok F (4 : Int) a0 (64 : Int) _ _ hr22) ?_
  refine Run.opG wantS_none (ex_assign rfl) rfl ?_
  refine Run.opsEnd ?_
  cases h
  exact Run.ret Tryz.func36 rfl (res_tmp rfl res_nil) rfl

theorem mkk36 : makeK Tryz.prog 36 = none := by kernel_rfl
theorem cal36 : callable Tryz.prog 36 = true := by kernel_rfl
theorem off27_0 : fieldOff Tryz.prog 27 0 = some 0 := by kernel_rfl
abbrev bank_isPhase_post (r : Bool) : SV → Mem → Prop := fun s _ => s = (.bool r)

def bank_isPhase (F : Nat) (a0 : Int) : Option (Bool) :=
  bnd (bank_isFrom F (0 : Int) a0 (63 : Int)) fun r22 =>
  some r22

theorem bank_isPhase_ok (F : Nat) (a0 : Int) (r : Bool) (M : Mem) (h : bank_isPhase F a0 = some r) : CallsM Tryz.prog 117 [(.int .i64 a0)] M (fun s M' => s = (.bool r) ∧ M' = M) := by
  refine CallsM.plain Tryz.func117 rfl rfl rfl (show Run _ _ _ (bank_isPhase_post r) _ _ _ from ?_)
  rw [bank_isPhase] at h
  have hH := Has.nil (frozen M)
  refine Run.seq (Run.region ?_)
  refine Run.opG wantS_none (ex_assign rfl) rfl ?_
  refine Run.opsEnd (Run.seq (Run.region ?_))
  refine Run.opG wantS_none (ex_move rfl) rfl ?_
  obtain ⟨r22, hr22, h⟩ := bnd_some h
  refine Run.callP wantS_none (ex_call rfl mkk39 cal39) rfl (bank_isFrom_ok F (0 : Int) a0 (63 : Int) _ _ hr22) ?_
  refine Run.opG wantS_none (ex_assign rfl) rfl ?_
  refine Run.opsEnd ?_
  cases h
  exact Run.ret Tryz.func117 rfl (res_tmp rfl res_nil) rfl

theorem mkk117 : makeK Tryz.prog 117 = none := by kernel_rfl
theorem cal117 : callable Tryz.prog 117 = true := by kernel_rfl
theorem off27_1 : fieldOff Tryz.prog 27 1 = some 1 := by kernel_rfl
abbrev bank_isChirp_post (r : Bool) : SV → Mem → Prop := fun s _ => s = (.bool r)

def bank_isChirp_1 (F : Nat) (v10 : Bool) : Option (Bool) :=
  some v10

theorem bank_isChirp_1_ok (F : Nat) : ∀ (v10 : Bool) (Fr : Rd) (M : Mem) (r : Bool) (hH : Has Fr M []), bank_isChirp_1 F v10 = some r → Run Tryz.prog ⟨⟨71, [], none⟩, []⟩ 11 (bank_isChirp_post r) [(10, (.bool v10))] [itemC Tryz.prog 71 [1, 0] 8, codeC Tryz.prog 71 [1, 1]] M := by
  intro v10 Fr M r hH h
  rw [bank_isChirp_1] at h
  refine Run.opG wantS_none (ex_assign rfl) rfl ?_
  refine Run.opsEnd ?_
  cases h
  exact Run.ret Tryz.func71 rfl (res_tmp rfl res_nil) rfl

def bank_isChirp (F : Nat) (a0 : S_api_Chirp) : Option (Bool) :=
  bnd (bank_isPhase F a0.P) fun r25 =>
  bif r25 then
    bnd (bank_isPhase F a0.Q) fun r29 =>
    bank_isChirp_1 F r29
  else
    bank_isChirp_1 F false

theorem bank_isChirp_ok (F : Nat) (a0 : S_api_Chirp) (r : Bool) (M : Mem) (h : bank_isChirp F a0 = some r) : CallsM Tryz.prog 71 [(.agg [(.int .i64 a0.P), (.int .i64 a0.Q)])] M (fun s M' => s = (.bool r) ∧ M' = M) := by
  refine CallsM.plain Tryz.func71 rfl rfl rfl (show Run _ _ _ (bank_isChirp_post r) _ _ _ from ?_)
  rw [bank_isChirp] at h
  have hH := Has.nil (frozen M)
  refine Run.seq (Run.region ?_)
  refine Run.opX wantS_none rfl (ExG.box rfl rfl hH) ?_
  rintro _ M23 ⟨b22, rfl, (hH23 : Has (ro (frozen M)) M23 [.obj b22 (.row 27 .whole [(.int .i64 a0.P), (.int .i64 a0.Q)])])⟩
  refine Run.opG wantS_none (ex_assign rfl) rfl ?_
  refine Run.opsEnd (Run.seq (Run.region ?_))
  refine Run.opG wantS_none (ex_fieldAddr rfl off27_0) rfl ?_
  refine Run.opG wantS_none (ex_load1 rfl (hH23.cells (i := 0) rfl 0 rfl) rdLe_rfl agg3) rfl ?_
  obtain ⟨r25, hr25, h⟩ := bnd_some h
  refine Run.callP wantS_none (ex_call rfl mkk117 cal117) rfl (bank_isPhase_ok F a0.P _ _ hr25) ?_
  refine Run.opG wantS_none (ex_move rfl) rfl ?_
  rcases btf (r25) with hc27 | hc27
  · have h := bif_t hc27 h
    refine Run.opG (wantS_yes' rfl rfl hc27) (ex_fieldAddr rfl off27_1) rfl ?_
    refine Run.opG (wantS_yes' rfl rfl hc27) (ex_load1 rfl (hH23.cells (i := 0) rfl 1 rfl) rdLe_rfl agg3) rfl ?_
    obtain ⟨r29, hr29, h⟩ := bnd_some h
    refine Run.callP (wantS_yes' rfl rfl hc27) (ex_call rfl mkk117 cal117) rfl (bank_isPhase_ok F a0.Q _ _ hr29) ?_
    refine Run.opG wantS_none (ex_pickT' rfl hc27 rfl rfl) rfl ?_
    exact Run.pick [10] (bank_isChirp_1_ok F r29 _ _ _ (hH23.pick [] rfl rfl) h)
  · have h := bif_f hc27 h
    refine Run.no (wantS_not' rfl rfl hc27) rfl ?_
    refine Run.no (wantS_not' rfl rfl hc27) rfl ?_
    refine Run.no (wantS_not' rfl rfl hc27) rfl ?_
    refine Run.opG wantS_none (ex_pickF' rfl hc27 rfl rfl) rfl ?_
    exact Run.pick [10] (bank_isChirp_1_ok F false _ _ _ (hH23.pick [] rfl rfl) h)

theorem mkk71 : makeK Tryz.prog 71 = none := by kernel_rfl
theorem cal71 : callable Tryz.prog 71 = true := by kernel_rfl
abbrev bank_CheckChirp_post (r : Int) : SV → Mem → Prop := fun s _ => s = (.int .i64 r)

def bank_CheckChirp_1 (F : Nat) (v12 : Bool) : Option (Int) :=
  bif v12 then
    some (70 : Int)
  else
    some (0 : Int)

theorem bank_CheckChirp_1_ok (F : Nat) : ∀ (v12 : Bool) (Fr : Rd) (M : Mem) (r : Int) (hH : Has Fr M []), bank_CheckChirp_1 F v12 = some r → Run Tryz.prog ⟨⟨25, [], none⟩, []⟩ 13 (bank_CheckChirp_post r) [(12, (.bool v12))] [codeC Tryz.prog 25 [1, 0, 1], codeC Tryz.prog 25 [1, 1]] M := by
  intro v12 Fr M r hH h
  rw [bank_CheckChirp_1] at h
  rcases btf (v12) with hc28 | hc28
  · have h := bif_t hc28 h
    refine Run.condT' rfl hc28 ?_
    refine Run.seq (Run.region ?_)
    refine Run.opG wantS_none (ex_assign rfl) rfl ?_
    refine Run.opsEnd ?_
    cases h
    exact Run.ret Tryz.func25 rfl (res_tmp rfl res_nil) rfl
  · have h := bif_f hc28 h
    refine Run.condF' rfl hc28 ?_
    refine Run.skip (Run.seq (Run.region ?_))
    refine Run.opG wantS_none (ex_assign rfl) rfl ?_
    refine Run.opsEnd ?_
    cases h
    exact Run.ret Tryz.func25 rfl (res_tmp rfl res_nil) rfl

def bank_CheckChirp (F : Nat) (a0 : Int) (a1 : S_api_Chirp) : Option (Int) :=
  bnd (bank_isLength F a0) fun r25 =>
  bif (!r25) then
    bank_CheckChirp_1 F true
  else
    bnd (bank_isChirp F a1) fun r30 =>
    bank_CheckChirp_1 F (!r30)

theorem bank_CheckChirp_ok (F : Nat) (a0 : Int) (a1 : S_api_Chirp) (r : Int) (M : Mem) (h : bank_CheckChirp F a0 a1 = some r) : CallsM Tryz.prog 25 [(.int .i64 a0), (.agg [(.int .i64 a1.P), (.int .i64 a1.Q)])] M (fun s M' => s = (.int .i64 r) ∧ M' = M) := by
  refine CallsM.plain Tryz.func25 rfl rfl rfl (show Run _ _ _ (bank_CheckChirp_post r) _ _ _ from ?_)
  rw [bank_CheckChirp] at h
  have hH := Has.nil (frozen M)
  refine Run.seq (Run.region ?_)
  refine Run.opX wantS_none rfl (ExG.box rfl rfl hH) ?_
  rintro _ M23 ⟨b22, rfl, (hH23 : Has (ro (frozen M)) M23 [.obj b22 (.row 27 .whole [(.int .i64 a1.P), (.int .i64 a1.Q)])])⟩
  refine Run.opG wantS_none (ex_assign rfl) rfl ?_
  refine Run.opsEnd (Run.seq (Run.seq (Run.region ?_)))
  refine Run.opG wantS_none (ex_move rfl) rfl ?_
  obtain ⟨r25, hr25, h⟩ := bnd_some h
  refine Run.callP wantS_none (ex_call rfl mkk36 cal36) rfl (bank_isLength_ok F a0 _ _ hr25) ?_
  refine Run.opG wantS_none (ex_not rfl) rfl ?_
  refine Run.opG wantS_none (ex_move rfl) rfl ?_
  rcases btf ((!r25)) with hc27 | hc27
  · have h := bif_t hc27 h
    refine Run.no (wantS_not' rfl rfl hc27) rfl ?_
    refine Run.no (wantS_not' rfl rfl hc27) rfl ?_
    refine Run.no (wantS_not' rfl rfl hc27) rfl ?_
    refine Run.opG wantS_none (ex_pickT' rfl hc27 rfl rfl) rfl ?_
    refine Run.opsEnd ?_
    exact Run.pick [12] (bank_CheckChirp_1_ok F true _ _ _ (hH23.pick [] rfl rfl) h)
  · have h := bif_f hc27 h
    refine Run.opG (wantS_yes' rfl rfl hc27) (ex_loadA rfl (hH23.cells (i := 0) rfl 0 rfl) rdLe_rfl agg27 rfl rfl rfl) rfl ?_
    obtain ⟨r30, hr30, h⟩ := bnd_some h
    refine Run.callP (wantS_yes' rfl rfl hc27) (ex_call rfl mkk71 cal71) rfl (bank_isChirp_ok F a1 _ _ hr30) ?_
    refine Run.opG (wantS_yes' rfl rfl hc27) (ex_not rfl) rfl ?_
    refine Run.opG wantS_none (ex_pickF' rfl hc27 rfl rfl) rfl ?_
    refine Run.opsEnd ?_
    exact Run.pick [12] (bank_CheckChirp_1_ok F (!r30) _ _ _ (hH23.pick [] rfl rfl) h)

theorem mkk25 : makeK Tryz.prog 25 = none := by kernel_rfl
theorem cal25 : callable Tryz.prog 25 = true := by kernel_rfl
theorem mkk26 : makeK Tryz.prog 26 = none := by kernel_rfl
theorem cal26 : callable Tryz.prog 26 = true := by kernel_rfl
theorem zer105 : zerosOf Tryz.prog 105 = some [(.int .i64 0), (.int .i64 0), (.int .i64 0), (.int .i64 0), (.int .i64 0), (.int .i64 0), (.int .i64 0), (.int .i64 0), (.int .i64 0), (.int .i64 0), (.int .i64 0), (.int .i64 0), (.int .i64 0), (.int .i64 0), (.int .i64 0), (.int .i64 0), (.int .i64 0), (.int .i64 0), (.int .i64 0), (.int .i64 0), (.int .i64 0), (.int .i64 0), (.int .i64 0), (.int .i64 0), (.int .i64 0), (.int .i64 0), (.int .i64 0), (.int .i64 0), (.int .i64 0), (.int .i64 0), (.int .i64 0), (.int .i64 0), (.int .i64 0), (.int .i64 0), (.int .i64 0), (.int .i64 0), (.int .i64 0), (.int .i64 0), (.int .i64 0), (.int .i64 0), (.int .i64 0), (.int .i64 0), (.int .i64 0), (.int .i64 0), (.int .i64 0), (.int .i64 0), (.int .i64 0), (.int .i64 0), (.int .i64 0), (.int .i64 0), (.int .i64 0), (.int .i64 0), (.int .i64 0), (.int .i64 0), (.int .i64 0), (.int .i64 0), (.int .i64 0), (.int .i64 0), (.int .i64 0), (.int .i64 0), (.int .i64 0), (.int .i64 0), (.int .i64 0), (.int .i64 0), (.int .i64 0), (.int .i64 0)] := by kernel_rfl
theorem pls105 : placesOf Tryz.prog 105 = some (.st [(0, 64), (64, 1), (65, 1)]) := by kernel_rfl
theorem off105_0 : fieldOff Tryz.prog 105 0 = some 0 := by kernel_rfl
theorem mkk72 : makeK Tryz.prog 72 = none := by kernel_rfl
theorem cal72 : callable Tryz.prog 72 = true := by kernel_rfl
def tab3 : List Int := [0, 12, 25, 37, 49, 60, 71, 81, 90, 98, 106, 112, 117, 122, 125, 126, 127]
theorem els191 : elems Tryz.prog 191 = some (.arr 17 1) := by kernel_rfl
abbrev bank_table_post (r : Int) : SV → Mem → Prop := fun s _ => s = (.int .i64 r)

def bank_table : Nat → Int → Option (Int)
  | 0, _ => none
  | F + 1, a0 =>
    bif (decide ((32 : Int) ≤ a0)) then
      bnd ((bank_table F) (w64 (a0 - (32 : Int)))) fun r27 =>
      some (w64 (-r27))
    else
      bif (decide ((w64 (Int.tdiv (32 : Int) (2 : Int))) < a0)) then
        bnd (inA (w64 ((32 : Int) - a0)) 17) fun o31 =>
        bnd (tab3[o31]?) fun x31 =>
        some x31
      else
        bnd (inA a0 17) fun o33 =>
        bnd (tab3[o33]?) fun x33 =>
        some x33

theorem bank_table_ok : ∀ (F : Nat), ∀ (a0 : Int) (r : Int) (M : Mem) (hfx : FixIn M fixes) (h : bank_table F a0 = some r), CallsM Tryz.prog 72 [(.int .i64 a0)] M (fun s M' => s = (.int .i64 r) ∧ M' = M) := by
  intro F
  induction F with
  | zero =>
    intro a0 r M hfx h
    simp [bank_table] at h
  | succ F ih =>
    intro a0 r M hfx h
    refine CallsM.plain Tryz.func72 rfl rfl rfl (show Run _ _ _ (bank_table_post r) _ _ _ from ?_)
    rw [bank_table] at h
    have hH : Has (ro (frozen M)) (frozen M) [tb0, tb1, tb2, tb3] := Has.ofFix hfx.frozen
    refine Run.seq (Run.region ?_)
    refine Run.opG wantS_none (ex_assign rfl) rfl ?_
    refine Run.opsEnd (Run.seq (Run.region ?_))
    refine Run.opG wantS_none (ex_assign rfl) rfl ?_
    refine Run.opsEnd (Run.seq (Run.block (Run.seq (Run.region ?_))))
    refine Run.opG wantS_none (ex_move rfl) rfl ?_
    refine Run.opG wantS_none (ex_move rfl) rfl ?_
    refine Run.opG wantS_none (ex_geq rfl rfl) rfl ?_
    refine Run.opG wantS_none (ex_assign rfl) rfl ?_
    refine Run.opsEnd ?_
    rcases btf ((decide ((32 : Int) ≤ a0))) with hc25 | hc25
    · have h := bif_t hc25 h
      refine Run.condT' rfl hc25 ?_
      refine Run.seq (Run.region ?_)
      refine Run.opG wantS_none (ex_move rfl) rfl ?_
      refine Run.opG wantS_none (ex_move rfl) rfl ?_
      refine Run.opG wantS_none (ex_sub rfl rfl) rfl ?_
      obtain ⟨r27, hr27, h⟩ := bnd_some h
      refine Run.callP wantS_none (ex_call rfl mkk72 cal72) rfl (ih (w64 (a0 - (32 : Int))) _ _ (fixH hH (List.mem_of_getElem? (i := 0) rfl) (List.mem_of_getElem? (i := 1) rfl) (List.mem_of_getElem? (i := 2) rfl) (List.mem_of_getElem? (i := 3) rfl)) hr27) ?_
      refine Run.opG wantS_none (ex_neg rfl) rfl ?_
      refine Run.opG wantS_none (ex_assign rfl) rfl ?_
      refine Run.opsEnd ?_
      cases h
      exact Run.ret Tryz.func72 rfl (res_tmp rfl res_nil) rfl
    · have h := bif_f hc25 h
      refine Run.condF' rfl hc25 ?_
      refine Run.seq (Run.region ?_)
      refine Run.opG wantS_none (ex_move rfl) rfl ?_
      refine Run.opG wantS_none (ex_move rfl) rfl ?_
      refine Run.opG wantS_none (ex_quo rfl rfl (by decide)) rfl ?_
      refine Run.opG wantS_none (ex_gtr rfl rfl) rfl ?_
      refine Run.opG wantS_none (ex_assign rfl) rfl ?_
      refine Run.opsEnd ?_
      rcases btf ((decide ((w64 (Int.tdiv (32 : Int) (2 : Int))) < a0))) with hc29 | hc29
      · have h := bif_t hc29 h
        refine Run.condT' rfl hc29 ?_
        refine Run.seq (Run.region ?_)
        refine Run.opG wantS_none (ex_move rfl) rfl ?_
        refine Run.opG wantS_none (ex_move rfl) rfl ?_
        refine Run.opG wantS_none (ex_sub rfl rfl) rfl ?_
        obtain ⟨o31, ho31, h⟩ := bnd_some h
        obtain ⟨x31, hx31, h⟩ := bnd_some h
        refine Run.opG wantS_none (ex_elG (c := intCells .i64 tab3) hH (i := 3) rfl rfl (inA_natIn ho31) els191) rfl ?_
        refine Run.opG wantS_none (ex_load1 rfl (fix_at (zs := tab3) hH (i := 3) rfl hx31) rdLe_rfl agg3) rfl ?_
        refine Run.opG wantS_none (ex_assign rfl) rfl ?_
        refine Run.opsEnd ?_
        cases h
        exact Run.ret Tryz.func72 rfl (res_tmp rfl res_nil) rfl
      · have h := bif_f hc29 h
        refine Run.condF' rfl hc29 ?_
        refine Run.skip (Run.inBlock (Run.seq (Run.region ?_)))
        refine Run.opG wantS_none (ex_move rfl) rfl ?_
        obtain ⟨o33, ho33, h⟩ := bnd_some h
        obtain ⟨x33, hx33, h⟩ := bnd_some h
        refine Run.opG wantS_none (ex_elG (c := intCells .i64 tab3) hH (i := 3) rfl rfl (inA_natIn ho33) els191) rfl ?_
        refine Run.opG wantS_none (ex_load1 rfl (fix_at (zs := tab3) hH (i := 3) rfl hx33) rdLe_rfl agg3) rfl ?_
        refine Run.opG wantS_none (ex_assign rfl) rfl ?_
        refine Run.opsEnd ?_
        cases h
        exact Run.ret Tryz.func72 rfl (res_tmp rfl res_nil) rfl

theorem els103 : elems Tryz.prog 103 = some (.arr 64 1) := by kernel_rfl
theorem sz3 : szOf Tryz.prog 3 = some 1 := by kernel_rfl
theorem plan26_1_1_0_1_0_0_1_1_0_0_1 : planOf Tryz.prog (opsC (atC Tryz.prog 26 [1, 1, 0, 1, 0, 0, 1, 1, 0, 0, 1])) = some [.fl 0, .fl 1, .fl 2, .fl 3, .fl 4, .fl 5, .fl 6, .fl 7, .fl 8, .fl 9, .fl 10, .fl 11, .fl 12, .fl 13, .fl 15, .fl 16, .an 14 [16, 15, 1, 0], .fl 17, .an 18 [], .sync] := by kernel_rfl
theorem off105_1 : fieldOff Tryz.prog 105 1 = some 64 := by kernel_rfl
theorem slk103 : slK Tryz.prog 103 = some (.arr 64 1) := by kernel_rfl
theorem plan27_1_0 : planOf Tryz.prog (opsC (atC Tryz.prog 27 [1, 0])) = some [.fl 0, .fl 1, .fl 2, .fl 3, .fl 4, .fl 5, .fl 6, .fl 7, .fl 8, .sync] := by kernel_rfl
abbrev bank_wave_samples_post (b : Pos) (r : List Int) : SV → Mem → Prop := fun s _ => s = .slice b 0 r.length 64

def bank_wave_samples (F : Nat) (l : List Int) : Option (List Int) :=
  bnd (l[(64 : Nat)]?) fun x21 =>
  bnd (cutA 64 l 0 x21) fun l22 =>
  some l22

theorem bank_wave_samples_ok (F : Nat) {l r : List Int} {b : Pos} {Fr : Rd} {H : List Ent} {i : Nat} {M : Mem} (hH0 : Has Fr M H) (hi : H[i]? = some (.obj b (.row 105 .whole (l.flatMap enc3)))) (h : bank_wave_samples F l = some r) : CallsM Tryz.prog 27 [.ptr b 0] M (fun s M' => s = .slice b 0 r.length 64 ∧ M' = M) := by
  have hl : ∀ {j : Nat} {a : Int}, l[j]? = some a → PtrTo (ro (frozen M)) (.ptr b j) (enc3 a) := fun h => (hH0.arrRd hi h enc3_len).mono (rdLe_frozen M)
  refine CallsM.sliceOf Tryz.func27 rfl rfl (hH0.get hi).1.lt (show Run _ _ _ (bank_wave_samples_post b r) _ _ _ from ?_)
  rw [bank_wave_samples] at h
  have hH := Has.nil (frozen M)
  refine Run.seq (Run.region ?_)
  refine Run.opG wantS_none (ex_assign rfl) rfl ?_
  refine Run.opsEnd (Run.seq ?_)
  refine Run.drawG plan27_1_0 ?_
  refine DrawG.fl rfl (ev_ex wantS_none (ex_move rfl)) rfl ?_
  refine DrawG.fl rfl (ev_ex wantS_none (ex_nilP rfl)) rfl ?_
  refine DrawG.fl rfl (ev_ex wantS_none (ex_fieldAddr rfl off105_0)) rfl ?_
  refine DrawG.fl rfl (ev_ex wantS_none (ex_move rfl)) rfl ?_
  refine DrawG.fl rfl (ev_ex wantS_none (ex_nilP rfl)) rfl ?_
  refine DrawG.fl rfl (ev_ex wantS_none (ex_fieldAddr rfl off105_1)) rfl ?_
  obtain ⟨x21, hx21, h⟩ := bnd_some h
  refine DrawG.fl rfl (ev_ex wantS_none (ex_load1 rfl (hH.ptrF (hl hx21)) rdLe_rfl agg3)) rfl ?_
  obtain ⟨l22, hl22, h⟩ := bnd_some h
  refine DrawG.fl rfl (ev_ex wantS_none (ex_slX rfl argO_none (argO_some rfl) (arr_cutV hl22 slk103))) rfl ?_
  refine DrawG.fl rfl (ev_ex wantS_none (ex_assign rfl)) rfl ?_
  refine DrawG.sync ?_
  refine DrawG.nil ?_
  cases h
  exact Run.ret Tryz.func27 rfl (res_tmp rfl res_nil) rfl

theorem bank_wave_samples_slc (F : Nat) {l r : List Int} {b : Pos} {Fr : Rd} {H : List Ent} {i : Nat} {M : Mem} (hH0 : Has Fr M H) (hi : H[i]? = some (.obj b (.row 105 .whole (l.flatMap enc3)))) (h : bank_wave_samples F l = some r) : Slc (rd M) 1 (FlatR enc3) (.slice b 0 r.length 64) r := by
  rw [bank_wave_samples] at h
  obtain ⟨_, _, h⟩ := bnd_some h
  obtain ⟨_, h1, h⟩ := bnd_some h
  cases h
  exact arr_slcH hH0 hi h1 enc3_len

theorem mkk27 : makeK Tryz.prog 27 = none := by kernel_rfl
theorem cal27 : callable Tryz.prog 27 = true := by kernel_rfl
theorem plan73_1_1_0 : planOf Tryz.prog (opsC (atC Tryz.prog 73 [1, 1, 0])) = some [.fl 0, .fl 1, .fl 2, .fl 3, .fl 4, .fl 5, .an 6 [5, 4, 3], .an 7 [], .sync] := by kernel_rfl
abbrev bank_product_post (r : Int) : SV → Mem → Prop := fun s _ => s = (.int .i64 r)

def bank_product_1 (F : Nat) : Nat → (List Int) → Int → (List Int) → Int → Int → Option (Int)
  | 0, _, _, _, _, _ => none
  | N + 1, v1, v6, v20, v21, v22 =>
    bif (decide (v22 < v21)) then
      bnd (idx v20 v22) fun x25 =>
      bnd (idx v1 v22) fun x27 =>
      (bank_product_1 F N) v1 (w64 (v6 + (w64 (x25 * x27)))) v20 v21 (w64 (v22 + (1 : Int)))
    else
      some v6

theorem bank_product_1_ok (F : Nat) : ∀ (N : Nat), ∀ (v1 : (List Int)) (v6 : Int) (v20 : (List Int)) (v21 : Int) (v22 : Int) (sv1 : SV) (sv20 : SV) (Fr : Rd) (M : Mem) (r : Int) (hv1 : Slc Fr 1 (FlatR enc3) sv1 v1) (hv20 : Slc Fr 1 (FlatR enc3) sv20 v20) (hH : Has Fr M []), bank_product_1 F N v1 v6 v20 v21 v22 = some r → Run Tryz.prog ⟨⟨73, [], none⟩, []⟩ 37 (bank_product_post r) [(1, sv1), (6, (.int .i64 v6)), (20, sv20), (21, (.int .i64 v21)), (22, (.int .i64 v22))] [codeC Tryz.prog 73 [1, 1, 1, 1, 0, 1, 0, 0], loopC Tryz.prog 73 [1, 1, 1, 1, 0, 1, 0, 0], .inBlock 0, codeC Tryz.prog 73 [1, 1, 1, 1, 1]] M := by
  intro N
  induction N with
  | zero =>
    intro v1 v6 v20 v21 v22 sv1 sv20 Fr M r hv1 hv20 hH h
    simp [bank_product_1] at h
  | succ N ih =>
    intro v1 v6 v20 v21 v22 sv1 sv20 Fr M r hv1 hv20 hH h
    rw [bank_product_1] at h
    refine Run.seq (Run.region ?_)
    refine Run.opG wantS_none (ex_lss rfl rfl) rfl ?_
    refine Run.opsEnd (Run.seq ?_)
    rcases btf ((decide (v22 < v21))) with hc23 | hc23
    · have h := bif_t hc23 h
      refine Run.condT' rfl hc23 ?_
      refine Run.skip (Run.seq (Run.block (Run.seq (Run.region ?_))))
      refine Run.opG wantS_none (ex_move rfl) rfl ?_
      obtain ⟨x25, hx25, h⟩ := bnd_some h
      obtain ⟨p25, o25, _, hx25, hp25, rfl⟩ := sl_elem (P := Tryz.prog) (t := 25) (kk := .i64) hv20 hx25 els25
      refine Run.opG wantS_none (ex_elX rfl rfl hx25) rfl ?_
      refine Run.opG wantS_none (ex_load1 rfl (hH.ptrF hp25) rdLe_rfl agg3) rfl ?_
      refine Run.opG wantS_none (ex_assign rfl) rfl ?_
      refine Run.opG wantS_none (ex_assign rfl) rfl ?_
      refine Run.opsEnd (Run.region ?_)
      refine Run.opG wantS_none (ex_move rfl) rfl ?_
      refine Run.opG wantS_none (ex_move rfl) rfl ?_
      refine Run.opG wantS_none (ex_move rfl) rfl ?_
      refine Run.opG wantS_none (ex_move rfl) rfl ?_
      obtain ⟨x27, hx27, h⟩ := bnd_some h
      obtain ⟨p27, o27, _, hx27, hp27, rfl⟩ := sl_elem (P := Tryz.prog) (t := 25) (kk := .i64) hv1 hx27 els25
      refine Run.opG wantS_none (ex_elX rfl rfl hx27) rfl ?_
      refine Run.opG wantS_none (ex_load1 rfl (hH.ptrF hp27) rdLe_rfl agg3) rfl ?_
      refine Run.opG wantS_none (ex_mul rfl rfl) rfl ?_
      refine Run.opG wantS_none (ex_add rfl rfl) rfl ?_
      refine Run.opG wantS_none (ex_assign rfl) rfl ?_
      refine Run.opsEnd (Run.inBlock (Run.region ?_))
      refine Run.opG wantS_none (ex_add rfl rfl) rfl ?_
      refine Run.opG wantS_none (ex_move rfl) rfl ?_
      refine Run.opsEnd (Run.inLoop ?_)
      exact Run.pick [1, 6, 20, 21, 22] (ih v1 (w64 (v6 + (w64 (x25 * x27)))) v20 v21 (w64 (v22 + (1 : Int))) sv1 sv20 _ _ _ hv1 hv20 hH h)
    · have h := bif_f hc23 h
      refine Run.condF' rfl hc23 ?_
      refine Run.exit rfl (Run.seq (Run.region ?_))
      refine Run.opG wantS_none (ex_move rfl) rfl ?_
      refine Run.opG wantS_none (ex_assign rfl) rfl ?_
      refine Run.opsEnd ?_
      cases h
      exact Run.ret Tryz.func73 rfl (res_tmp rfl res_nil) rfl

def bank_product (F : Nat) (a0 : (List Int)) (a1 : (List Int)) : Option (Int) :=
  bnd (sub a0 0 (min (a0.length : Int) (a1.length : Int))) fun l21 =>
  bnd (sub a1 0 (min (a0.length : Int) (a1.length : Int))) fun l22 =>
  bank_product_1 F F l22 (0 : Int) l21 (l21.length : Int) (0 : Int)

theorem bank_product_ok (F : Nat) (a0 : (List Int)) (a1 : (List Int)) (s0 s1 : SV) (r : Int) (M : Mem) (hs0 : Slc (rd M) 1 (FlatR enc3) s0 a0) (hs1 : Slc (rd M) 1 (FlatR enc3) s1 a1) (h : bank_product F a0 a1 = some r) : CallsM Tryz.prog 73 [s0, s1] M (fun s M' => s = (.int .i64 r) ∧ M' = M) := by
  refine CallsM.plain Tryz.func73 rfl rfl rfl (show Run _ _ _ (bank_product_post r) _ _ _ from ?_)
  rw [bank_product] at h
  replace hs0 := hs0.mono (rdLe_frozen M) (fun _ _ h => h)
  replace hs1 := hs1.mono (rdLe_frozen M) (fun _ _ h => h)
  have hH := Has.nil (frozen M)
  refine Run.seq (Run.region ?_)
  refine Run.opG wantS_none (ex_assign rfl) rfl ?_
  refine Run.opsEnd (Run.seq (Run.region ?_))
  refine Run.opG wantS_none (ex_move rfl) rfl ?_
  refine Run.opG wantS_none (ex_len' rfl hs0 lenk25) rfl ?_
  refine Run.opG wantS_none (ex_move rfl) rfl ?_
  refine Run.opG wantS_none (ex_len' rfl hs1 lenk25) rfl ?_
  refine Run.opG wantS_none (ex_min rfl rfl) rfl ?_
  refine Run.opG wantS_none (ex_assign rfl) rfl ?_
  refine Run.opsEnd (Run.seq ?_)
  refine Run.drawG plan73_1_1_0 ?_
  refine DrawG.fl rfl (ev_ex wantS_none (ex_move rfl)) rfl ?_
  refine DrawG.fl rfl (ev_ex wantS_none (ex_move rfl)) rfl ?_
  obtain ⟨l21, hl21, h⟩ := bnd_some h
  obtain ⟨s21, hx21, hs21⟩ := sl_subH (P := Tryz.prog) (t := 25) (k0 := .i64) hs0 hl21 slk25
  refine DrawG.fl rfl (ev_ex wantS_none (ex_slX rfl (argO_none) (argO_some rfl) hx21)) rfl ?_
  refine DrawG.fl rfl (ev_ex wantS_none (ex_move rfl)) rfl ?_
  refine DrawG.fl rfl (ev_ex wantS_none (ex_move rfl)) rfl ?_
  obtain ⟨l22, hl22, h⟩ := bnd_some h
  obtain ⟨s22, hx22, hs22⟩ := sl_subH (P := Tryz.prog) (t := 25) (k0 := .i64) hs1 hl22 slk25
  refine DrawG.fl rfl (ev_ex wantS_none (ex_slX rfl (argO_none) (argO_some rfl) hx22)) rfl ?_
  refine DrawG.val rfl wantS_none (ex_assign rfl) rfl (st_cons rfl (ev_ex wantS_none (ex_slX rfl (argO_none) (argO_some rfl) hx22)) rfl rfl (slc_self hs22) (st_cons rfl (ev_ex wantS_none (ex_move rfl)) rfl rfl rfl (st_cons rfl (ev_ex wantS_none (ex_move rfl)) rfl rfl (slc_self hs1) st_nil))) ?_
  refine DrawG.val rfl wantS_none (ex_assign rfl) rfl st_nil ?_
  refine DrawG.sync ?_
  refine DrawG.nil ?_
  refine Run.seq (Run.region ?_)
  refine Run.opG wantS_none (ex_assign rfl) rfl ?_
  refine Run.opsEnd (Run.seq (Run.seq (Run.region ?_)))
  refine Run.opG wantS_none (ex_move rfl) rfl ?_
  refine Run.opG wantS_none (ex_len' rfl hs21 lenk25) rfl ?_
  refine Run.opG wantS_none (ex_move rfl) rfl ?_
  refine Run.opsEnd (Run.block (Run.loop ?_))
  exact Run.pick [1, 6, 20, 21, 22] (bank_product_1_ok F F l22 (0 : Int) l21 (l21.length : Int) (0 : Int) s22 s21 _ _ _ hs22 hs21 hH h)

theorem mkk73 : makeK Tryz.prog 73 = none := by kernel_rfl
theorem cal73 : callable Tryz.prog 73 = true := by kernel_rfl
theorem off105_2 : fieldOff Tryz.prog 105 2 = some 65 := by kernel_rfl
theorem mkk7 : makeK Tryz.prog 7 = none := by kernel_rfl
theorem cal7 : callable Tryz.prog 7 = true := by kernel_rfl
theorem mkk8 : makeK Tryz.prog 8 = none := by kernel_rfl
theorem cal8 : callable Tryz.prog 8 = true := by kernel_rfl
theorem zer24 : zerosOf Tryz.prog 24 = some [.nils, (.int .i64 0)] := by kernel_rfl
theorem pls24 : placesOf Tryz.prog 24 = some (.st [(0, 1), (1, 1)]) := by kernel_rfl
theorem sz24 : szOf Tryz.prog 24 = some 2 := by kernel_rfl
abbrev ref00_Down_post (r : Int) : SV → Mem → Prop := fun s _ => s = (.int .i64 r)

def ref00_Down_1 (F : Nat) (v5 : Int) : Option (Int) :=
  some v5

theorem ref00_Down_1_ok (F : Nat) : ∀ (v5 : Int) (Fr : Rd) (M : Mem) (r : Int) (hH : Has Fr M []), ref00_Down_1 F v5 = some r → Run Tryz.prog ⟨⟨9, [], none⟩, []⟩ 16 (ref00_Down_post r) [(5, (.int .i64 v5))] [itemC Tryz.prog 9 [1, 1, 1, 0] 0, codeC Tryz.prog 9 [1, 1, 1, 1]] M := by
  intro v5 Fr M r hH h
  rw [ref00_Down_1] at h
  refine Run.opG wantS_none (ex_move rfl) rfl ?_
  refine Run.opG wantS_none (ex_assign rfl) rfl ?_
  refine Run.opsEnd ?_
  cases h
  exact Run.ret Tryz.func9 rfl (res_tmp rfl res_nil) rfl

def ref00_Down (F : Nat) (a0 : Int) (a1 : Int) : Option (Int) :=
  bnd (nz a1) fun z22 =>
  bnd (nz a1) fun z24 =>
  bif (decide ((Int.tmod a0 a1) < (0 : Int))) then
    ref00_Down_1 F (w64 ((w64 (Int.tdiv a0 a1)) - (1 : Int)))
  else
    ref00_Down_1 F (w64 (Int.tdiv a0 a1))

theorem ref00_Down_ok (F : Nat) (a0 : Int) (a1 : Int) (r : Int) (M : Mem) (h : ref00_Down F a0 a1 = some r) : CallsM Tryz.prog 9 [(.int .i64 a0), (.int .i64 a1)] M (fun s M' => s = (.int .i64 r) ∧ M' = M) := by
  refine CallsM.plain Tryz.func9 rfl rfl rfl (show Run _ _ _ (ref00_Down_post r) _ _ _ from ?_)
  rw [ref00_Down] at h
  have hH := Has.nil (frozen M)
  refine Run.seq (Run.region ?_)
  refine Run.opG wantS_none (ex_assign rfl) rfl ?_
  refine Run.opsEnd (Run.seq (Run.region ?_))
  refine Run.opG wantS_none (ex_move rfl) rfl ?_
  refine Run.opG wantS_none (ex_move rfl) rfl ?_
  obtain ⟨z22, hz22, h⟩ := bnd_some h
  refine Run.opG wantS_none (ex_quo' rfl rfl hz22) rfl ?_
  refine Run.opG wantS_none (ex_assign rfl) rfl ?_
  refine Run.opsEnd (Run.seq (Run.seq (Run.region ?_)))
  refine Run.opG wantS_none (ex_move rfl) rfl ?_
  refine Run.opG wantS_none (ex_move rfl) rfl ?_
  obtain ⟨z24, hz24, h⟩ := bnd_some h
  refine Run.opG wantS_none (ex_rem' rfl rfl hz24) rfl ?_
  refine Run.opG wantS_none (ex_lss rfl rfl) rfl ?_
  refine Run.opsEnd ?_
  rcases btf ((decide ((Int.tmod a0 a1) < (0 : Int)))) with hc25 | hc25
  · have h := bif_t hc25 h
    refine Run.condT' rfl hc25 ?_
    refine Run.region ?_
    refine Run.opG wantS_none (ex_move rfl) rfl ?_
    refine Run.opG wantS_none (ex_sub rfl rfl) rfl ?_
    refine Run.opG wantS_none (ex_assign rfl) rfl ?_
    refine Run.opsEnd (Run.seq (Run.region ?_))
    exact Run.pick [5] (ref00_Down_1_ok F (w64 ((w64 (Int.tdiv a0 a1)) - (1 : Int))) _ _ _ hH h)
  · have h := bif_f hc25 h
    refine Run.condF' rfl hc25 ?_
    refine Run.skip (Run.seq (Run.region ?_))
    exact Run.pick [5] (ref00_Down_1_ok F (w64 (Int.tdiv a0 a1)) _ _ _ hH h)

theorem mkk9 : makeK Tryz.prog 9 = none := by kernel_rfl
theorem cal9 : callable Tryz.prog 9 = true := by kernel_rfl
theorem pls37 : placesOf Tryz.prog 37 = some (.st [(0, 1), (1, 1)]) := by kernel_rfl
theorem elt22 : sliceElt Tryz.prog 22 = some (⟨2, 16, [(.int .i64 0), (.int .i64 0)], 37⟩ : Elt) := by kernel_rfl
theorem appt22_22 : appT Tryz.prog 22 22 = some (⟨2, 16, [(.int .i64 0), (.int .i64 0)], 37⟩ : Elt) := by kernel_rfl
theorem sz22 : szOf Tryz.prog 22 = some 1 := by kernel_rfl
theorem plan3_1_1_1_1_1_0_1_0_0_1_0_0_0 : planOf Tryz.prog (opsC (atC Tryz.prog 3 [1, 1, 1, 1, 1, 0, 1, 0, 0, 1, 0, 0, 0])) = some [.fl 0, .fl 1, .fl 2, .fl 3, .fl 4, .fl 5, .fl 6, .fl 7, .fl 8, .fl 9, .fl 10, .fl 11, .fl 12, .an 13 [], .fl 14, .sync] := by kernel_rfl
theorem lenk28 : lenK Tryz.prog 28 = some .sl := by kernel_rfl
theorem off39_0 : fieldOff Tryz.prog 39 0 = some 0 := by kernel_rfl
abbrev ref00_Abs_post (r : Int) : SV → Mem → Prop := fun s _ => s = (.int .i64 r)

def ref00_Abs (F : Nat) (a0 : Int) : Option (Int) :=
  bif (decide (a0 < (0 : Int))) then
    some (w64 (-a0))
  else
    some a0

theorem ref00_Abs_ok (F : Nat) (a0 : Int) (r : Int) (M : Mem) (h : ref00_Abs F a0 = some r) : CallsM Tryz.prog 10 [(.int .i64 a0)] M (fun s M' => s = (.int .i64 r) ∧ M' = M) := by
  refine CallsM.plain Tryz.func10 rfl rfl rfl (show Run _ _ _ (ref00_Abs_post r) _ _ _ from ?_)
  rw [ref00_Abs] at h
  have hH := Has.nil (frozen M)
  refine Run.seq (Run.region ?_)
  refine Run.opG wantS_none (ex_assign rfl) rfl ?_
  refine Run.opsEnd (Run.seq (Run.seq (Run.region ?_)))
  refine Run.opG wantS_none (ex_move rfl) rfl ?_
  refine Run.opG wantS_none (ex_lss rfl rfl) rfl ?_
  refine Run.opsEnd ?_
  rcases btf ((decide (a0 < (0 : Int)))) with hc21 | hc21
  · have h := bif_t hc21 h
    refine Run.condT' rfl hc21 ?_
    refine Run.seq (Run.region ?_)
    refine Run.opG wantS_none (ex_move rfl) rfl ?_
    refine Run.opG wantS_none (ex_neg rfl) rfl ?_
    refine Run.opG wantS_none (ex_assign rfl) rfl ?_
    refine Run.opsEnd ?_
    cases h
    exact Run.ret Tryz.func10 rfl (res_tmp rfl res_nil) rfl
  · have h := bif_f hc21 h
    refine Run.condF' rfl hc21 ?_
    refine Run.skip (Run.seq (Run.region ?_))
    refine Run.opG wantS_none (ex_move rfl) rfl ?_
    refine Run.opG wantS_none (ex_assign rfl) rfl ?_
    refine Run.opsEnd ?_
    cases h
    exact Run.ret Tryz.func10 rfl (res_tmp rfl res_nil) rfl

theorem mkk10 : makeK Tryz.prog 10 = none := by kernel_rfl
theorem cal10 : callable Tryz.prog 10 = true := by kernel_rfl
theorem elt25 : sliceElt Tryz.prog 25 = some (⟨1, 8, [(.int .i64 0)], 3⟩ : Elt) := by kernel_rfl
theorem appt25_25 : appT Tryz.prog 25 25 = some (⟨1, 8, [(.int .i64 0)], 3⟩ : Elt) := by kernel_rfl
theorem mkk84 : makeK Tryz.prog 84 = none := by kernel_rfl
theorem cal84 : callable Tryz.prog 84 = true := by kernel_rfl
theorem mkk129 : makeK Tryz.prog 129 = none := by kernel_rfl
theorem cal129 : callable Tryz.prog 129 = true := by kernel_rfl
theorem mkk83 : makeK Tryz.prog 83 = none := by kernel_rfl
theorem cal83 : callable Tryz.prog 83 = true := by kernel_rfl
abbrev bank_areData_f1_post (r : Bool) : SV → Mem → Prop := fun s _ => s = (.bool r)

def bank_areData_f1 (F : Nat) (a0 : Int) : Option (Bool) :=
  bnd (bank_isFrom F ((-32768) : Int) a0 (32768 : Int)) fun r22 =>
  some (!r22)

theorem bank_areData_f1_ok (F : Nat) (a0 : Int) (r : Bool) (M : Mem) (h : bank_areData_f1 F a0 = some r) : CallsM Tryz.prog 83 [(.int .i64 a0)] M (fun s M' => s = (.bool r) ∧ M' = M) := by
  refine CallsM.plain Tryz.func83 rfl rfl rfl (show Run _ _ _ (bank_areData_f1_post r) _ _ _ from ?_)
  rw [bank_areData_f1] at h
  have hH := Has.nil (frozen M)
  refine Run.seq (Run.region ?_)
  refine Run.opG wantS_none (ex_assign rfl) rfl ?_
  refine Run.opsEnd (Run.seq (Run.region ?_))
  refine Run.opG wantS_none (ex_move rfl) rfl ?_
  obtain ⟨r22, hr22, h⟩ := bnd_some h
  refine Run.callP wantS_none (ex_call rfl mkk39 cal39) rfl (bank_isFrom_ok F ((-32768) : Int) a0 (32768 : Int) _ _ hr22) ?_
  refine Run.opG wantS_none (ex_not rfl) rfl ?_
  refine Run.opG wantS_none (ex_assign rfl) rfl ?_
  refine Run.opsEnd ?_
  cases h
  exact Run.ret Tryz.func83 rfl (res_tmp rfl res_nil) rfl

abbrev bank_areData_post (r : Bool) : SV → Mem → Prop := fun s _ => s = (.bool r)

def bank_areData_2 (F : Nat) (v12 : Bool) : Option (Bool) :=
  some v12

theorem bank_areData_2_ok (F : Nat) : ∀ (v12 : Bool) (Fr : Rd) (M : Mem) (r : Bool) (hH : Has Fr M []), bank_areData_2 F v12 = some r → Run Tryz.prog ⟨⟨34, [], none⟩, []⟩ 13 (bank_areData_post r) [(12, (.bool v12))] [itemC Tryz.prog 34 [1, 1, 0] 9, codeC Tryz.prog 34 [1, 1, 1]] M := by
  intro v12 Fr M r hH h
  rw [bank_areData_2] at h
  refine Run.opG wantS_none (ex_assign rfl) rfl ?_
  refine Run.opsEnd ?_
  cases h
  exact Run.ret Tryz.func34 rfl (res_tmp rfl res_nil) rfl

def bank_areData_1 (F : Nat) : Nat → (List Int) → Int → Int → Bool → Option (Bool)
  | 0, _, _, _, _ => none
  | N + 1, v0, v7, v8, v7_f2 =>
    bif (decide (v8 < v7)) then
      bnd (idx v0 v8) fun x24 =>
      bnd (bank_areData_f1 F x24) fun r26 =>
      bif r26 then
        bif v7_f2 then
          bank_areData_2 F (!(decide ((0 : Int) ≤ v8)))
        else
          bank_areData_2 F false
      else
        (bank_areData_1 F N) v0 v7 (w64 (v8 + (1 : Int))) v7_f2
    else
      bif v7_f2 then
        bank_areData_2 F (!(decide ((0 : Int) ≤ ((-1) : Int))))
      else
        bank_areData_2 F false

theorem bank_areData_1_ok (F : Nat) : ∀ (N : Nat), ∀ (v0 : (List Int)) (v7 : Int) (v8 : Int) (v7_f2 : Bool) (sv0 : SV) (Fr : Rd) (M : Mem) (r : Bool) (hv0 : Slc Fr 1 (FlatR enc3) sv0 v0) (hH : Has Fr M []), bank_areData_1 F N v0 v7 v8 v7_f2 = some r → Run Tryz.prog ⟨⟨129, [], none⟩, [.mk ⟨84, [], none⟩ 9 (treeOf []) [itemC Tryz.prog 84 [1, 0] 2, codeC Tryz.prog 84 [1, 1]], .mk ⟨34, [], none⟩ 13 (treeOf [(7, (.bool v7_f2))]) [itemC Tryz.prog 34 [1, 1, 0] 6, codeC Tryz.prog 34 [1, 1, 1]]]⟩ 19 (bank_areData_post r) [(0, sv0), (1, (.fn (.func 83) [] [])), (7, (.int .i64 v7)), (8, (.int .i64 v8))] [codeC Tryz.prog 129 [1, 0, 1, 0, 0], loopC Tryz.prog 129 [1, 0, 1, 0, 0], .inBlock 0, codeC Tryz.prog 129 [1, 1]] M := by
  intro N
  induction N with
  | zero =>
    intro v0 v7 v8 v7_f2 sv0 Fr M r hv0 hH h
    simp [bank_areData_1] at h
  | succ N ih =>
    intro v0 v7 v8 v7_f2 sv0 Fr M r hv0 hH h
    rw [bank_areData_1] at h
    refine Run.seq (Run.region ?_)
    refine Run.opG wantS_none (ex_lss rfl rfl) rfl ?_
    refine Run.opsEnd (Run.seq ?_)
    rcases btf ((decide (v8 < v7))) with hc22 | hc22
    · have h := bif_t hc22 h
      refine Run.condT' rfl hc22 ?_
      refine Run.skip (Run.seq (Run.block (Run.seq (Run.region ?_))))
      refine Run.opG wantS_none (ex_move rfl) rfl ?_
      refine Run.opG wantS_none (ex_assign rfl) rfl ?_
      refine Run.opsEnd (Run.seq (Run.region ?_))
      refine Run.opG wantS_none (ex_move rfl) rfl ?_
      refine Run.opG wantS_none (ex_move rfl) rfl ?_
      refine Run.opG wantS_none (ex_move rfl) rfl ?_
      obtain ⟨x24, hx24, h⟩ := bnd_some h
      obtain ⟨p24, o24, _, hx24, hp24, rfl⟩ := sl_elem (P := Tryz.prog) (t := 25) (kk := .i64) hv0 hx24 els25
      refine Run.opG wantS_none (ex_elX rfl rfl hx24) rfl ?_
      refine Run.opG wantS_none (ex_load1 rfl (hH.ptrF hp24) rdLe_rfl agg3) rfl ?_
      obtain ⟨r26, hr26, h⟩ := bnd_some h
      refine Run.callP wantS_none (ex_closure rfl rfl mkk83 cal83) rfl (bank_areData_f1_ok F x24 _ _ hr26) ?_
      refine Run.opsEnd ?_
      rcases btf (r26) with hc28 | hc28
      · have h := bif_t hc28 h
        refine Run.condT' rfl hc28 ?_
        refine Run.seq (Run.region ?_)
        refine Run.opG wantS_none (ex_move rfl) rfl ?_
        refine Run.opG wantS_none (ex_assign rfl) rfl ?_
        refine Run.opsEnd ?_
        refine Run.retTo Tryz.func129 rfl (res_tmp rfl res_nil) rfl ?_
        refine Run.opG wantS_none (ex_geq rfl rfl) rfl ?_
        refine Run.opG wantS_none (ex_assign rfl) rfl ?_
        refine Run.opsEnd ?_
        refine Run.retTo Tryz.func84 rfl (res_tmp rfl res_nil) rfl ?_
        rcases btf (v7_f2) with hc29 | hc29
        · have h := bif_t hc29 h
          refine Run.opG (wantS_yes' rfl rfl hc29) (ex_not rfl) rfl ?_
          refine Run.opG wantS_none (ex_pickT' rfl hc29 rfl rfl) rfl ?_
          exact Run.pick [12] (bank_areData_2_ok F (!(decide ((0 : Int) ≤ v8))) _ _ _ hH h)
        · have h := bif_f hc29 h
          refine Run.no (wantS_not' rfl rfl hc29) rfl ?_
          refine Run.opG wantS_none (ex_pickF' rfl hc29 rfl rfl) rfl ?_
          exact Run.pick [12] (bank_areData_2_ok F false _ _ _ hH h)
      · have h := bif_f hc28 h
        refine Run.condF' rfl hc28 ?_
        refine Run.skip (Run.inBlock (Run.region ?_))
        refine Run.opG wantS_none (ex_add rfl rfl) rfl ?_
        refine Run.opG wantS_none (ex_move rfl) rfl ?_
        refine Run.opsEnd (Run.inLoop ?_)
        exact Run.low (.cons (fle_pick [] rfl) (.cons (fle_pick [7] rfl) .nil)) (Run.pick [0, 1, 7, 8] (ih v0 v7 (w64 (v8 + (1 : Int))) v7_f2 sv0 _ _ _ hv0 hH h))
    · have h := bif_f hc22 h
      refine Run.condF' rfl hc22 ?_
      refine Run.exit rfl (Run.seq (Run.region ?_))
      refine Run.opG wantS_none (ex_assign rfl) rfl ?_
      refine Run.opsEnd ?_
      refine Run.retTo Tryz.func129 rfl (res_tmp rfl res_nil) rfl ?_
      refine Run.opG wantS_none (ex_geq rfl rfl) rfl ?_
      refine Run.opG wantS_none (ex_assign rfl) rfl ?_
      refine Run.opsEnd ?_
      refine Run.retTo Tryz.func84 rfl (res_tmp rfl res_nil) rfl ?_
      rcases btf (v7_f2) with hc30 | hc30
      · have h := bif_t hc30 h
        refine Run.opG (wantS_yes' rfl rfl hc30) (ex_not rfl) rfl ?_
        refine Run.opG wantS_none (ex_pickT' rfl hc30 rfl rfl) rfl ?_
        exact Run.pick [12] (bank_areData_2_ok F (!(decide ((0 : Int) ≤ ((-1) : Int)))) _ _ _ hH h)
      · have h := bif_f hc30 h
        refine Run.no (wantS_not' rfl rfl hc30) rfl ?_
        refine Run.opG wantS_none (ex_pickF' rfl hc30 rfl rfl) rfl ?_
        exact Run.pick [12] (bank_areData_2_ok F false _ _ _ hH h)

def bank_areData (F : Nat) (a0 : (List Int)) : Option (Bool) :=
  bif (decide ((a0.length : Int) ≤ (512 : Int))) then
    bank_areData_1 F F a0 (a0.length : Int) (0 : Int) (decide ((a0.length : Int) ≤ (512 : Int)))
  else
    bank_areData_2 F false

theorem bank_areData_ok (F : Nat) (a0 : (List Int)) (s0 : SV) (r : Bool) (M : Mem) (hs0 : Slc (rd M) 1 (FlatR enc3) s0 a0) (h : bank_areData F a0 = some r) : CallsM Tryz.prog 34 [s0] M (fun s M' => s = (.bool r) ∧ M' = M) := by
  refine CallsM.plain Tryz.func34 rfl rfl rfl (show Run _ _ _ (bank_areData_post r) _ _ _ from ?_)
  rw [bank_areData] at h
  replace hs0 := hs0.mono (rdLe_frozen M) (fun _ _ h => h)
  have hH := Has.nil (frozen M)
  refine Run.seq (Run.region ?_)
  refine Run.opG wantS_none (ex_assign rfl) rfl ?_
  refine Run.opsEnd (Run.seq (Run.region ?_))
  refine Run.opG wantS_none (ex_assign rfl) rfl ?_
  refine Run.opsEnd (Run.seq (Run.region ?_))
  refine Run.opG wantS_none (ex_move rfl) rfl ?_
  refine Run.opG wantS_none (ex_len' rfl hs0 lenk25) rfl ?_
  refine Run.opG wantS_none (ex_leq rfl rfl) rfl ?_
  refine Run.opG wantS_none (ex_move rfl) rfl ?_
  rcases btf ((decide ((a0.length : Int) ≤ (512 : Int)))) with hc21 | hc21
  · have h := bif_t hc21 h
    refine Run.opG (wantS_yes' rfl rfl hc21) (ex_move rfl) rfl ?_
    refine Run.opG (wantS_yes' rfl rfl hc21) (ex_move rfl) rfl ?_
    refine Run.enter (wantS_yes' rfl rfl hc21) (ex_call rfl mkk84 cal84) Tryz.func84 rfl rfl ?_
    refine Run.seq (Run.region ?_)
    refine Run.opG wantS_none (ex_assign rfl) rfl ?_
    refine Run.opsEnd (Run.seq (Run.region ?_))
    refine Run.opG wantS_none (ex_move rfl) rfl ?_
    refine Run.opG wantS_none (ex_move rfl) rfl ?_
    refine Run.enter wantS_none (ex_call rfl mkk129 cal129) Tryz.func129 rfl rfl ?_
    refine Run.seq (Run.region ?_)
    refine Run.opG wantS_none (ex_assign rfl) rfl ?_
    refine Run.opsEnd (Run.seq (Run.seq (Run.region ?_)))
    refine Run.opG wantS_none (ex_move rfl) rfl ?_
    refine Run.opG wantS_none (ex_len' rfl hs0 lenk25) rfl ?_
    refine Run.opG wantS_none (ex_move rfl) rfl ?_
    refine Run.opsEnd (Run.block (Run.loop ?_))
    exact Run.low (.cons (fle_pick [] rfl) (.cons (fle_pick [7] rfl) .nil)) (Run.pick [0, 1, 7, 8] (bank_areData_1_ok F F a0 (a0.length : Int) (0 : Int) (decide ((a0.length : Int) ≤ (512 : Int))) s0 _ _ _ hs0 hH h))
  · have h := bif_f hc21 h
    refine Run.no (wantS_not' rfl rfl hc21) rfl ?_
    refine Run.no (wantS_not' rfl rfl hc21) rfl ?_
    refine Run.no (wantS_not' rfl rfl hc21) rfl ?_
    refine Run.no (wantS_not' rfl rfl hc21) rfl ?_
    refine Run.opG wantS_none (ex_pickF' rfl hc21 rfl rfl) rfl ?_
    exact Run.pick [12] (bank_areData_2_ok F false _ _ _ hH h)

theorem mkk34 : makeK Tryz.prog 34 = none := by kernel_rfl
theorem cal34 : callable Tryz.prog 34 = true := by kernel_rfl
theorem zer25 : zerosOf Tryz.prog 25 = some [.nils] := by kernel_rfl
theorem mkk35 : makeK Tryz.prog 35 = none := by kernel_rfl
theorem cal35 : callable Tryz.prog 35 = true := by kernel_rfl
theorem cal85 : callable Tryz.prog 85 = true := by kernel_rfl
theorem agg72 : aggSize Tryz.prog 72 = some none := by kernel_rfl
theorem agg25 : aggSize Tryz.prog 25 = some none := by kernel_rfl
abbrev bank_isTime_post (r : Bool) : SV → Mem → Prop := fun s _ => s = (.bool r)

def bank_isTime (F : Nat) (a0 : Int) (a1 : (List Int)) (a2 : Int) : Option (Bool) :=
  bnd (bank_isFrom F (0 : Int) a2 (w64 ((a1.length : Int) - a0))) fun r22 =>
  some r22

theorem bank_isTime_ok (F : Nat) (a0 : Int) (a1 : (List Int)) (a2 : Int) (s0 : SV) (r : Bool) (M : Mem) (hs0 : Slc (rd M) 1 (FlatR enc3) s0 a1) (h : bank_isTime F a0 a1 a2 = some r) : CallsM Tryz.prog 81 [(.int .i64 a0), s0, (.int .i64 a2)] M (fun s M' => s = (.bool r) ∧ M' = M) := by
  refine CallsM.plain Tryz.func81 rfl rfl rfl (show Run _ _ _ (bank_isTime_post r) _ _ _ from ?_)
  rw [bank_isTime] at h
  replace hs0 := hs0.mono (rdLe_frozen M) (fun _ _ h => h)
  have hH := Has.nil (frozen M)
  refine Run.seq (Run.region ?_)
  refine Run.opG wantS_none (ex_assign rfl) rfl ?_
  refine Run.opsEnd (Run.seq (Run.region ?_))
  refine Run.opG wantS_none (ex_move rfl) rfl ?_
  refine Run.opG wantS_none (ex_move rfl) rfl ?_
  refine Run.opG wantS_none (ex_len' rfl hs0 lenk25) rfl ?_
  refine Run.opG wantS_none (ex_move rfl) rfl ?_
  refine Run.opG wantS_none (ex_sub rfl rfl) rfl ?_
  obtain ⟨r22, hr22, h⟩ := bnd_some h
  refine Run.callP wantS_none (ex_call rfl mkk39 cal39) rfl (bank_isFrom_ok F (0 : Int) a2 (w64 ((a1.length : Int) - a0)) _ _ hr22) ?_
  refine Run.opG wantS_none (ex_assign rfl) rfl ?_
  refine Run.opsEnd ?_
  cases h
  exact Run.ret Tryz.func81 rfl (res_tmp rfl res_nil) rfl

theorem mkk81 : makeK Tryz.prog 81 = none := by kernel_rfl
theorem cal81 : callable Tryz.prog 81 = true := by kernel_rfl
abbrev bank_wave_samples_h1_post (e_v0 : (List Int)) (se_v0 : SV) (Fr0 : Rd) (Hr : List Ent) (r : (List Int)) : SV → Mem → Prop := fun s Me => ∃ q1, s = q1 ∧ ∃ F9 : Rd, RdLe Fr0 F9 ∧ Slc F9 1 (FlatR enc3) q1 r ∧ Has F9 Me (([] : List Ent) ++ Hr)

def bank_wave_samples_h1 (F : Nat) (e_v0 : (List Int)) : Option ((List Int)) :=
  bnd (e_v0[(64 : Nat)]?) fun x23 =>
  bnd (subP 64 0 x23) fun r24 =>
  bnd (parL e_v0 (0 + r24.1) r24.2) fun l24 =>
  some l24

theorem bank_wave_samples_h1_ok (F : Nat) : ∀ (e_v0 : (List Int)) (se_v0 : SV) (Fr0 : Rd) (Hr : List Ent) (M : Mem) (r : (List Int)) (he_v0 : RopTo Fr0 se_v0 (e_v0.flatMap enc3)) (hH : Has Fr0 M (([] : List Ent) ++ Hr)) (h : bank_wave_samples_h1 F e_v0 = some r), CallsM Tryz.prog 27 [se_v0] M (bank_wave_samples_h1_post e_v0 se_v0 Fr0 Hr r) := by
  intro e_v0 se_v0 Fr0 Hr M r he_v0 hH h
  refine CallsM.run Tryz.func27 rfl rfl (show Run _ _ _ (bank_wave_samples_h1_post e_v0 se_v0 Fr0 Hr r) _ _ _ from ?_)
  rw [bank_wave_samples_h1] at h
  refine Run.seq (Run.region ?_)
  refine Run.opG wantS_none (ex_assign rfl) rfl ?_
  refine Run.opsEnd (Run.seq ?_)
  refine Run.drawG plan27_1_0 ?_
  refine DrawG.fl rfl (ev_ex wantS_none (ex_move rfl)) rfl ?_
  obtain ⟨b21, hq21, hr21⟩ := rop_open he_v0
  refine DrawG.fl rfl (ev_ex wantS_none (ex_nilR rfl hq21)) rfl ?_
  refine DrawG.fl rfl (ev_ex wantS_none (ex_fieldAddr rfl off105_0)) rfl ?_
  refine DrawG.fl rfl (ev_ex wantS_none (ex_move rfl)) rfl ?_
  obtain ⟨b22, hq22, hr22⟩ := rop_open he_v0
  refine DrawG.fl rfl (ev_ex wantS_none (ex_nilR rfl hq22)) rfl ?_
  refine DrawG.fl rfl (ev_ex wantS_none (ex_fieldAddr rfl off105_1)) rfl ?_
  obtain ⟨x23, hx23, h⟩ := bnd_some h
  refine DrawG.fl rfl (ev_ex wantS_none (ex_load1 rfl (hH.ptrF (rop_at (enc := enc3) (a := x23) hr22 enc3_len hx23)) rdLe_rfl agg3)) rfl ?_
  obtain ⟨r24, hr24, h⟩ := bnd_some h
  obtain ⟨l24, hl24, h⟩ := bnd_some h
  obtain ⟨s24, hx24, hs24⟩ := rop_cutH (P := Tryz.prog) (t := 103) (off := 0) (k0 := .i64) hr21 enc3_len hr24 slk103 hl24
  refine DrawG.fl rfl (ev_ex wantS_none (ex_slX rfl (argO_none) (argO_some rfl) hx24)) rfl ?_
  refine DrawG.fl rfl (ev_ex wantS_none (ex_assign rfl)) rfl ?_
  refine DrawG.sync ?_
  refine DrawG.nil ?_
  cases h
  exact Run.ret Tryz.func27 rfl (res_tmp rfl res_nil) ⟨_, rfl, Fr0, (fun b c hb => hb), hs24, hH.pickT [] rfl rfl⟩

theorem plan86_1_0 : planOf Tryz.prog (opsC (atC Tryz.prog 86 [1, 0])) = some [.fl 0, .fl 2, .fl 3, .fl 4, .an 1 [4, 3, 2], .an 5 [], .fl 6, .sync] := by kernel_rfl
abbrev bank_output_post (r : Int) : SV → Mem → Prop := fun s _ => s = (.int .i64 r)

def bank_output (F : Nat) (a0 : (List Int)) (a1 : (List Int)) (a2 : Int) : Option (Int) :=
  bnd (sub a1 a2 (a1.length : Int)) fun l21 =>
  bnd (bank_wave_samples_h1 F a0) fun r22 =>
  bnd (bank_product F r22 l21) fun r24 =>
  some r24

theorem bank_output_ok (F : Nat) (a0 : (List Int)) (a1 : (List Int)) (a2 : Int) (s0 s1 : SV) (r : Int) (M : Mem) (hs0 : RopTo (rd M) s0 (a0.flatMap enc3)) (hs1 : Slc (rd M) 1 (FlatR enc3) s1 a1) (h : bank_output F a0 a1 a2 = some r) : CallsM Tryz.prog 86 [s0, s1, (.int .i64 a2)] M (fun s M' => s = (.int .i64 r) ∧ M' = M) := by
  refine CallsM.plain Tryz.func86 rfl rfl rfl (show Run _ _ _ (bank_output_post r) _ _ _ from ?_)
  rw [bank_output] at h
  replace hs0 := hs0.mono (rdLe_frozen M)
  replace hs1 := hs1.mono (rdLe_frozen M) (fun _ _ h => h)
  have hH := Has.nil (frozen M)
  refine Run.seq (Run.region ?_)
  refine Run.opG wantS_none (ex_assign rfl) rfl ?_
  refine Run.opsEnd (Run.seq ?_)
  refine Run.drawG plan86_1_0 ?_
  refine DrawG.fl rfl (ev_ex wantS_none (ex_move rfl)) rfl ?_
  refine DrawG.fl rfl (ev_ex wantS_none (ex_move rfl)) rfl ?_
  refine DrawG.fl rfl (ev_ex wantS_none (ex_move rfl)) rfl ?_
  obtain ⟨l21, hl21, h⟩ := bnd_some h
  obtain ⟨s21, hx21, hs21⟩ := sl_subL (P := Tryz.prog) (t := 25) (k0 := .i64) hs1 hl21 slk25
  refine DrawG.fl rfl (ev_ex wantS_none (ex_slX rfl (argO_some rfl) (argO_none) hx21)) rfl ?_
  obtain ⟨r22, hr22, h⟩ := bnd_some h
  refine DrawG.call rfl wantS_none (ex_call rfl mkk27 cal27) rfl (bank_wave_samples_h1_ok F a0 s0 (ro (frozen M)) [] _ _ hs0 hH hr22) ?_
  rintro s22_0 M23 ⟨_, rfl, F22, hle22, hq22_0, (hH23 : Has F22 M23 [])⟩
  replace hs0 := hs0.mono hle22
  replace hs1 := hs1.mono hle22 (fun _ _ h => h)
  replace hs21 := hs21.mono hle22 (fun _ _ h => h)
  refine ⟨(st_cons rfl (ev_ex wantS_none (ex_slX rfl (argO_some rfl) (argO_none) hx21)) rfl rfl (slc_self hs21) (st_cons rfl (ev_ex wantS_none (ex_move rfl)) rfl rfl rfl (st_cons rfl (ev_ex wantS_none (ex_move rfl)) rfl rfl (slc_self hs1) st_nil))), ?_⟩
  obtain ⟨r24, hr24, h⟩ := bnd_some h
  refine DrawG.callP rfl wantS_none (ex_call rfl mkk73 cal73) rfl (bank_product_ok F r22 l21 s22_0 s21 _ _ (hH23.slcF hq22_0) (hH23.slcF hs21) hr24) st_nil ?_
  refine DrawG.fl rfl (ev_ex wantS_none (ex_assign rfl)) rfl ?_
  refine DrawG.sync ?_
  refine DrawG.nil ?_
  cases h
  exact Run.ret Tryz.func86 rfl (res_tmp rfl res_nil) rfl

theorem mkk86 : makeK Tryz.prog 86 = none := by kernel_rfl
theorem cal86 : callable Tryz.prog 86 = true := by kernel_rfl
theorem sz25 : szOf Tryz.prog 25 = some 1 := by kernel_rfl
theorem plan85_1_0_0_0_0 : planOf Tryz.prog (opsC (atC Tryz.prog 85 [1, 0, 0, 0, 0])) = some [.fl 0, .fl 1, .fl 2, .fl 3, .fl 4, .fl 5, .an 6 [], .sync] := by kernel_rfl
abbrev bank_Filter_post (r : (List Int) × Int) : SV → Mem → Prop := fun s Me => ∃ q1, s = (.tuple [q1, (.int .i64 r.2)]) ∧ Has (fun _ => none) Me [.vec 3 1 r.1.length q1 (r.1.flatMap enc3)]

def bank_Filter_2 (F : Nat) : Nat → Int → Int → (List Int) → (List Int) → (List Int) → Option ((List Int) × Int)
  | 0, _, _, _, _, _ => none
  | N + 1, v4, v7_g73, c71_0, l75, l47 =>
    bnd (l47[(64 : Nat)]?) fun x77 =>
    bnd (bank_isTime F x77 c71_0 v4) fun r78 =>
    bif r78 then
      bnd (bank_output F l47 c71_0 v4) fun r82 =>
      bnd (apd 8 l75 ([r82] : List Int)) fun l90 =>
      (bank_Filter_2 F N) (w64 (v4 + (1 : Int))) v7_g73 c71_0 l90 l47
    else
      some (l75, (0 : Int))

theorem bank_Filter_2_ok (F : Nat) : ∀ (N : Nat), ∀ (v4 : Int) (v7_g73 : Int) (c71_0 : (List Int)) (l75 : (List Int)) (l47 : (List Int)) (sc71_0 : SV) (b73 : Pos) (b41 : Pos) (s75 : SV) (b68 : Pos) (b47 : Pos) (b71 : Pos) (b74 : Pos) (Fr : Rd) (M : Mem) (r : (List Int) × Int) (hc71_0 : Slc Fr 1 (FlatR enc3) sc71_0 c71_0) (hH : Has Fr M [.obj b73 (.loop ⟨.ready, none, 11, 35, treeOf [(6, .nils), (7, (.int .i64 v7_g73)), (9, (.ptr b41 0)), (27, (.fn (.func 85) [] [(.ptr b68 0), (.ptr b71 0)]))], [28, 29], (atC Tryz.prog 11 [1, 1, 1, 0, 1, 0, 0]), (atC Tryz.prog 11 [1, 1, 1, 0, 1, 0, 1]), b74⟩), .obj b41 (.row 25 .whole [s75]), .vec 3 1 l75.length s75 (l75.flatMap enc3), .obj b68 (.row 72 .whole [(.ptr b47 0)]), .obj b47 (.row 105 .whole (l47.flatMap enc3)), .obj b71 (.row 25 .whole [sc71_0]), .obj b74 .defd, tb0, tb1, tb2, tb3]), bank_Filter_2 F N v4 v7_g73 c71_0 l75 l47 = some r → Run Tryz.prog ⟨⟨85, [], none⟩, [.mk ⟨11, [b74], none⟩ 35 (treeOf [(9, (.ptr b41 0))]) [.inRange b73, .inBlock 1, codeC Tryz.prog 11 [1, 1, 1, 1]]]⟩ 22 (bank_Filter_post r) [(0, (.yield b73)), (1, (.ptr b68 0)), (2, (.ptr b71 0)), (4, (.int .i64 v4))] [codeC Tryz.prog 85 [1, 0, 0], loopC Tryz.prog 85 [1, 0, 0], .inBlock 0] M := by
  intro N
  induction N with
  | zero =>
    intro v4 v7_g73 c71_0 l75 l47 sc71_0 b73 b41 s75 b68 b47 b71 b74 Fr M r hc71_0 hH h
    simp [bank_Filter_2] at h
  | succ N ih =>
    intro v4 v7_g73 c71_0 l75 l47 sc71_0 b73 b41 s75 b68 b47 b71 b74 Fr M r hc71_0 hH h
    rw [bank_Filter_2] at h
    refine Run.seq (Run.seq ?_)
    refine Run.drawG plan85_1_0_0_0_0 ?_
    refine DrawG.fl rfl (ev_ex wantS_none (ex_load1 rfl (hH.cells (i := 3) rfl 0 rfl) rdLe_rfl agg72)) rfl ?_
    refine DrawG.fl rfl (ev_ex wantS_none (ex_nilP rfl)) rfl ?_
    refine DrawG.fl rfl (ev_ex wantS_none (ex_fieldAddr rfl off105_1)) rfl ?_
    obtain ⟨x77, hx77, h⟩ := bnd_some h
    refine DrawG.fl rfl (ev_ex wantS_none (ex_load1 rfl (hH.arrAt (enc := enc3) (a := x77) (i := 4) rfl hx77 enc3_len) rdLe_rfl agg3)) rfl ?_
    refine DrawG.fl rfl (ev_ex wantS_none (ex_load1 rfl (hH.cells (i := 5) rfl 0 rfl) rdLe_rfl agg25)) rfl ?_
    refine DrawG.fl rfl (ev_ex wantS_none (ex_move rfl)) rfl ?_
    obtain ⟨r78, hr78, h⟩ := bnd_some h
    refine DrawG.callP rfl wantS_none (ex_call rfl mkk81 cal81) rfl (bank_isTime_ok F x77 c71_0 v4 sc71_0 _ _ (hH.slcF hc71_0) hr78) st_nil ?_
    refine DrawG.sync ?_
    refine DrawG.nil ?_
    rcases btf (r78) with hc80 | hc80
    · have h := bif_t hc80 h
      refine Run.condT' rfl hc80 ?_
      refine Run.skip (Run.seq (Run.block (Run.seq (Run.region ?_))))
      refine Run.opG wantS_none (ex_move rfl) rfl ?_
      refine Run.opG wantS_none (ex_move rfl) rfl ?_
      refine Run.opG wantS_none (ex_load1 rfl (hH.cells (i := 3) rfl 0 rfl) rdLe_rfl agg72) rfl ?_
      refine Run.opG wantS_none (ex_load1 rfl (hH.cells (i := 5) rfl 0 rfl) rdLe_rfl agg25) rfl ?_
      refine Run.opG wantS_none (ex_move rfl) rfl ?_
      obtain ⟨r82, hr82, h⟩ := bnd_some h
      refine Run.callP wantS_none (ex_call rfl mkk86 cal86) rfl (bank_output_ok F l47 c71_0 v4 (.ptr b47 0) sc71_0 _ _ (hH.ropO (i := 4) rfl) (hH.slcF hc71_0) hr82) ?_
      refine Run.round (e' := [(29, (.int .i64 r82)), (28, (.int .i64 v4)), (6, .nils), (7, (.int .i64 v7_g73)), (9, (.ptr b41 0)), (27, (.fn (.func 85) [] [(.ptr b68 0), (.ptr b71 0)]))]) wantS_none (ex_yield hH (i := 0) rfl rfl rfl rfl) (hH.loopOf (i := 0) rfl) rfl ?_
      refine Run.region ?_
      refine Run.opG wantS_none (ex_assign rfl) rfl ?_
      refine Run.opsEnd ?_
      refine Run.beginX hH (i := 0) rfl rfl ?_
      intro M84 (hH84 : Has Fr M84 [.obj b73 (.loop ⟨.busy, none, 11, 35, treeOf [(6, .nils), (7, (.int .i64 v7_g73)), (9, (.ptr b41 0)), (27, (.fn (.func 85) [] [(.ptr b68 0), (.ptr b71 0)]))], [28, 29], (atC Tryz.prog 11 [1, 1, 1, 0, 1, 0, 0]), (atC Tryz.prog 11 [1, 1, 1, 0, 1, 0, 1]), b74⟩), .obj b41 (.row 25 .whole [s75]), .vec 3 1 l75.length s75 (l75.flatMap enc3), .obj b68 (.row 72 .whole [(.ptr b47 0)]), .obj b47 (.row 105 .whole (l47.flatMap enc3)), .obj b71 (.row 25 .whole [sc71_0]), .obj b74 .defd, tb0, tb1, tb2, tb3])
      refine Run.block (Run.region ?_)
      refine Run.opG wantS_none (ex_load1 rfl (hH84.cells (i := 1) rfl 0 rfl) rdLe_rfl agg25) rfl ?_
      refine Run.opG wantS_none (ex_move rfl) rfl ?_
      refine Run.opX wantS_none rfl (ExG.built (enc := enc3) (l := ([r82] : List Int)) (z := 1) rfl elt25 rfl rfl rfl enc3_len hH84) ?_
      rintro s86 M87 (hH87 : Has Fr M87 [.vec 3 1 ([r82] : List Int).length s86 (([r82] : List Int).flatMap enc3), .obj b73 (.loop ⟨.busy, none, 11, 35, treeOf [(6, .nils), (7, (.int .i64 v7_g73)), (9, (.ptr b41 0)), (27, (.fn (.func 85) [] [(.ptr b68 0), (.ptr b71 0)]))], [28, 29], (atC Tryz.prog 11 [1, 1, 1, 0, 1, 0, 0]), (atC Tryz.prog 11 [1, 1, 1, 0, 1, 0, 1]), b74⟩), .obj b41 (.row 25 .whole [s75]), .vec 3 1 l75.length s75 (l75.flatMap enc3), .obj b68 (.row 72 .whole [(.ptr b47 0)]), .obj b47 (.row 105 .whole (l47.flatMap enc3)), .obj b71 (.row 25 .whole [sc71_0]), .obj b74 .defd, tb0, tb1, tb2, tb3])
      obtain ⟨l90, hl90, h⟩ := bnd_some h
      refine Run.opX wantS_none rfl (ExG.append rfl rfl hH87 (i := 3) rfl enc3_len rfl enc3_ones appt25_25 rfl (len_slc (hH87.slc (i := 0) rfl enc3_len)) (first_slc (hH87.slc (i := 0) rfl enc3_len) (rdLe_rdRow _) enc3_len) hl90) ?_
      rintro s90 M92 (hH92 : Has Fr M92 [.vec 3 1 ([r82] : List Int).length s86 (([r82] : List Int).flatMap enc3), .obj b73 (.loop ⟨.busy, none, 11, 35, treeOf [(6, .nils), (7, (.int .i64 v7_g73)), (9, (.ptr b41 0)), (27, (.fn (.func 85) [] [(.ptr b68 0), (.ptr b71 0)]))], [28, 29], (atC Tryz.prog 11 [1, 1, 1, 0, 1, 0, 0]), (atC Tryz.prog 11 [1, 1, 1, 0, 1, 0, 1]), b74⟩), .obj b41 (.row 25 .whole [s75]), .vec 3 1 l90.length s90 (l90.flatMap enc3), .obj b68 (.row 72 .whole [(.ptr b47 0)]), .obj b47 (.row 105 .whole (l47.flatMap enc3)), .obj b71 (.row 25 .whole [sc71_0]), .obj b74 .defd, tb0, tb1, tb2, tb3])
      refine Run.opX wantS_none rfl (ExG.storeC (c' := [s90]) rfl rfl (cells_one (vec_one hH92 (i := 3) rfl)) hH92 (i := 2) rfl sz25 rfl rfl rfl (ones_cons (vec_one hH92 (i := 3) rfl) ones_nil) rfl) ?_
      rintro _ M93 ⟨rfl, (hH93 : Has Fr M93 [.vec 3 1 ([r82] : List Int).length s86 (([r82] : List Int).flatMap enc3), .obj b73 (.loop ⟨.busy, none, 11, 35, treeOf [(6, .nils), (7, (.int .i64 v7_g73)), (9, (.ptr b41 0)), (27, (.fn (.func 85) [] [(.ptr b68 0), (.ptr b71 0)]))], [28, 29], (atC Tryz.prog 11 [1, 1, 1, 0, 1, 0, 0]), (atC Tryz.prog 11 [1, 1, 1, 0, 1, 0, 1]), b74⟩), .obj b41 (.row 25 .whole [s90]), .vec 3 1 l90.length s90 (l90.flatMap enc3), .obj b68 (.row 72 .whole [(.ptr b47 0)]), .obj b47 (.row 105 .whole (l47.flatMap enc3)), .obj b71 (.row 25 .whole [sc71_0]), .obj b74 .defd, tb0, tb1, tb2, tb3])⟩
      refine Run.opsEnd (Run.inBlock ?_)
      refine Run.roundEndX hH93 (i := 1) rfl rfl ?_
      intro M94 (hH94 : Has Fr M94 [.vec 3 1 ([r82] : List Int).length s86 (([r82] : List Int).flatMap enc3), .obj b73 (.loop ⟨.ready, none, 11, 35, treeOf [(6, .nils), (7, (.int .i64 v7_g73)), (9, (.ptr b41 0)), (27, (.fn (.func 85) [] [(.ptr b68 0), (.ptr b71 0)]))], [28, 29], (atC Tryz.prog 11 [1, 1, 1, 0, 1, 0, 0]), (atC Tryz.prog 11 [1, 1, 1, 0, 1, 0, 1]), b74⟩), .obj b41 (.row 25 .whole [s90]), .vec 3 1 l90.length s90 (l90.flatMap enc3), .obj b68 (.row 72 .whole [(.ptr b47 0)]), .obj b47 (.row 105 .whole (l47.flatMap enc3)), .obj b71 (.row 25 .whole [sc71_0]), .obj b74 .defd, tb0, tb1, tb2, tb3])
      refine Run.opG wantS_none (ex_not rfl) rfl ?_
      refine Run.opsEnd ?_
      refine Run.condF' rfl (bnot_f rfl) ?_
      refine Run.skip (Run.inBlock (Run.region ?_))
      refine Run.opG wantS_none (ex_move rfl) rfl ?_
      refine Run.opG wantS_none (ex_add rfl rfl) rfl ?_
      refine Run.opG wantS_none (ex_assign rfl) rfl ?_
      refine Run.opsEnd (Run.inLoop ?_)
      exact Run.low (.cons (fle_pick [9] rfl) .nil) (Run.pick [0, 1, 2, 4] (ih (w64 (v4 + (1 : Int))) v7_g73 c71_0 l90 l47 sc71_0 b73 b41 s90 b68 b47 b71 b74 _ _ _ hc71_0 (hH94.pick [1, 2, 3, 4, 5, 6, 7, 8, 9, 10, 11] rfl rfl) h))
    · have h := bif_f hc80 h
      refine Run.condF' rfl hc80 ?_
      refine Run.exit rfl ?_
      refine Run.fallRange Tryz.func85 rfl res_nil ?_
      refine Run.endX hH (i := 0) rfl (fun hc => by cases hc) ?_
      intro M95 (hH95 : Has Fr M95 [.obj b73 (.loop ⟨.exhausted, none, 11, 35, treeOf [(6, .nils), (7, (.int .i64 v7_g73)), (9, (.ptr b41 0)), (27, (.fn (.func 85) [] [(.ptr b68 0), (.ptr b71 0)]))], [28, 29], (atC Tryz.prog 11 [1, 1, 1, 0, 1, 0, 0]), (atC Tryz.prog 11 [1, 1, 1, 0, 1, 0, 1]), b74⟩), .obj b41 (.row 25 .whole [s75]), .vec 3 1 l75.length s75 (l75.flatMap enc3), .obj b68 (.row 72 .whole [(.ptr b47 0)]), .obj b47 (.row 105 .whole (l47.flatMap enc3)), .obj b71 (.row 25 .whole [sc71_0]), .obj b74 .defd, tb0, tb1, tb2, tb3])
      refine Run.inBlock (Run.seq (Run.region ?_))
      refine Run.opG wantS_none (ex_load1 rfl (hH95.cells (i := 1) rfl 0 rfl) rdLe_rfl agg25) rfl ?_
      refine Run.opG wantS_none (ex_assign rfl) rfl ?_
      refine Run.opG wantS_none (ex_assign rfl) rfl ?_
      refine Run.opsEnd ?_
      obtain ⟨hH96x, hS96⟩ := hH95.shut (i := 6) (ds := []) rfl
      have hH96 : Has Fr (setT M95 b74 none) [.obj b73 (.loop ⟨.exhausted, none, 11, 35, treeOf [(6, .nils), (7, (.int .i64 v7_g73)), (9, (.ptr b41 0)), (27, (.fn (.func 85) [] [(.ptr b68 0), (.ptr b71 0)]))], [28, 29], (atC Tryz.prog 11 [1, 1, 1, 0, 1, 0, 0]), (atC Tryz.prog 11 [1, 1, 1, 0, 1, 0, 1]), b74⟩), .obj b41 (.row 25 .whole [s75]), .vec 3 1 l75.length s75 (l75.flatMap enc3), .obj b68 (.row 72 .whole [(.ptr b47 0)]), .obj b47 (.row 105 .whole (l47.flatMap enc3)), .obj b71 (.row 25 .whole [sc71_0]), .vec 0 0 0 .nils [], tb0, tb1, tb2, tb3] := hH96x
      cases h
      exact Run.ret Tryz.func11 (hS96 _ rfl) (res_tmp rfl (res_tmp rfl res_nil)) ⟨_, rfl, (hH96.pick [2] rfl rfl).upF (none_le _)⟩

def bank_Filter_1 (F : Nat) : Nat → Int → Int → (List Int) → Int → S_api_Chirp → (List Int) → Option ((List Int) × Int)
  | 0, _, _, _, _, _, _ => none
  | N + 1, v10, v11, v2_f1, v7_f1, c44, l47 =>
    bif (decide (v11 < v10)) then
      bnd (bank_table F (Int.tmod (w64 ((w64 (c44.P * v11)) + (w64 ((w64 (c44.Q * v11)) * v11)))) (64 : Int))) fun r50 =>
      bnd (inA v11 64) fun o52 =>
      bnd (upd l47 (((0 + o52 * 1) : Nat) : Int) r50) fun l53 =>
      (bank_Filter_1 F N) v10 (w64 (v11 + (1 : Int))) v2_f1 v7_f1 c44 l53
    else
      bnd (bank_wave_samples F l47) fun l56 =>
      bnd (bank_wave_samples F l47) fun l59 =>
      bnd (bank_product F l56 l59) fun r62 =>
      bnd (upd l47 ((65 : Nat) : Int) r62) fun l65 =>
      bank_Filter_2 F F (0 : Int) v7_f1 v2_f1 ([] : List Int) l65

theorem bank_Filter_1_ok (F : Nat) : ∀ (N : Nat), ∀ (v10 : Int) (v11 : Int) (v2_f1 : (List Int)) (v7_f1 : Int) (c44 : S_api_Chirp) (l47 : (List Int)) (sv2_f1 : SV) (b44 : Pos) (b47 : Pos) (b41 : Pos) (Fr : Rd) (M : Mem) (r : (List Int) × Int) (hv2_f1 : Slc Fr 1 (FlatR enc3) sv2_f1 v2_f1) (hH : Has Fr M [.obj b44 (.row 27 .whole [(.int .i64 c44.P), (.int .i64 c44.Q)]), .obj b47 (.row 105 .whole (l47.flatMap enc3)), .obj b41 (.row 25 .whole [.nils]), tb0, tb1, tb2, tb3]), bank_Filter_1 F N v10 v11 v2_f1 v7_f1 c44 l47 = some r → Run Tryz.prog ⟨⟨26, [], none⟩, [.mk ⟨11, [], none⟩ 35 (treeOf [(2, sv2_f1), (6, .nils), (7, (.int .i64 v7_f1)), (9, (.ptr b41 0))]) [itemC Tryz.prog 11 [1, 1, 1, 0, 0] 2, codeC Tryz.prog 11 [1, 1, 1, 0, 1], codeC Tryz.prog 11 [1, 1, 1, 1]]]⟩ 42 (bank_Filter_post r) [(3, (.ptr b44 0)), (5, (.ptr b47 0)), (10, (.int .i64 v10)), (11, (.int .i64 v11))] [codeC Tryz.prog 26 [1, 1, 0, 1, 0, 0], loopC Tryz.prog 26 [1, 1, 0, 1, 0, 0], .inBlock 0, codeC Tryz.prog 26 [1, 1, 1]] M := by
  intro N
  induction N with
  | zero =>
    intro v10 v11 v2_f1 v7_f1 c44 l47 sv2_f1 b44 b47 b41 Fr M r hv2_f1 hH h
    simp [bank_Filter_1] at h
  | succ N ih =>
    intro v10 v11 v2_f1 v7_f1 c44 l47 sv2_f1 b44 b47 b41 Fr M r hv2_f1 hH h
    rw [bank_Filter_1] at h
    refine Run.seq (Run.region ?_)
    refine Run.opG wantS_none (ex_lss rfl rfl) rfl ?_
    refine Run.opsEnd (Run.seq ?_)
    rcases btf ((decide (v11 < v10))) with hc49 | hc49
    · have h := bif_t hc49 h
      refine Run.condT' rfl hc49 ?_
      refine Run.skip (Run.seq (Run.block (Run.seq (Run.region ?_))))
      refine Run.opG wantS_none (ex_move rfl) rfl ?_
      refine Run.opG wantS_none (ex_assign rfl) rfl ?_
      refine Run.opsEnd ?_
      refine Run.drawG plan26_1_1_0_1_0_0_1_1_0_0_1 ?_
      refine DrawG.fl rfl (ev_ex wantS_none (ex_move rfl)) rfl ?_
      refine DrawG.fl rfl (ev_ex wantS_none (ex_move rfl)) rfl ?_
      refine DrawG.fl rfl (ev_ex wantS_none (ex_fieldAddr rfl off27_0)) rfl ?_
      refine DrawG.fl rfl (ev_ex wantS_none (ex_load1 rfl (hH.cells (i := 0) rfl 0 rfl) rdLe_rfl agg3)) rfl ?_
      refine DrawG.fl rfl (ev_ex wantS_none (ex_move rfl)) rfl ?_
      refine DrawG.fl rfl (ev_ex wantS_none (ex_mul rfl rfl)) rfl ?_
      refine DrawG.fl rfl (ev_ex wantS_none (ex_fieldAddr rfl off27_1)) rfl ?_
      refine DrawG.fl rfl (ev_ex wantS_none (ex_load1 rfl (hH.cells (i := 0) rfl 1 rfl) rdLe_rfl agg3)) rfl ?_
      refine DrawG.fl rfl (ev_ex wantS_none (ex_move rfl)) rfl ?_
      refine DrawG.fl rfl (ev_ex wantS_none (ex_mul rfl rfl)) rfl ?_
      refine DrawG.fl rfl (ev_ex wantS_none (ex_move rfl)) rfl ?_
      refine DrawG.fl rfl (ev_ex wantS_none (ex_mul rfl rfl)) rfl ?_
      refine DrawG.fl rfl (ev_ex wantS_none (ex_add rfl rfl)) rfl ?_
      refine DrawG.fl rfl (ev_ex wantS_none (ex_rem rfl rfl (by decide))) rfl ?_
      refine DrawG.fl rfl (ev_ex wantS_none (ex_nilP rfl)) rfl ?_
      refine DrawG.fl rfl (ev_ex wantS_none (ex_fieldAddr rfl off105_0)) rfl ?_
      obtain ⟨r50, hr50, h⟩ := bnd_some h
      refine DrawG.callP rfl wantS_none (ex_call rfl mkk72 cal72) rfl (bank_table_ok F (Int.tmod (w64 ((w64 (c44.P * v11)) + (w64 ((w64 (c44.Q * v11)) * v11)))) (64 : Int)) _ _ (fixH hH (List.mem_of_getElem? (i := 3) rfl) (List.mem_of_getElem? (i := 4) rfl) (List.mem_of_getElem? (i := 5) rfl) (List.mem_of_getElem? (i := 6) rfl)) hr50) (st_cons rfl (ev_ex wantS_none (ex_fieldAddr rfl off105_0)) rfl rfl rfl (st_cons rfl (ev_ex wantS_none (ex_nilP rfl)) rfl rfl rfl (st_cons rfl (ev_ex wantS_none (ex_move rfl)) rfl rfl rfl (st_cons rfl (ev_ex wantS_none (ex_move rfl)) rfl rfl rfl st_nil)))) ?_
      obtain ⟨o52, ho52, h⟩ := bnd_some h
      refine DrawG.fl rfl (ev_ex wantS_none (ex_elX rfl rfl (arr_place (inA_natIn ho52) els103))) rfl ?_
      obtain ⟨l53, hl53, h⟩ := bnd_some h
      refine DrawG.opX rfl wantS_none rfl (ExG.storeA rfl rfl hH (i := 1) rfl hl53 sz3 rfl enc3_len enc3_ones) ?_
      rintro _ M54 ⟨rfl, (hH54 : Has Fr M54 [.obj b44 (.row 27 .whole [(.int .i64 c44.P), (.int .i64 c44.Q)]), .obj b47 (.row 105 .whole (l53.flatMap enc3)), .obj b41 (.row 25 .whole [.nils]), tb0, tb1, tb2, tb3])⟩
      refine ⟨st_nil, ?_⟩
      refine DrawG.sync ?_
      refine DrawG.nil ?_
      refine Run.inBlock (Run.region ?_)
      refine Run.opG wantS_none (ex_add rfl rfl) rfl ?_
      refine Run.opG wantS_none (ex_move rfl) rfl ?_
      refine Run.opsEnd (Run.inLoop ?_)
      exact Run.low (.cons (fle_pick [2, 6, 7, 9] rfl) .nil) (Run.pick [3, 5, 10, 11] (ih v10 (w64 (v11 + (1 : Int))) v2_f1 v7_f1 c44 l53 sv2_f1 b44 b47 b41 _ _ _ hv2_f1 hH54 h))
    · have h := bif_f hc49 h
      refine Run.condF' rfl hc49 ?_
      refine Run.exit rfl (Run.seq (Run.region ?_))
      refine Run.opG wantS_none (ex_move rfl) rfl ?_
      refine Run.opG wantS_none (ex_move rfl) rfl ?_
      obtain ⟨l56, hl56, h⟩ := bnd_some h
      have hs56 := bank_wave_samples_slc F hH (i := 1) rfl hl56
      refine Run.callP wantS_none (ex_call rfl mkk27 cal27) rfl (bank_wave_samples_ok F hH (i := 1) rfl hl56) ?_
      refine Run.opG wantS_none (ex_move rfl) rfl ?_
      obtain ⟨l59, hl59, h⟩ := bnd_some h
      have hs59 := bank_wave_samples_slc F hH (i := 1) rfl hl59
      refine Run.callP wantS_none (ex_call rfl mkk27 cal27) rfl (bank_wave_samples_ok F hH (i := 1) rfl hl59) ?_
      obtain ⟨r62, hr62, h⟩ := bnd_some h
      refine Run.callP wantS_none (ex_call rfl mkk73 cal73) rfl (bank_product_ok F l56 l59 (.slice b47 0 l56.length 64) (.slice b47 0 l59.length 64) _ _ hs56 hs59 hr62) ?_
      refine Run.opG wantS_none (ex_nilP rfl) rfl ?_
      refine Run.opG wantS_none (ex_fieldAddr rfl off105_2) rfl ?_
      obtain ⟨l65, hl65, h⟩ := bnd_some h
      refine Run.opX wantS_none rfl (ExG.storeA rfl rfl hH (i := 1) rfl hl65 sz3 rfl enc3_len enc3_ones) ?_
      rintro _ M66 ⟨rfl, (hH66 : Has Fr M66 [.obj b44 (.row 27 .whole [(.int .i64 c44.P), (.int .i64 c44.Q)]), .obj b47 (.row 105 .whole (l65.flatMap enc3)), .obj b41 (.row 25 .whole [.nils]), tb0, tb1, tb2, tb3])⟩
      refine Run.opsEnd (Run.seq (Run.region ?_))
      refine Run.opG wantS_none (ex_move rfl) rfl ?_
      refine Run.opG wantS_none (ex_assign rfl) rfl ?_
      refine Run.opsEnd ?_
      refine Run.retTo Tryz.func26 rfl (res_tmp rfl res_nil) rfl ?_
      refine Run.opG wantS_none (ex_move rfl) rfl ?_
      refine Run.enter wantS_none (ex_call rfl mkk35 cal35) Tryz.func35 rfl rfl ?_
      refine Run.seq (Run.region ?_)
      refine Run.opX wantS_none rfl (ExG.box rfl rfl hH66) ?_
      rintro _ M69 ⟨b68, rfl, (hH69 : Has Fr M69 [.obj b68 (.row 72 .whole [(.ptr b47 0)]), .obj b44 (.row 27 .whole [(.int .i64 c44.P), (.int .i64 c44.Q)]), .obj b47 (.row 105 .whole (l65.flatMap enc3)), .obj b41 (.row 25 .whole [.nils]), tb0, tb1, tb2, tb3])⟩
      refine Run.opX wantS_none rfl (ExG.box rfl (cells_one (slc_one hv2_f1)) hH69) ?_
      rintro _ M72 ⟨b71, rfl, (hH72 : Has Fr M72 [.obj b71 (.row 25 .whole [sv2_f1]), .obj b68 (.row 72 .whole [(.ptr b47 0)]), .obj b44 (.row 27 .whole [(.int .i64 c44.P), (.int .i64 c44.Q)]), .obj b47 (.row 105 .whole (l65.flatMap enc3)), .obj b41 (.row 25 .whole [.nils]), tb0, tb1, tb2, tb3])⟩
      refine Run.opG wantS_none (ex_assign rfl) rfl ?_
      refine Run.opsEnd (Run.seq (Run.region ?_))
      refine Run.opG wantS_none (ex_makeFunc rfl rfl) rfl ?_
      refine Run.opG wantS_none (ex_assign rfl) rfl ?_
      refine Run.opsEnd ?_
      refine Run.retTo Tryz.func35 rfl (res_tmp rfl res_nil) rfl ?_
      refine Run.opsEnd (Run.block ?_)
      refine Run.pick [6, 7, 9, 27] ?_
      refine Run.rangeX rfl cal85 Tryz.func85 rfl rfl hH72 ?_
      intro b74 b73 M73 (hH73 : Has Fr M73 [.obj b73 (.loop ⟨.ready, none, 11, 35, treeOf [(6, .nils), (7, (.int .i64 v7_f1)), (9, (.ptr b41 0)), (27, (.fn (.func 85) [] [(.ptr b68 0), (.ptr b71 0)]))], [28, 29], (atC Tryz.prog 11 [1, 1, 1, 0, 1, 0, 0]), (atC Tryz.prog 11 [1, 1, 1, 0, 1, 0, 1]), b74⟩), .obj b74 .defd, .obj b71 (.row 25 .whole [sv2_f1]), .obj b68 (.row 72 .whole [(.ptr b47 0)]), .obj b44 (.row 27 .whole [(.int .i64 c44.P), (.int .i64 c44.Q)]), .obj b47 (.row 105 .whole (l65.flatMap enc3)), .obj b41 (.row 25 .whole [.nils]), tb0, tb1, tb2, tb3])
      refine Run.seq (Run.region ?_)
      refine Run.opG wantS_none (ex_assign rfl) rfl ?_
      refine Run.opsEnd (Run.block (Run.loop ?_))
      have hH76 : Has Fr M73 [.vec 3 1 ([] : List Int).length .nils (([] : List Int).flatMap enc3), .obj b73 (.loop ⟨.ready, none, 11, 35, treeOf [(6, .nils), (7, (.int .i64 v7_f1)), (9, (.ptr b41 0)), (27, (.fn (.func 85) [] [(.ptr b68 0), (.ptr b71 0)]))], [28, 29], (atC Tryz.prog 11 [1, 1, 1, 0, 1, 0, 0]), (atC Tryz.prog 11 [1, 1, 1, 0, 1, 0, 1]), b74⟩), .obj b74 .defd, .obj b71 (.row 25 .whole [sv2_f1]), .obj b68 (.row 72 .whole [(.ptr b47 0)]), .obj b44 (.row 27 .whole [(.int .i64 c44.P), (.int .i64 c44.Q)]), .obj b47 (.row 105 .whole (l65.flatMap enc3)), .obj b41 (.row 25 .whole [.nils]), tb0, tb1, tb2, tb3] := hH73.nils 3 1
      exact Run.low (.cons (fle_pick [9] rfl) .nil) (Run.pick [0, 1, 2, 4] (bank_Filter_2_ok F F (0 : Int) v7_f1 v2_f1 ([] : List Int) l65 sv2_f1 b73 b41 .nils b68 b47 b71 b74 _ _ _ hv2_f1 (hH76.pick [1, 7, 0, 4, 6, 3, 2, 8, 9, 10, 11] rfl rfl) h))

def bank_Filter (F : Nat) (a0 : Int) (a1 : S_api_Chirp) (a2 : (List Int)) : Option ((List Int) × Int) :=
  bnd (bank_CheckChirp F a0 a1) fun r29 =>
  bif (!(r29 == (0 : Int))) then
    some (([] : List Int), r29)
  else
    bnd (bank_areData F a2) fun r35 =>
    bif (!r35) then
      some (([] : List Int), (73 : Int))
    else
      bank_Filter_1 F F a0 (0 : Int) a2 (0 : Int) a1 ([0, 0, 0, 0, 0, 0, 0, 0, 0, 0, 0, 0, 0, 0, 0, 0, 0, 0, 0, 0, 0, 0, 0, 0, 0, 0, 0, 0, 0, 0, 0, 0, 0, 0, 0, 0, 0, 0, 0, 0, 0, 0, 0, 0, 0, 0, 0, 0, 0, 0, 0, 0, 0, 0, 0, 0, 0, 0, 0, 0, 0, 0, 0, 0, a0, 0] : List Int)

theorem bank_Filter_ok (F : Nat) (a0 : Int) (a1 : S_api_Chirp) (a2 : (List Int)) (s0 : SV) (r : (List Int) × Int) (M : Mem) (hs0 : Slc (rd M) 1 (FlatR enc3) s0 a2) (hfx : FixIn M fixes) (h : bank_Filter F a0 a1 a2 = some r) : CallsM Tryz.prog 11 [(.int .i64 a0), (.agg [(.int .i64 a1.P), (.int .i64 a1.Q)]), s0] M (fun s M' => ∃ q1, s = (.tuple [q1, (.int .i64 r.2)]) ∧ New M M' [.vec 3 1 r.1.length q1 (r.1.flatMap enc3)]) := by
  refine CallsM.fresh (Q := bank_Filter_post r) Tryz.func11 rfl rfl ?_ (by rintro s Me ⟨q1, rfl, hx⟩ ha hw; exact ⟨_, rfl, New.of rfl hx ha hw⟩)
  rw [bank_Filter] at h
  replace hs0 := hs0.mono (rdLe_frozen M) (fun _ _ h => h)
  have hH : Has (ro (frozen M)) (frozen M) [tb0, tb1, tb2, tb3] := Has.ofFix hfx.frozen
  refine Run.seq (Run.region ?_)
  refine Run.opX wantS_none rfl (ExG.box rfl rfl hH) ?_
  rintro _ M27 ⟨b26, rfl, (hH27 : Has (ro (frozen M)) M27 [.obj b26 (.row 27 .whole [(.int .i64 a1.P), (.int .i64 a1.Q)]), tb0, tb1, tb2, tb3])⟩
  refine Run.opG wantS_none (ex_assign rfl) rfl ?_
  refine Run.opG wantS_none (ex_assign rfl) rfl ?_
  refine Run.opsEnd (Run.seq (Run.seq (Run.region ?_)))
  refine Run.opG wantS_none (ex_move rfl) rfl ?_
  refine Run.opG wantS_none (ex_loadA rfl (hH27.cells (i := 0) rfl 0 rfl) rdLe_rfl agg27 rfl rfl rfl) rfl ?_
  obtain ⟨r29, hr29, h⟩ := bnd_some h
  refine Run.callP wantS_none (ex_call rfl mkk25 cal25) rfl (bank_CheckChirp_ok F a0 a1 _ _ hr29) ?_
  refine Run.opG wantS_none (ex_assign rfl) rfl ?_
  refine Run.opsEnd (Run.block (Run.seq (Run.region ?_)))
  refine Run.opG wantS_none (ex_move rfl) rfl ?_
  refine Run.opG wantS_none (ex_neq rfl rfl) rfl ?_
  refine Run.opG wantS_none (ex_assign rfl) rfl ?_
  refine Run.opsEnd ?_
  rcases btf ((!(r29 == (0 : Int)))) with hc31 | hc31
  · have h := bif_t hc31 h
    refine Run.condT' rfl hc31 ?_
    refine Run.seq (Run.region ?_)
    refine Run.opG wantS_none (ex_move rfl) rfl ?_
    refine Run.opG wantS_none (ex_assign rfl) rfl ?_
    refine Run.opG wantS_none (ex_assign rfl) rfl ?_
    refine Run.opsEnd ?_
    have hH33 : Has (ro (frozen M)) M27 [.vec 3 1 ([] : List Int).length .nils (([] : List Int).flatMap enc3), .obj b26 (.row 27 .whole [(.int .i64 a1.P), (.int .i64 a1.Q)]), tb0, tb1, tb2, tb3] := hH27.nils 3 1
    cases h
    exact Run.ret Tryz.func11 rfl (res_tmp rfl (res_tmp rfl res_nil)) ⟨_, rfl, (hH33.pick [0] rfl rfl).upF (none_le _)⟩
  · have h := bif_f hc31 h
    refine Run.condF' rfl hc31 ?_
    refine Run.seq (Run.region ?_)
    refine Run.opG wantS_none (ex_move rfl) rfl ?_
    obtain ⟨r35, hr35, h⟩ := bnd_some h
    refine Run.callP wantS_none (ex_call rfl mkk34 cal34) rfl (bank_areData_ok F a2 s0 _ _ (hH27.slcF hs0) hr35) ?_
    refine Run.opG wantS_none (ex_not rfl) rfl ?_
    refine Run.opG wantS_none (ex_assign rfl) rfl ?_
    refine Run.opsEnd ?_
    rcases btf ((!r35)) with hc37 | hc37
    · have h := bif_t hc37 h
      refine Run.condT' rfl hc37 ?_
      refine Run.seq (Run.region ?_)
      refine Run.opG wantS_none (ex_assign rfl) rfl ?_
      refine Run.opG wantS_none (ex_assign rfl) rfl ?_
      refine Run.opsEnd ?_
      have hH39 : Has (ro (frozen M)) M27 [.vec 3 1 ([] : List Int).length .nils (([] : List Int).flatMap enc3), .obj b26 (.row 27 .whole [(.int .i64 a1.P), (.int .i64 a1.Q)]), tb0, tb1, tb2, tb3] := hH27.nils 3 1
      cases h
      exact Run.ret Tryz.func11 rfl (res_tmp rfl (res_tmp rfl res_nil)) ⟨_, rfl, (hH39.pick [0] rfl rfl).upF (none_le _)⟩
    · have h := bif_f hc37 h
      refine Run.condF' rfl hc37 ?_
      refine Run.skip (Run.inBlock (Run.seq (Run.region ?_)))
      refine Run.opX wantS_none rfl (ExG.new (v := fun b => .ptr b 0) (ex_alloc zer25) hH27) ?_
      rintro _ M42 ⟨b41, rfl, (hH42 : Has (ro (frozen M)) M42 [.obj b41 (.row 25 .whole [.nils]), .obj b26 (.row 27 .whole [(.int .i64 a1.P), (.int .i64 a1.Q)]), tb0, tb1, tb2, tb3])⟩
      refine Run.opsEnd (Run.seq (Run.seq (Run.region ?_)))
      refine Run.opG wantS_none (ex_move rfl) rfl ?_
      refine Run.opG wantS_none (ex_loadA rfl (hH42.cells (i := 1) rfl 0 rfl) rdLe_rfl agg27 rfl rfl rfl) rfl ?_
      refine Run.enter wantS_none (ex_call rfl mkk26 cal26) Tryz.func26 rfl rfl ?_
      refine Run.seq (Run.region ?_)
      refine Run.opX wantS_none rfl (ExG.box rfl rfl hH42) ?_
      rintro _ M45 ⟨b44, rfl, (hH45 : Has (ro (frozen M)) M45 [.obj b44 (.row 27 .whole [(.int .i64 a1.P), (.int .i64 a1.Q)]), .obj b41 (.row 25 .whole [.nils]), .obj b26 (.row 27 .whole [(.int .i64 a1.P), (.int .i64 a1.Q)]), tb0, tb1, tb2, tb3])⟩
      refine Run.opG wantS_none (ex_assign rfl) rfl ?_
      refine Run.opsEnd (Run.seq (Run.region ?_))
      refine Run.opG wantS_none (ex_move rfl) rfl ?_
      refine Run.opG wantS_none (ex_build (r := [(.int .i64 0), (.int .i64 0), (.int .i64 0), (.int .i64 0), (.int .i64 0), (.int .i64 0), (.int .i64 0), (.int .i64 0), (.int .i64 0), (.int .i64 0), (.int .i64 0), (.int .i64 0), (.int .i64 0), (.int .i64 0), (.int .i64 0), (.int .i64 0), (.int .i64 0), (.int .i64 0), (.int .i64 0), (.int .i64 0), (.int .i64 0), (.int .i64 0), (.int .i64 0), (.int .i64 0), (.int .i64 0), (.int .i64 0), (.int .i64 0), (.int .i64 0), (.int .i64 0), (.int .i64 0), (.int .i64 0), (.int .i64 0), (.int .i64 0), (.int .i64 0), (.int .i64 0), (.int .i64 0), (.int .i64 0), (.int .i64 0), (.int .i64 0), (.int .i64 0), (.int .i64 0), (.int .i64 0), (.int .i64 0), (.int .i64 0), (.int .i64 0), (.int .i64 0), (.int .i64 0), (.int .i64 0), (.int .i64 0), (.int .i64 0), (.int .i64 0), (.int .i64 0), (.int .i64 0), (.int .i64 0), (.int .i64 0), (.int .i64 0), (.int .i64 0), (.int .i64 0), (.int .i64 0), (.int .i64 0), (.int .i64 0), (.int .i64 0), (.int .i64 0), (.int .i64 0), (.int .i64 a0), (.int .i64 0)]) rfl zer105 pls105 rfl) rfl ?_
      refine Run.opX wantS_none rfl (ExG.box (c := ([0, 0, 0, 0, 0, 0, 0, 0, 0, 0, 0, 0, 0, 0, 0, 0, 0, 0, 0, 0, 0, 0, 0, 0, 0, 0, 0, 0, 0, 0, 0, 0, 0, 0, 0, 0, 0, 0, 0, 0, 0, 0, 0, 0, 0, 0, 0, 0, 0, 0, 0, 0, 0, 0, 0, 0, 0, 0, 0, 0, 0, 0, 0, 0, a0, 0] : List Int).flatMap enc3) rfl rfl hH45) ?_
      rintro _ M48 ⟨b47, rfl, (hH48 : Has (ro (frozen M)) M48 [.obj b47 (.row 105 .whole (([0, 0, 0, 0, 0, 0, 0, 0, 0, 0, 0, 0, 0, 0, 0, 0, 0, 0, 0, 0, 0, 0, 0, 0, 0, 0, 0, 0, 0, 0, 0, 0, 0, 0, 0, 0, 0, 0, 0, 0, 0, 0, 0, 0, 0, 0, 0, 0, 0, 0, 0, 0, 0, 0, 0, 0, 0, 0, 0, 0, 0, 0, 0, 0, a0, 0] : List Int).flatMap enc3)), .obj b44 (.row 27 .whole [(.int .i64 a1.P), (.int .i64 a1.Q)]), .obj b41 (.row 25 .whole [.nils]), .obj b26 (.row 27 .whole [(.int .i64 a1.P), (.int .i64 a1.Q)]), tb0, tb1, tb2, tb3])⟩
      refine Run.opG wantS_none (ex_assign rfl) rfl ?_
      refine Run.opsEnd (Run.seq (Run.seq (Run.region ?_)))
      refine Run.opG wantS_none (ex_move rfl) rfl ?_
      refine Run.opG wantS_none (ex_move rfl) rfl ?_
      refine Run.opsEnd (Run.block (Run.loop ?_))
      exact Run.low (.cons (fle_pick [2, 6, 7, 9] rfl) .nil) (Run.pick [3, 5, 10, 11] (bank_Filter_1_ok F F a0 (0 : Int) a2 (0 : Int) a1 ([0, 0, 0, 0, 0, 0, 0, 0, 0, 0, 0, 0, 0, 0, 0, 0, 0, 0, 0, 0, 0, 0, 0, 0, 0, 0, 0, 0, 0, 0, 0, 0, 0, 0, 0, 0, 0, 0, 0, 0, 0, 0, 0, 0, 0, 0, 0, 0, 0, 0, 0, 0, 0, 0, 0, 0, 0, 0, 0, 0, 0, 0, 0, 0, a0, 0] : List Int) s0 b44 b47 b41 _ _ _ hs0 (hH48.pick [1, 0, 2, 4, 5, 6, 7] rfl rfl) h))

theorem mkk11 : makeK Tryz.prog 11 = none := by kernel_rfl
theorem cal11 : callable Tryz.prog 11 = true := by kernel_rfl
abbrev ref00_In_post (r : Bool) : SV → Mem → Prop := fun s _ => s = (.bool r)

def ref00_In_1 (F : Nat) (v14 : Bool) : Option (Bool) :=
  some v14

theorem ref00_In_1_ok (F : Nat) : ∀ (v14 : Bool) (Fr : Rd) (M : Mem) (r : Bool) (hH : Has Fr M []), ref00_In_1 F v14 = some r → Run Tryz.prog ⟨⟨12, [], none⟩, []⟩ 15 (ref00_In_post r) [(14, (.bool v14))] [itemC Tryz.prog 12 [1, 0] 8, codeC Tryz.prog 12 [1, 1]] M := by
  intro v14 Fr M r hH h
  rw [ref00_In_1] at h
  refine Run.opG wantS_none (ex_assign rfl) rfl ?_
  refine Run.opsEnd ?_
  cases h
  exact Run.ret Tryz.func12 rfl (res_tmp rfl res_nil) rfl

def ref00_In (F : Nat) (a0 : Int) (a1 : Int) (a2 : Int) : Option (Bool) :=
  bif (decide (a1 ≤ a0)) then
    ref00_In_1 F (decide (a0 ≤ a2))
  else
    ref00_In_1 F false

theorem ref00_In_ok (F : Nat) (a0 : Int) (a1 : Int) (a2 : Int) (r : Bool) (M : Mem) (h : ref00_In F a0 a1 a2 = some r) : CallsM Tryz.prog 12 [(.int .i64 a0), (.int .i64 a1), (.int .i64 a2)] M (fun s M' => s = (.bool r) ∧ M' = M) := by
  refine CallsM.plain Tryz.func12 rfl rfl rfl (show Run _ _ _ (ref00_In_post r) _ _ _ from ?_)
  rw [ref00_In] at h
  have hH := Has.nil (frozen M)
  refine Run.seq (Run.region ?_)
  refine Run.opG wantS_none (ex_assign rfl) rfl ?_
  refine Run.opsEnd (Run.seq (Run.region ?_))
  refine Run.opG wantS_none (ex_move rfl) rfl ?_
  refine Run.opG wantS_none (ex_move rfl) rfl ?_
  refine Run.opG wantS_none (ex_leq rfl rfl) rfl ?_
  refine Run.opG wantS_none (ex_move rfl) rfl ?_
  rcases btf ((decide (a1 ≤ a0))) with hc21 | hc21
  · have h := bif_t hc21 h
    refine Run.opG (wantS_yes' rfl rfl hc21) (ex_move rfl) rfl ?_
    refine Run.opG (wantS_yes' rfl rfl hc21) (ex_move rfl) rfl ?_
    refine Run.opG (wantS_yes' rfl rfl hc21) (ex_leq rfl rfl) rfl ?_
    refine Run.opG wantS_none (ex_pickT' rfl hc21 rfl rfl) rfl ?_
    exact Run.pick [14] (ref00_In_1_ok F (decide (a0 ≤ a2)) _ _ _ hH h)
  · have h := bif_f hc21 h
    refine Run.no (wantS_not' rfl rfl hc21) rfl ?_
    refine Run.no (wantS_not' rfl rfl hc21) rfl ?_
    refine Run.no (wantS_not' rfl rfl hc21) rfl ?_
    refine Run.opG wantS_none (ex_pickF' rfl hc21 rfl rfl) rfl ?_
    exact Run.pick [14] (ref00_In_1_ok F false _ _ _ hH h)

theorem mkk12 : makeK Tryz.prog 12 = none := by kernel_rfl
theorem cal12 : callable Tryz.prog 12 = true := by kernel_rfl
theorem off39_1 : fieldOff Tryz.prog 39 1 = some 1 := by kernel_rfl
theorem plan3_1_1_1_1_1_1_1_1_1_1_1_1_0_1_0_0_1_0_0_1_0_1_0_0_1_0_0_0 : planOf Tryz.prog (opsC (atC Tryz.prog 3 [1, 1, 1, 1, 1, 1, 1, 1, 1, 1, 1, 1, 0, 1, 0, 0, 1, 0, 0, 1, 0, 1, 0, 0, 1, 0, 0, 0])) = some [.fl 0, .fl 1, .fl 2, .fl 3, .fl 4, .fl 5, .fl 6, .fl 7, .fl 8, .fl 9, .fl 10, .fl 11, .fl 12, .fl 13, .fl 14, .fl 15, .fl 16, .fl 17, .fl 18, .fl 19, .fl 20, .fl 21, .fl 22, .fl 23, .fl 24, .fl 25, .sync] := by kernel_rfl
abbrev law07_BankBands_post (r : Bool) : SV → Mem → Prop := fun s _ => s = (.bool r)

def law07_BankBands_9 (F : Nat) (hd8 : (List Int) → Int → (List S_api_Tap) → (List Int) → Option (Bool)) : Nat → (List Int) → Int → Int → Int → Int → (List S_api_Tap) → (List Int) → Option (Bool)
  | 0, _, _, _, _, _, _, _ => none
  | N + 1, v9, v18, v19, v20, v21, l34, l104 =>
    bif (decide (v21 < (8 : Int))) then
      bnd (idx v9 v21) fun x110 =>
      bnd (idx l34 (w64 (v18 + v21))) fun x111 =>
      bnd (idx v9 v21) fun x112 =>
      bnd (idx l34 (w64 (v18 + v21))) fun x113 =>
      (law07_BankBands_9 F hd8 N) v9 v18 (w64 (v19 + (min (w64 (x110 * x111.Low)) (w64 (x112 * x113.High))))) (w64 (v20 + (max (w64 (x110 * x111.Low)) (w64 (x112 * x113.High))))) (w64 (v21 + (1 : Int))) l34 l104
    else
      bnd (idx l104 v18) fun x115 =>
      bnd (ref00_In F x115 v19 v20) fun r117 =>
      bif (!r117) then
        some false
      else
        hd8 v9 (w64 (v18 + (1 : Int))) l34 l104

theorem law07_BankBands_9_ok (F : Nat) (hd8 : (List Int) → Int → (List S_api_Tap) → (List Int) → Option (Bool)) (hhd8 : ∀ (v9 : (List Int)) (v18 : Int) (l34 : (List S_api_Tap)) (l104 : (List Int)) (sv9 : SV) (s34 : SV) (s104 : SV) (Fr : Rd) (M : Mem) (r : Bool) (hv9 : Slc Fr 1 (FlatR enc3) sv9 v9) (hH : Has Fr M [.vec 39 2 l34.length s34 (l34.flatMap enc39), .vec 3 1 l104.length s104 (l104.flatMap enc3), tb0, tb1, tb2, tb3]), hd8 v9 v18 l34 l104 = some r → Run Tryz.prog ⟨⟨3, [], none⟩, []⟩ 190 (law07_BankBands_post r) [(7, s34), (9, sv9), (17, s104), (18, (.int .i64 v18))] [codeC Tryz.prog 3 [1, 1, 1, 1, 1, 1, 1, 1, 1, 1, 1, 1, 0, 1, 0, 0], loopC Tryz.prog 3 [1, 1, 1, 1, 1, 1, 1, 1, 1, 1, 1, 1, 0, 1, 0, 0], .inBlock 4, codeC Tryz.prog 3 [1, 1, 1, 1, 1, 1, 1, 1, 1, 1, 1, 1, 1]] M) : ∀ (N : Nat), ∀ (v9 : (List Int)) (v18 : Int) (v19 : Int) (v20 : Int) (v21 : Int) (l34 : (List S_api_Tap)) (l104 : (List Int)) (sv9 : SV) (s34 : SV) (s104 : SV) (Fr : Rd) (M : Mem) (r : Bool) (hv9 : Slc Fr 1 (FlatR enc3) sv9 v9) (hH : Has Fr M [.vec 39 2 l34.length s34 (l34.flatMap enc39), .vec 3 1 l104.length s104 (l104.flatMap enc3), tb0, tb1, tb2, tb3]), law07_BankBands_9 F hd8 N v9 v18 v19 v20 v21 l34 l104 = some r → Run Tryz.prog ⟨⟨3, [], none⟩, []⟩ 190 (law07_BankBands_post r) [(7, s34), (9, sv9), (17, s104), (18, (.int .i64 v18)), (19, (.int .i64 v19)), (20, (.int .i64 v20)), (21, (.int .i64 v21))] [codeC Tryz.prog 3 [1, 1, 1, 1, 1, 1, 1, 1, 1, 1, 1, 1, 0, 1, 0, 0, 1, 0, 0, 1, 0, 1, 0, 0], loopC Tryz.prog 3 [1, 1, 1, 1, 1, 1, 1, 1, 1, 1, 1, 1, 0, 1, 0, 0, 1, 0, 0, 1, 0, 1, 0, 0], .inBlock 6, codeC Tryz.prog 3 [1, 1, 1, 1, 1, 1, 1, 1, 1, 1, 1, 1, 0, 1, 0, 0, 1, 0, 0, 1, 1], .inBlock 5, codeC Tryz.prog 3 [1, 1, 1, 1, 1, 1, 1, 1, 1, 1, 1, 1, 0, 1, 0, 0, 1, 1], loopC Tryz.prog 3 [1, 1, 1, 1, 1, 1, 1, 1, 1, 1, 1, 1, 0, 1, 0, 0], .inBlock 4, codeC Tryz.prog 3 [1, 1, 1, 1, 1, 1, 1, 1, 1, 1, 1, 1, 1]] M := by
  intro N
  induction N with
  | zero =>
    intro v9 v18 v19 v20 v21 l34 l104 sv9 s34 s104 Fr M r hv9 hH h
    simp [law07_BankBands_9] at h
  | succ N ih =>
    intro v9 v18 v19 v20 v21 l34 l104 sv9 s34 s104 Fr M r hv9 hH h
    rw [law07_BankBands_9] at h
    refine Run.seq (Run.seq (Run.region ?_))
    refine Run.opG wantS_none (ex_move rfl) rfl ?_
    refine Run.opG wantS_none (ex_lss rfl rfl) rfl ?_
    refine Run.opsEnd ?_
    rcases btf ((decide (v21 < (8 : Int)))) with hc109 | hc109
    · have h := bif_t hc109 h
      refine Run.condT' rfl hc109 ?_
      refine Run.skip (Run.seq (Run.block (Run.seq ?_)))
      refine Run.drawG plan3_1_1_1_1_1_1_1_1_1_1_1_1_0_1_0_0_1_0_0_1_0_1_0_0_1_0_0_0 ?_
      refine DrawG.fl rfl (ev_ex wantS_none (ex_move rfl)) rfl ?_
      refine DrawG.fl rfl (ev_ex wantS_none (ex_move rfl)) rfl ?_
      obtain ⟨x110, hx110, h⟩ := bnd_some h
      obtain ⟨p110, o110, _, hx110, hp110, rfl⟩ := sl_elem (P := Tryz.prog) (t := 25) (kk := .i64) hv9 hx110 els25
      refine DrawG.fl rfl (ev_ex wantS_none (ex_elX rfl rfl hx110)) rfl ?_
      refine DrawG.fl rfl (ev_ex wantS_none (ex_load1 rfl (hH.ptrF hp110) rdLe_rfl agg3)) rfl ?_
      refine DrawG.fl rfl (ev_ex wantS_none (ex_move rfl)) rfl ?_
      refine DrawG.fl rfl (ev_ex wantS_none (ex_move rfl)) rfl ?_
      refine DrawG.fl rfl (ev_ex wantS_none (ex_move rfl)) rfl ?_
      refine DrawG.fl rfl (ev_ex wantS_none (ex_add rfl rfl)) rfl ?_
      obtain ⟨x111, hx111, h⟩ := bnd_some h
      obtain ⟨p111, o111, hb111, hx111, he111⟩ := vec_elem (P := Tryz.prog) (t := 28) (kk := .i64) hH (i := 0) rfl hx111 els28
      refine DrawG.fl rfl (ev_ex wantS_none (ex_elX rfl rfl hx111)) rfl ?_
      refine DrawG.fl rfl (ev_ex wantS_none (ex_fieldAddr rfl off39_0)) rfl ?_
      refine DrawG.fl rfl (ev_ex wantS_none (ex_load1 rfl ((hH.at (enc := enc39) (a := x111) (i := 0) rfl hb111 he111 enc39_len).fld (o := 0) rfl) rdLe_rfl agg3)) rfl ?_
      refine DrawG.fl rfl (ev_ex wantS_none (ex_mul rfl rfl)) rfl ?_
      refine DrawG.fl rfl (ev_ex wantS_none (ex_move rfl)) rfl ?_
      refine DrawG.fl rfl (ev_ex wantS_none (ex_move rfl)) rfl ?_
      obtain ⟨x112, hx112, h⟩ := bnd_some h
      obtain ⟨p112, o112, _, hx112, hp112, rfl⟩ := sl_elem (P := Tryz.prog) (t := 25) (kk := .i64) hv9 hx112 els25
      refine DrawG.fl rfl (ev_ex wantS_none (ex_elX rfl rfl hx112)) rfl ?_
      refine DrawG.fl rfl (ev_ex wantS_none (ex_load1 rfl (hH.ptrF hp112) rdLe_rfl agg3)) rfl ?_
      refine DrawG.fl rfl (ev_ex wantS_none (ex_move rfl)) rfl ?_
      refine DrawG.fl rfl (ev_ex wantS_none (ex_move rfl)) rfl ?_
      refine DrawG.fl rfl (ev_ex wantS_none (ex_move rfl)) rfl ?_
      refine DrawG.fl rfl (ev_ex wantS_none (ex_add rfl rfl)) rfl ?_
      obtain ⟨x113, hx113, h⟩ := bnd_some h
      obtain ⟨p113, o113, hb113, hx113, he113⟩ := vec_elem (P := Tryz.prog) (t := 28) (kk := .i64) hH (i := 0) rfl hx113 els28
      refine DrawG.fl rfl (ev_ex wantS_none (ex_elX rfl rfl hx113)) rfl ?_
      refine DrawG.fl rfl (ev_ex wantS_none (ex_fieldAddr rfl off39_1)) rfl ?_
      refine DrawG.fl rfl (ev_ex wantS_none (ex_load1 rfl ((hH.at (enc := enc39) (a := x113) (i := 0) rfl hb113 he113 enc39_len).fld (o := 1) rfl) rdLe_rfl agg3)) rfl ?_
      refine DrawG.fl rfl (ev_ex wantS_none (ex_mul rfl rfl)) rfl ?_
      refine DrawG.fl rfl (ev_ex wantS_none (ex_assign rfl)) rfl ?_
      refine DrawG.fl rfl (ev_ex wantS_none (ex_assign rfl)) rfl ?_
      refine DrawG.sync ?_
      refine DrawG.nil ?_
      refine Run.region ?_
      refine Run.opG wantS_none (ex_move rfl) rfl ?_
      refine Run.opG wantS_none (ex_move rfl) rfl ?_
      refine Run.opG wantS_none (ex_move rfl) rfl ?_
      refine Run.opG wantS_none (ex_min rfl rfl) rfl ?_
      refine Run.opG wantS_none (ex_add rfl rfl) rfl ?_
      refine Run.opG wantS_none (ex_move rfl) rfl ?_
      refine Run.opG wantS_none (ex_move rfl) rfl ?_
      refine Run.opG wantS_none (ex_move rfl) rfl ?_
      refine Run.opG wantS_none (ex_max rfl rfl) rfl ?_
      refine Run.opG wantS_none (ex_add rfl rfl) rfl ?_
      refine Run.opG wantS_none (ex_assign rfl) rfl ?_
      refine Run.opG wantS_none (ex_assign rfl) rfl ?_
      refine Run.opsEnd (Run.inBlock (Run.region ?_))
      refine Run.opG wantS_none (ex_move rfl) rfl ?_
      refine Run.opG wantS_none (ex_add rfl rfl) rfl ?_
      refine Run.opG wantS_none (ex_assign rfl) rfl ?_
      refine Run.opsEnd (Run.inLoop ?_)
      exact Run.pick [7, 9, 17, 18, 19, 20, 21] (ih v9 v18 (w64 (v19 + (min (w64 (x110 * x111.Low)) (w64 (x112 * x113.High))))) (w64 (v20 + (max (w64 (x110 * x111.Low)) (w64 (x112 * x113.High))))) (w64 (v21 + (1 : Int))) l34 l104 sv9 s34 s104 _ _ _ hv9 hH h)
    · have h := bif_f hc109 h
      refine Run.condF' rfl hc109 ?_
      refine Run.exit rfl (Run.seq (Run.region ?_))
      refine Run.opG wantS_none (ex_move rfl) rfl ?_
      refine Run.opG wantS_none (ex_move rfl) rfl ?_
      obtain ⟨x115, hx115, h⟩ := bnd_some h
      obtain ⟨p115, o115, hb115, hx115, he115⟩ := vec_elem (P := Tryz.prog) (t := 25) (kk := .i64) hH (i := 1) rfl hx115 els25
      refine Run.opG wantS_none (ex_elX rfl rfl hx115) rfl ?_
      refine Run.opG wantS_none (ex_load1 rfl (hH.at (enc := enc3) (a := x115) (i := 1) rfl hb115 he115 enc3_len) rdLe_rfl agg3) rfl ?_
      refine Run.opG wantS_none (ex_move rfl) rfl ?_
      refine Run.opG wantS_none (ex_move rfl) rfl ?_
      obtain ⟨r117, hr117, h⟩ := bnd_some h
      refine Run.callP wantS_none (ex_call rfl mkk12 cal12) rfl (ref00_In_ok F x115 v19 v20 _ _ hr117) ?_
      refine Run.opG wantS_none (ex_not rfl) rfl ?_
      refine Run.opsEnd ?_
      rcases btf ((!r117)) with hc119 | hc119
      · have h := bif_t hc119 h
        refine Run.condT' rfl hc119 ?_
        refine Run.seq (Run.region ?_)
        refine Run.opG wantS_none (ex_assign rfl) rfl ?_
        refine Run.opsEnd ?_
        cases h
        exact Run.ret Tryz.func3 rfl (res_tmp rfl res_nil) rfl
      · have h := bif_f hc119 h
        refine Run.condF' rfl hc119 ?_
        refine Run.skip (Run.inBlock (Run.region ?_))
        refine Run.opG wantS_none (ex_move rfl) rfl ?_
        refine Run.opG wantS_none (ex_add rfl rfl) rfl ?_
        refine Run.opG wantS_none (ex_assign rfl) rfl ?_
        refine Run.opsEnd (Run.inLoop ?_)
        exact Run.pick [7, 9, 17, 18] (hhd8 v9 (w64 (v18 + (1 : Int))) l34 l104 sv9 s34 s104 _ _ _ hv9 hH h)

def law07_BankBands_8 (F : Nat) : Nat → (List Int) → Int → (List S_api_Tap) → (List Int) → Option (Bool)
  | 0, _, _, _, _ => none
  | N + 1, v9, v18, l34, l104 =>
    bif (decide (v18 < (l104.length : Int))) then
      law07_BankBands_9 F (law07_BankBands_8 F N) F v9 v18 (0 : Int) (0 : Int) (0 : Int) l34 l104
    else
      bnd (works F) fun r121 =>
      some r121

theorem law07_BankBands_8_ok (F : Nat) : ∀ (N : Nat), ∀ (v9 : (List Int)) (v18 : Int) (l34 : (List S_api_Tap)) (l104 : (List Int)) (sv9 : SV) (s34 : SV) (s104 : SV) (Fr : Rd) (M : Mem) (r : Bool) (hv9 : Slc Fr 1 (FlatR enc3) sv9 v9) (hH : Has Fr M [.vec 39 2 l34.length s34 (l34.flatMap enc39), .vec 3 1 l104.length s104 (l104.flatMap enc3), tb0, tb1, tb2, tb3]), law07_BankBands_8 F N v9 v18 l34 l104 = some r → Run Tryz.prog ⟨⟨3, [], none⟩, []⟩ 190 (law07_BankBands_post r) [(7, s34), (9, sv9), (17, s104), (18, (.int .i64 v18))] [codeC Tryz.prog 3 [1, 1, 1, 1, 1, 1, 1, 1, 1, 1, 1, 1, 0, 1, 0, 0], loopC Tryz.prog 3 [1, 1, 1, 1, 1, 1, 1, 1, 1, 1, 1, 1, 0, 1, 0, 0], .inBlock 4, codeC Tryz.prog 3 [1, 1, 1, 1, 1, 1, 1, 1, 1, 1, 1, 1, 1]] M := by
  intro N
  induction N with
  | zero =>
    intro v9 v18 l34 l104 sv9 s34 s104 Fr M r hv9 hH h
    simp [law07_BankBands_8] at h
  | succ N ih =>
    intro v9 v18 l34 l104 sv9 s34 s104 Fr M r hv9 hH h
    rw [law07_BankBands_8] at h
    refine Run.seq (Run.seq (Run.region ?_))
    refine Run.opG wantS_none (ex_move rfl) rfl ?_
    refine Run.opG wantS_none (ex_move rfl) rfl ?_
    refine Run.opG wantS_none (ex_len' rfl (hH.slc (i := 1) rfl enc3_len) lenk25) rfl ?_
    refine Run.opG wantS_none (ex_lss rfl rfl) rfl ?_
    refine Run.opsEnd ?_
    rcases btf ((decide (v18 < (l104.length : Int)))) with hc108 | hc108
    · have h := bif_t hc108 h
      refine Run.condT' rfl hc108 ?_
      refine Run.skip (Run.seq (Run.block (Run.seq (Run.region ?_))))
      refine Run.opG wantS_none (ex_assign rfl) rfl ?_
      refine Run.opG wantS_none (ex_assign rfl) rfl ?_
      refine Run.opsEnd (Run.seq (Run.seq (Run.region ?_)))
      refine Run.opG wantS_none (ex_assign rfl) rfl ?_
      refine Run.opsEnd (Run.block (Run.loop ?_))
      exact Run.pick [7, 9, 17, 18, 19, 20, 21] (law07_BankBands_9_ok F (law07_BankBands_8 F N) ih F v9 v18 (0 : Int) (0 : Int) (0 : Int) l34 l104 sv9 s34 s104 _ _ _ hv9 hH h)
    · have h := bif_f hc108 h
      refine Run.condF' rfl hc108 ?_
      refine Run.exit rfl (Run.seq (Run.region ?_))
      obtain ⟨r121, hr121, h⟩ := bnd_some h
      refine Run.callP wantS_none (ex_call rfl mkk8 cal8) rfl (works_ok F r121 _ hH (List.mem_of_getElem? (i := 2) rfl) (List.mem_of_getElem? (i := 3) rfl) (List.mem_of_getElem? (i := 4) rfl) (List.mem_of_getElem? (i := 5) rfl) hr121) ?_
      refine Run.opG wantS_none (ex_assign rfl) rfl ?_
      refine Run.opsEnd ?_
      cases h
      exact Run.ret Tryz.func3 rfl (res_tmp rfl res_nil) rfl

def law07_BankBands_7 (F : Nat) (v9 : (List Int)) (v136 : Bool) (l34 : (List S_api_Tap)) (l104 : (List Int)) : Option (Bool) :=
  bif v136 then
    some false
  else
    law07_BankBands_8 F F v9 (0 : Int) l34 l104

theorem law07_BankBands_7_ok (F : Nat) : ∀ (v9 : (List Int)) (v136 : Bool) (l34 : (List S_api_Tap)) (l104 : (List Int)) (sv9 : SV) (s34 : SV) (s104 : SV) (Fr : Rd) (M : Mem) (r : Bool) (hv9 : Slc Fr 1 (FlatR enc3) sv9 v9) (hH : Has Fr M [.vec 39 2 l34.length s34 (l34.flatMap enc39), .vec 3 1 l104.length s104 (l104.flatMap enc3), tb0, tb1, tb2, tb3]), law07_BankBands_7 F v9 v136 l34 l104 = some r → Run Tryz.prog ⟨⟨3, [], none⟩, []⟩ 190 (law07_BankBands_post r) [(7, s34), (9, sv9), (17, s104), (136, (.bool v136))] [codeC Tryz.prog 3 [1, 1, 1, 1, 1, 1, 1, 1, 1, 1, 1, 0, 1], codeC Tryz.prog 3 [1, 1, 1, 1, 1, 1, 1, 1, 1, 1, 1, 1]] M := by
  intro v9 v136 l34 l104 sv9 s34 s104 Fr M r hv9 hH h
  rw [law07_BankBands_7] at h
  rcases btf (v136) with hc107 | hc107
  · have h := bif_t hc107 h
    refine Run.condT' rfl hc107 ?_
    refine Run.seq (Run.region ?_)
    refine Run.opG wantS_none (ex_assign rfl) rfl ?_
    refine Run.opsEnd ?_
    cases h
    exact Run.ret Tryz.func3 rfl (res_tmp rfl res_nil) rfl
  · have h := bif_f hc107 h
    refine Run.condF' rfl hc107 ?_
    refine Run.skip (Run.seq (Run.seq (Run.region ?_)))
    refine Run.opG wantS_none (ex_assign rfl) rfl ?_
    refine Run.opsEnd (Run.block (Run.loop ?_))
    exact Run.pick [7, 9, 17, 18] (law07_BankBands_8_ok F F v9 (0 : Int) l34 l104 sv9 s34 s104 _ _ _ hv9 hH h)

def law07_BankBands_6 (F : Nat) : Nat → (List Int) → Int → S_api_Chirp → (List S_api_Tap) → (List S_api_Tap) → (List Int) → Option (Bool)
  | 0, _, _, _, _, _, _ => none
  | N + 1, v9, v16, c29, l34, l75, l79 =>
    bif (decide (v16 < (l75.length : Int))) then
      bnd (idx l75 v16) fun x83 =>
      bnd (ref00_Abs F x83.Low) fun r85 =>
      bif (decide ((32768 : Int) < r85)) then
        bnd (works F) fun r89 =>
        some r89
      else
        bnd (idx l75 v16) fun x92 =>
        bnd (apd 8 l79 ([x92.Low] : List Int)) fun l98 =>
        (law07_BankBands_6 F N) v9 (w64 (v16 + (1 : Int))) c29 l34 l75 l98
    else
      bnd (bank_Filter F (8 : Int) c29 l79) fun r103 =>
      bif (!(r103.2 == (0 : Int))) then
        law07_BankBands_7 F v9 true l34 r103.1
      else
        law07_BankBands_7 F v9 (!((r103.1.length : Int) == (w64 ((l34.length : Int) - (7 : Int))))) l34 r103.1

theorem law07_BankBands_6_ok (F : Nat) : ∀ (N : Nat), ∀ (v9 : (List Int)) (v16 : Int) (c29 : S_api_Chirp) (l34 : (List S_api_Tap)) (l75 : (List S_api_Tap)) (l79 : (List Int)) (sv9 : SV) (b29 : Pos) (s34 : SV) (s75 : SV) (s79 : SV) (Fr : Rd) (M : Mem) (r : Bool) (hv9 : Slc Fr 1 (FlatR enc3) sv9 v9) (hH : Has Fr M [.obj b29 (.row 27 .whole [(.int .i64 c29.P), (.int .i64 c29.Q)]), .vec 39 2 l34.length s34 (l34.flatMap enc39), .vec 39 2 l75.length s75 (l75.flatMap enc39), .vec 3 1 l79.length s79 (l79.flatMap enc3), tb0, tb1, tb2, tb3]), law07_BankBands_6 F N v9 v16 c29 l34 l75 l79 = some r → Run Tryz.prog ⟨⟨3, [], none⟩, []⟩ 190 (law07_BankBands_post r) [(5, (.ptr b29 0)), (7, s34), (9, sv9), (14, s75), (15, s79), (16, (.int .i64 v16))] [codeC Tryz.prog 3 [1, 1, 1, 1, 1, 1, 1, 1, 1, 0, 1, 0, 0], loopC Tryz.prog 3 [1, 1, 1, 1, 1, 1, 1, 1, 1, 0, 1, 0, 0], .inBlock 2, codeC Tryz.prog 3 [1, 1, 1, 1, 1, 1, 1, 1, 1, 1]] M := by
  intro N
  induction N with
  | zero =>
    intro v9 v16 c29 l34 l75 l79 sv9 b29 s34 s75 s79 Fr M r hv9 hH h
    simp [law07_BankBands_6] at h
  | succ N ih =>
    intro v9 v16 c29 l34 l75 l79 sv9 b29 s34 s75 s79 Fr M r hv9 hH h
    rw [law07_BankBands_6] at h
    refine Run.seq (Run.seq (Run.region ?_))
    refine Run.opG wantS_none (ex_move rfl) rfl ?_
    refine Run.opG wantS_none (ex_move rfl) rfl ?_
    refine Run.opG wantS_none (ex_len' rfl (hH.slc (i := 2) rfl enc39_len) lenk28) rfl ?_
    refine Run.opG wantS_none (ex_lss rfl rfl) rfl ?_
    refine Run.opsEnd ?_
    rcases btf ((decide (v16 < (l75.length : Int)))) with hc81 | hc81
    · have h := bif_t hc81 h
      refine Run.condT' rfl hc81 ?_
      refine Run.skip (Run.seq (Run.block (Run.seq (Run.seq (Run.region ?_)))))
      refine Run.opG wantS_none (ex_move rfl) rfl ?_
      refine Run.opG wantS_none (ex_move rfl) rfl ?_
      obtain ⟨x83, hx83, h⟩ := bnd_some h
      obtain ⟨p83, o83, hb83, hx83, he83⟩ := vec_elem (P := Tryz.prog) (t := 28) (kk := .i64) hH (i := 2) rfl hx83 els28
      refine Run.opG wantS_none (ex_elX rfl rfl hx83) rfl ?_
      refine Run.opG wantS_none (ex_fieldAddr rfl off39_0) rfl ?_
      refine Run.opG wantS_none (ex_load1 rfl ((hH.at (enc := enc39) (a := x83) (i := 2) rfl hb83 he83 enc39_len).fld (o := 0) rfl) rdLe_rfl agg3) rfl ?_
      obtain ⟨r85, hr85, h⟩ := bnd_some h
      refine Run.callP wantS_none (ex_call rfl mkk10 cal10) rfl (ref00_Abs_ok F x83.Low _ _ hr85) ?_
      refine Run.opG wantS_none (ex_gtr rfl rfl) rfl ?_
      refine Run.opsEnd ?_
      rcases btf ((decide ((32768 : Int) < r85))) with hc87 | hc87
      · have h := bif_t hc87 h
        refine Run.condT' rfl hc87 ?_
        refine Run.seq (Run.region ?_)
        obtain ⟨r89, hr89, h⟩ := bnd_some h
        refine Run.callP wantS_none (ex_call rfl mkk8 cal8) rfl (works_ok F r89 _ hH (List.mem_of_getElem? (i := 4) rfl) (List.mem_of_getElem? (i := 5) rfl) (List.mem_of_getElem? (i := 6) rfl) (List.mem_of_getElem? (i := 7) rfl) hr89) ?_
        refine Run.opG wantS_none (ex_assign rfl) rfl ?_
        refine Run.opsEnd ?_
        cases h
        exact Run.ret Tryz.func3 rfl (res_tmp rfl res_nil) rfl
      · have h := bif_f hc87 h
        refine Run.condF' rfl hc87 ?_
        refine Run.skip (Run.region ?_)
        refine Run.opG wantS_none (ex_move rfl) rfl ?_
        refine Run.opG wantS_none (ex_move rfl) rfl ?_
        refine Run.opG wantS_none (ex_move rfl) rfl ?_
        obtain ⟨x92, hx92, h⟩ := bnd_some h
        obtain ⟨p92, o92, hb92, hx92, he92⟩ := vec_elem (P := Tryz.prog) (t := 28) (kk := .i64) hH (i := 2) rfl hx92 els28
        refine Run.opG wantS_none (ex_elX rfl rfl hx92) rfl ?_
        refine Run.opG wantS_none (ex_fieldAddr rfl off39_0) rfl ?_
        refine Run.opG wantS_none (ex_load1 rfl ((hH.at (enc := enc39) (a := x92) (i := 2) rfl hb92 he92 enc39_len).fld (o := 0) rfl) rdLe_rfl agg3) rfl ?_
        refine Run.opX wantS_none rfl (ExG.built (enc := enc3) (l := ([x92.Low] : List Int)) (z := 1) rfl elt25 rfl rfl rfl enc3_len hH) ?_
        rintro s94 M95 (hH95 : Has Fr M95 [.vec 3 1 ([x92.Low] : List Int).length s94 (([x92.Low] : List Int).flatMap enc3), .obj b29 (.row 27 .whole [(.int .i64 c29.P), (.int .i64 c29.Q)]), .vec 39 2 l34.length s34 (l34.flatMap enc39), .vec 39 2 l75.length s75 (l75.flatMap enc39), .vec 3 1 l79.length s79 (l79.flatMap enc3), tb0, tb1, tb2, tb3])
        obtain ⟨l98, hl98, h⟩ := bnd_some h
        refine Run.opX wantS_none rfl (ExG.append rfl rfl hH95 (i := 4) rfl enc3_len rfl enc3_ones appt25_25 rfl (len_slc (hH95.slc (i := 0) rfl enc3_len)) (first_slc (hH95.slc (i := 0) rfl enc3_len) (rdLe_rdRow _) enc3_len) hl98) ?_
        rintro s98 M100 (hH100 : Has Fr M100 [.vec 3 1 ([x92.Low] : List Int).length s94 (([x92.Low] : List Int).flatMap enc3), .obj b29 (.row 27 .whole [(.int .i64 c29.P), (.int .i64 c29.Q)]), .vec 39 2 l34.length s34 (l34.flatMap enc39), .vec 39 2 l75.length s75 (l75.flatMap enc39), .vec 3 1 l98.length s98 (l98.flatMap enc3), tb0, tb1, tb2, tb3])
        refine Run.opG wantS_none (ex_assign rfl) rfl ?_
        refine Run.opsEnd (Run.inBlock (Run.region ?_))
        refine Run.opG wantS_none (ex_move rfl) rfl ?_
        refine Run.opG wantS_none (ex_add rfl rfl) rfl ?_
        refine Run.opG wantS_none (ex_assign rfl) rfl ?_
        refine Run.opsEnd (Run.inLoop ?_)
        exact Run.pick [5, 7, 9, 14, 15, 16] (ih v9 (w64 (v16 + (1 : Int))) c29 l34 l75 l98 sv9 b29 s34 s75 s98 _ _ _ hv9 (hH100.pick [1, 2, 3, 4, 5, 6, 7, 8] rfl rfl) h)
    · have h := bif_f hc81 h
      refine Run.condF' rfl hc81 ?_
      refine Run.exit rfl (Run.seq (Run.region ?_))
      refine Run.opG wantS_none (ex_loadA rfl (hH.cells (i := 0) rfl 0 rfl) rdLe_rfl agg27 rfl rfl rfl) rfl ?_
      refine Run.opG wantS_none (ex_move rfl) rfl ?_
      obtain ⟨r103, hr103, h⟩ := bnd_some h
      refine Run.callX wantS_none (ex_call rfl mkk11 cal11) rfl (bank_Filter_ok F (8 : Int) c29 l79 s79 _ _ (hH.slc (i := 3) rfl enc3_len) (fixH hH (List.mem_of_getElem? (i := 4) rfl) (List.mem_of_getElem? (i := 5) rfl) (List.mem_of_getElem? (i := 6) rfl) (List.mem_of_getElem? (i := 7) rfl)) hr103) ?_
      rintro _ M105 ⟨s103_0, rfl, hN103⟩
      have hH105 : Has Fr M105 [.vec 3 1 r103.1.length s103_0 (r103.1.flatMap enc3), .obj b29 (.row 27 .whole [(.int .i64 c29.P), (.int .i64 c29.Q)]), .vec 39 2 l34.length s34 (l34.flatMap enc39), .vec 39 2 l75.length s75 (l75.flatMap enc39), .vec 3 1 l79.length s79 (l79.flatMap enc3), tb0, tb1, tb2, tb3] := hN103.1 _ _ hH
      refine Run.opG wantS_none (ex_move rfl) rfl ?_
      refine Run.opG wantS_none (ex_extract rfl rfl) rfl ?_
      refine Run.opG wantS_none (ex_extract rfl rfl) rfl ?_
      refine Run.opG wantS_none (ex_assign rfl) rfl ?_
      refine Run.opG wantS_none (ex_assign rfl) rfl ?_
      refine Run.opsEnd (Run.seq (Run.seq (Run.region ?_)))
      refine Run.opG wantS_none (ex_move rfl) rfl ?_
      refine Run.opG wantS_none (ex_neq rfl rfl) rfl ?_
      refine Run.opG wantS_none (ex_move rfl) rfl ?_
      rcases btf ((!(r103.2 == (0 : Int)))) with hc106 | hc106
      · have h := bif_t hc106 h
        refine Run.no (wantS_not' rfl rfl hc106) rfl ?_
        refine Run.no (wantS_not' rfl rfl hc106) rfl ?_
        refine Run.no (wantS_not' rfl rfl hc106) rfl ?_
        refine Run.no (wantS_not' rfl rfl hc106) rfl ?_
        refine Run.no (wantS_not' rfl rfl hc106) rfl ?_
        refine Run.no (wantS_not' rfl rfl hc106) rfl ?_
        refine Run.opG wantS_none (ex_pickT' rfl hc106 rfl rfl) rfl ?_
        refine Run.opsEnd ?_
        exact Run.pick [7, 9, 17, 136] (law07_BankBands_7_ok F v9 true l34 r103.1 sv9 s34 s103_0 _ _ _ hv9 (hH105.pick [2, 0, 5, 6, 7, 8] rfl rfl) h)
      · have h := bif_f hc106 h
        refine Run.opG (wantS_yes' rfl rfl hc106) (ex_move rfl) rfl ?_
        refine Run.opG (wantS_yes' rfl rfl hc106) (ex_len' rfl (hH105.slc (i := 0) rfl enc3_len) lenk25) rfl ?_
        refine Run.opG (wantS_yes' rfl rfl hc106) (ex_move rfl) rfl ?_
        refine Run.opG (wantS_yes' rfl rfl hc106) (ex_len' rfl (hH105.slc (i := 2) rfl enc39_len) lenk28) rfl ?_
        refine Run.opG (wantS_yes' rfl rfl hc106) (ex_sub rfl rfl) rfl ?_
        refine Run.opG (wantS_yes' rfl rfl hc106) (ex_neq rfl rfl) rfl ?_
        refine Run.opG wantS_none (ex_pickF' rfl hc106 rfl rfl) rfl ?_
        refine Run.opsEnd ?_
        exact Run.pick [7, 9, 17, 136] (law07_BankBands_7_ok F v9 (!((r103.1.length : Int) == (w64 ((l34.length : Int) - (7 : Int))))) l34 r103.1 sv9 s34 s103_0 _ _ _ hv9 (hH105.pick [2, 0, 5, 6, 7, 8] rfl rfl) h)

def law07_BankBands_5 (F : Nat) (v9 : (List Int)) (v98 : Bool) (c29 : S_api_Chirp) (l34 : (List S_api_Tap)) (l75 : (List S_api_Tap)) : Option (Bool) :=
  bif v98 then
    some false
  else
    law07_BankBands_6 F F v9 (0 : Int) c29 l34 l75 ([] : List Int)

theorem law07_BankBands_5_ok (F : Nat) : ∀ (v9 : (List Int)) (v98 : Bool) (c29 : S_api_Chirp) (l34 : (List S_api_Tap)) (l75 : (List S_api_Tap)) (sv9 : SV) (b29 : Pos) (s34 : SV) (s75 : SV) (Fr : Rd) (M : Mem) (r : Bool) (hv9 : Slc Fr 1 (FlatR enc3) sv9 v9) (hH : Has Fr M [.obj b29 (.row 27 .whole [(.int .i64 c29.P), (.int .i64 c29.Q)]), .vec 39 2 l34.length s34 (l34.flatMap enc39), .vec 39 2 l75.length s75 (l75.flatMap enc39), tb0, tb1, tb2, tb3]), law07_BankBands_5 F v9 v98 c29 l34 l75 = some r → Run Tryz.prog ⟨⟨3, [], none⟩, []⟩ 190 (law07_BankBands_post r) [(5, (.ptr b29 0)), (7, s34), (9, sv9), (14, s75), (98, (.bool v98))] [codeC Tryz.prog 3 [1, 1, 1, 1, 1, 1, 1, 0, 1], codeC Tryz.prog 3 [1, 1, 1, 1, 1, 1, 1, 1]] M := by
  intro v9 v98 c29 l34 l75 sv9 b29 s34 s75 Fr M r hv9 hH h
  rw [law07_BankBands_5] at h
  rcases btf (v98) with hc78 | hc78
  · have h := bif_t hc78 h
    refine Run.condT' rfl hc78 ?_
    refine Run.seq (Run.region ?_)
    refine Run.opG wantS_none (ex_assign rfl) rfl ?_
    refine Run.opsEnd ?_
    cases h
    exact Run.ret Tryz.func3 rfl (res_tmp rfl res_nil) rfl
  · have h := bif_f hc78 h
    refine Run.condF' rfl hc78 ?_
    refine Run.skip (Run.seq (Run.region ?_))
    refine Run.opG wantS_none (ex_assign rfl) rfl ?_
    refine Run.opsEnd (Run.seq (Run.seq (Run.region ?_)))
    refine Run.opG wantS_none (ex_assign rfl) rfl ?_
    refine Run.opsEnd (Run.block (Run.loop ?_))
    have hH80 : Has Fr M [.vec 3 1 ([] : List Int).length .nils (([] : List Int).flatMap enc3), .obj b29 (.row 27 .whole [(.int .i64 c29.P), (.int .i64 c29.Q)]), .vec 39 2 l34.length s34 (l34.flatMap enc39), .vec 39 2 l75.length s75 (l75.flatMap enc39), tb0, tb1, tb2, tb3] := hH.nils 3 1
    exact Run.pick [5, 7, 9, 14, 15, 16] (law07_BankBands_6_ok F F v9 (0 : Int) c29 l34 l75 ([] : List Int) sv9 b29 s34 s75 .nils _ _ _ hv9 (hH80.pick [1, 2, 3, 0, 4, 5, 6, 7] rfl rfl) h)

def law07_BankBands_4 (F : Nat) : Nat → (List Int) → (List Int) → Int → (List S_api_Tap) → Int → S_api_Chirp → Int → (List S_api_Tap) → (List S_api_Tap) → Option (Bool)
  | 0, _, _, _, _, _, _, _, _, _ => none
  | N + 1, v1, v9, v12, c26_0, c26_1, c29, c51_1, l34, l54 =>
    bif (decide (v12 < (c26_0.length : Int))) then
      bnd (idx c26_0 v12) fun x57 =>
      bnd (idx c26_0 v12) fun x59 =>
      bnd (ref00_Down F (w64 (x57.Low + x59.High)) (2 : Int)) fun r61 =>
      bnd (apd 16 l54 ([(S_api_Tap.mk r61 r61)] : List S_api_Tap)) fun l68 =>
      (law07_BankBands_4 F N) v1 v9 (w64 (v12 + (1 : Int))) c26_0 c26_1 c29 c51_1 l34 l68
    else
      bnd (record_Strain F (S_api_Model.mk l54 c51_1) v1) fun r74 =>
      bif (!(r74.2 == (0 : Int))) then
        law07_BankBands_5 F v9 true c29 l34 r74.1
      else
        law07_BankBands_5 F v9 (!((r74.1.length : Int) == (l34.length : Int))) c29 l34 r74.1

theorem law07_BankBands_4_ok (F : Nat) : ∀ (N : Nat), ∀ (v1 : (List Int)) (v9 : (List Int)) (v12 : Int) (c26_0 : (List S_api_Tap)) (c26_1 : Int) (c29 : S_api_Chirp) (c51_1 : Int) (l34 : (List S_api_Tap)) (l54 : (List S_api_Tap)) (sv1 : SV) (sv9 : SV) (sc26_0 : SV) (b26 : Pos) (b29 : Pos) (s34 : SV) (b51 : Pos) (s54 : SV) (Fr : Rd) (M : Mem) (r : Bool) (hv1 : Slc Fr 1 (FlatR enc3) sv1 v1) (hv9 : Slc Fr 1 (FlatR enc3) sv9 v9) (hc26_0 : Slc Fr 2 (FlatR enc37) sc26_0 c26_0) (hH : Has Fr M [.obj b26 (.row 24 .whole [sc26_0, (.int .i64 c26_1)]), .obj b29 (.row 27 .whole [(.int .i64 c29.P), (.int .i64 c29.Q)]), .vec 39 2 l34.length s34 (l34.flatMap enc39), .obj b51 (.row 24 .whole [s54, (.int .i64 c51_1)]), .vec 37 2 l54.length s54 (l54.flatMap enc37), tb0, tb1, tb2, tb3]), law07_BankBands_4 F N v1 v9 v12 c26_0 c26_1 c29 c51_1 l34 l54 = some r → Run Tryz.prog ⟨⟨3, [], none⟩, []⟩ 190 (law07_BankBands_post r) [(1, sv1), (3, (.ptr b26 0)), (5, (.ptr b29 0)), (7, s34), (9, sv9), (11, (.ptr b51 0)), (12, (.int .i64 v12))] [codeC Tryz.prog 3 [1, 1, 1, 1, 1, 0, 1, 0, 0], loopC Tryz.prog 3 [1, 1, 1, 1, 1, 0, 1, 0, 0], .inBlock 0, codeC Tryz.prog 3 [1, 1, 1, 1, 1, 1]] M := by
  intro N
  induction N with
  | zero =>
    intro v1 v9 v12 c26_0 c26_1 c29 c51_1 l34 l54 sv1 sv9 sc26_0 b26 b29 s34 b51 s54 Fr M r hv1 hv9 hc26_0 hH h
    simp [law07_BankBands_4] at h
  | succ N ih =>
    intro v1 v9 v12 c26_0 c26_1 c29 c51_1 l34 l54 sv1 sv9 sc26_0 b26 b29 s34 b51 s54 Fr M r hv1 hv9 hc26_0 hH h
    rw [law07_BankBands_4] at h
    refine Run.seq (Run.seq (Run.region ?_))
    refine Run.opG wantS_none (ex_move rfl) rfl ?_
    refine Run.opG wantS_none (ex_fieldAddr rfl off24_0) rfl ?_
    refine Run.opG wantS_none (ex_load1 rfl (hH.cells (i := 0) rfl 0 rfl) rdLe_rfl agg22) rfl ?_
    refine Run.opG wantS_none (ex_len' rfl hc26_0 lenk22) rfl ?_
    refine Run.opG wantS_none (ex_lss rfl rfl) rfl ?_
    refine Run.opsEnd ?_
    rcases btf ((decide (v12 < (c26_0.length : Int)))) with hc56 | hc56
    · have h := bif_t hc56 h
      refine Run.condT' rfl hc56 ?_
      refine Run.skip (Run.seq (Run.block (Run.seq ?_)))
      refine Run.drawG plan3_1_1_1_1_1_0_1_0_0_1_0_0_0 ?_
      refine DrawG.fl rfl (ev_ex wantS_none (ex_fieldAddr rfl off24_0)) rfl ?_
      refine DrawG.fl rfl (ev_ex wantS_none (ex_load1 rfl (hH.cells (i := 0) rfl 0 rfl) rdLe_rfl agg22)) rfl ?_
      refine DrawG.fl rfl (ev_ex wantS_none (ex_move rfl)) rfl ?_
      obtain ⟨x57, hx57, h⟩ := bnd_some h
      obtain ⟨p57, o57, _, hx57, hp57, rfl⟩ := sl_elem (P := Tryz.prog) (t := 22) (kk := .i64) hc26_0 hx57 els22
      refine DrawG.fl rfl (ev_ex wantS_none (ex_elX rfl rfl hx57)) rfl ?_
      have hp58 := (hp57.fld (o := 0) rfl)
      refine DrawG.fl rfl (ev_ex wantS_none (ex_fieldAddr rfl off37_0)) rfl ?_
      refine DrawG.fl rfl (ev_ex wantS_none (ex_load1 rfl (hH.ptrF hp58) rdLe_rfl agg3)) rfl ?_
      refine DrawG.fl rfl (ev_ex wantS_none (ex_fieldAddr rfl off24_0)) rfl ?_
      refine DrawG.fl rfl (ev_ex wantS_none (ex_load1 rfl (hH.cells (i := 0) rfl 0 rfl) rdLe_rfl agg22)) rfl ?_
      refine DrawG.fl rfl (ev_ex wantS_none (ex_move rfl)) rfl ?_
      obtain ⟨x59, hx59, h⟩ := bnd_some h
      obtain ⟨p59, o59, _, hx59, hp59, rfl⟩ := sl_elem (P := Tryz.prog) (t := 22) (kk := .i64) hc26_0 hx59 els22
      refine DrawG.fl rfl (ev_ex wantS_none (ex_elX rfl rfl hx59)) rfl ?_
      have hp60 := (hp59.fld (o := 1) rfl)
      refine DrawG.fl rfl (ev_ex wantS_none (ex_fieldAddr rfl off37_1)) rfl ?_
      refine DrawG.fl rfl (ev_ex wantS_none (ex_load1 rfl (hH.ptrF hp60) rdLe_rfl agg3)) rfl ?_
      refine DrawG.fl rfl (ev_ex wantS_none (ex_add rfl rfl)) rfl ?_
      obtain ⟨r61, hr61, h⟩ := bnd_some h
      refine DrawG.callP rfl wantS_none (ex_call rfl mkk9 cal9) rfl (ref00_Down_ok F (w64 (x57.Low + x59.High)) (2 : Int) _ _ hr61) st_nil ?_
      refine DrawG.fl rfl (ev_ex wantS_none (ex_assign rfl)) rfl ?_
      refine DrawG.sync ?_
      refine DrawG.nil ?_
      refine Run.region ?_
      refine Run.opG wantS_none (ex_fieldAddr rfl off24_0) rfl ?_
      refine Run.opG wantS_none (ex_load1 rfl (hH.cells (i := 3) rfl 0 rfl) rdLe_rfl agg22) rfl ?_
      refine Run.opG wantS_none (ex_move rfl) rfl ?_
      refine Run.opG wantS_none (ex_move rfl) rfl ?_
      refine Run.opG wantS_none (ex_build (r := [(.int .i64 r61), (.int .i64 r61)]) rfl zer37 pls37 rfl) rfl ?_
      refine Run.opX wantS_none rfl (ExG.built (enc := enc37) (l := ([(S_api_Tap.mk r61 r61)] : List S_api_Tap)) (z := 2) rfl elt22 rfl rfl rfl enc37_len hH) ?_
      rintro s64 M65 (hH65 : Has Fr M65 [.vec 37 2 ([(S_api_Tap.mk r61 r61)] : List S_api_Tap).length s64 (([(S_api_Tap.mk r61 r61)] : List S_api_Tap).flatMap enc37), .obj b26 (.row 24 .whole [sc26_0, (.int .i64 c26_1)]), .obj b29 (.row 27 .whole [(.int .i64 c29.P), (.int .i64 c29.Q)]), .vec 39 2 l34.length s34 (l34.flatMap enc39), .obj b51 (.row 24 .whole [s54, (.int .i64 c51_1)]), .vec 37 2 l54.length s54 (l54.flatMap enc37), tb0, tb1, tb2, tb3])
      obtain ⟨l68, hl68, h⟩ := bnd_some h
      refine Run.opX wantS_none rfl (ExG.append rfl rfl hH65 (i := 5) rfl enc37_len rfl enc37_ones appt22_22 rfl (len_slc (hH65.slc (i := 0) rfl enc37_len)) (first_slc (hH65.slc (i := 0) rfl enc37_len) (rdLe_rdRow _) enc37_len) hl68) ?_
      rintro s68 M70 (hH70 : Has Fr M70 [.vec 37 2 ([(S_api_Tap.mk r61 r61)] : List S_api_Tap).length s64 (([(S_api_Tap.mk r61 r61)] : List S_api_Tap).flatMap enc37), .obj b26 (.row 24 .whole [sc26_0, (.int .i64 c26_1)]), .obj b29 (.row 27 .whole [(.int .i64 c29.P), (.int .i64 c29.Q)]), .vec 39 2 l34.length s34 (l34.flatMap enc39), .obj b51 (.row 24 .whole [s54, (.int .i64 c51_1)]), .vec 37 2 l68.length s68 (l68.flatMap enc37), tb0, tb1, tb2, tb3])
      refine Run.opG wantS_none (ex_fieldAddr rfl off24_0) rfl ?_
      refine Run.opX wantS_none rfl (ExG.storeC (c' := [s68, (.int .i64 c51_1)]) rfl rfl (cells_one (vec_one hH70 (i := 5) rfl)) hH70 (i := 4) rfl sz22 rfl rfl rfl (ones_cons (vec_one hH70 (i := 5) rfl) ones_nil) rfl) ?_
      rintro _ M71 ⟨rfl, (hH71 : Has Fr M71 [.vec 37 2 ([(S_api_Tap.mk r61 r61)] : List S_api_Tap).length s64 (([(S_api_Tap.mk r61 r61)] : List S_api_Tap).flatMap enc37), .obj b26 (.row 24 .whole [sc26_0, (.int .i64 c26_1)]), .obj b29 (.row 27 .whole [(.int .i64 c29.P), (.int .i64 c29.Q)]), .vec 39 2 l34.length s34 (l34.flatMap enc39), .obj b51 (.row 24 .whole [s68, (.int .i64 c51_1)]), .vec 37 2 l68.length s68 (l68.flatMap enc37), tb0, tb1, tb2, tb3])⟩
      refine Run.opsEnd (Run.inBlock (Run.region ?_))
      refine Run.opG wantS_none (ex_move rfl) rfl ?_
      refine Run.opG wantS_none (ex_add rfl rfl) rfl ?_
      refine Run.opG wantS_none (ex_assign rfl) rfl ?_
      refine Run.opsEnd (Run.inLoop ?_)
      exact Run.pick [1, 3, 5, 7, 9, 11, 12] (ih v1 v9 (w64 (v12 + (1 : Int))) c26_0 c26_1 c29 c51_1 l34 l68 sv1 sv9 sc26_0 b26 b29 s34 b51 s68 _ _ _ hv1 hv9 hc26_0 (hH71.pick [1, 2, 3, 4, 5, 6, 7, 8, 9] rfl rfl) h)
    · have h := bif_f hc56 h
      refine Run.condF' rfl hc56 ?_
      refine Run.exit rfl (Run.seq (Run.region ?_))
      refine Run.opG wantS_none (ex_loadA rfl (hH.cells (i := 3) rfl 0 rfl) rdLe_rfl agg24 rfl rfl rfl) rfl ?_
      refine Run.opG wantS_none (ex_move rfl) rfl ?_
      obtain ⟨r74, hr74, h⟩ := bnd_some h
      refine Run.callX wantS_none (ex_call rfl mkk6 cal6) rfl (record_Strain_ok F (S_api_Model.mk l54 c51_1) v1 s54 sv1 _ _ (hH.slc (i := 4) rfl enc37_len) (hH.slcF hv1) hr74) ?_
      rintro _ M76 ⟨s74_0, rfl, hN74⟩
      have hH76 : Has Fr M76 [.vec 39 2 r74.1.length s74_0 (r74.1.flatMap enc39), .obj b26 (.row 24 .whole [sc26_0, (.int .i64 c26_1)]), .obj b29 (.row 27 .whole [(.int .i64 c29.P), (.int .i64 c29.Q)]), .vec 39 2 l34.length s34 (l34.flatMap enc39), .obj b51 (.row 24 .whole [s54, (.int .i64 c51_1)]), .vec 37 2 l54.length s54 (l54.flatMap enc37), tb0, tb1, tb2, tb3] := hN74.1 _ _ hH
      refine Run.opG wantS_none (ex_move rfl) rfl ?_
      refine Run.opG wantS_none (ex_extract rfl rfl) rfl ?_
      refine Run.opG wantS_none (ex_extract rfl rfl) rfl ?_
      refine Run.opG wantS_none (ex_assign rfl) rfl ?_
      refine Run.opG wantS_none (ex_assign rfl) rfl ?_
      refine Run.opsEnd (Run.seq (Run.seq (Run.region ?_)))
      refine Run.opG wantS_none (ex_move rfl) rfl ?_
      refine Run.opG wantS_none (ex_neq rfl rfl) rfl ?_
      refine Run.opG wantS_none (ex_move rfl) rfl ?_
      rcases btf ((!(r74.2 == (0 : Int)))) with hc77 | hc77
      · have h := bif_t hc77 h
        refine Run.no (wantS_not' rfl rfl hc77) rfl ?_
        refine Run.no (wantS_not' rfl rfl hc77) rfl ?_
        refine Run.no (wantS_not' rfl rfl hc77) rfl ?_
        refine Run.no (wantS_not' rfl rfl hc77) rfl ?_
        refine Run.no (wantS_not' rfl rfl hc77) rfl ?_
        refine Run.opG wantS_none (ex_pickT' rfl hc77 rfl rfl) rfl ?_
        refine Run.opsEnd ?_
        exact Run.pick [5, 7, 9, 14, 98] (law07_BankBands_5_ok F v9 true c29 l34 r74.1 sv9 b29 s34 s74_0 _ _ _ hv9 (hH76.pick [2, 3, 0, 6, 7, 8, 9] rfl rfl) h)
      · have h := bif_f hc77 h
        refine Run.opG (wantS_yes' rfl rfl hc77) (ex_move rfl) rfl ?_
        refine Run.opG (wantS_yes' rfl rfl hc77) (ex_len' rfl (hH76.slc (i := 0) rfl enc39_len) lenk28) rfl ?_
        refine Run.opG (wantS_yes' rfl rfl hc77) (ex_move rfl) rfl ?_
        refine Run.opG (wantS_yes' rfl rfl hc77) (ex_len' rfl (hH76.slc (i := 3) rfl enc39_len) lenk28) rfl ?_
        refine Run.opG (wantS_yes' rfl rfl hc77) (ex_neq rfl rfl) rfl ?_
        refine Run.opG wantS_none (ex_pickF' rfl hc77 rfl rfl) rfl ?_
        refine Run.opsEnd ?_
        exact Run.pick [5, 7, 9, 14, 98] (law07_BankBands_5_ok F v9 (!((r74.1.length : Int) == (l34.length : Int))) c29 l34 r74.1 sv9 b29 s34 s74_0 _ _ _ hv9 (hH76.pick [2, 3, 0, 6, 7, 8, 9] rfl rfl) h)

def law07_BankBands_3 (F : Nat) (v1 : (List Int)) (v9 : (List Int)) (v50 : Bool) (c26_0 : (List S_api_Tap)) (c26_1 : Int) (c29 : S_api_Chirp) (l34 : (List S_api_Tap)) : Option (Bool) :=
  bif v50 then
    bnd (works F) fun r48 =>
    some r48
  else
    law07_BankBands_4 F F v1 v9 (0 : Int) c26_0 c26_1 c29 c26_1 l34 ([] : List S_api_Tap)

theorem law07_BankBands_3_ok (F : Nat) : ∀ (v1 : (List Int)) (v9 : (List Int)) (v50 : Bool) (c26_0 : (List S_api_Tap)) (c26_1 : Int) (c29 : S_api_Chirp) (l34 : (List S_api_Tap)) (sv1 : SV) (sv9 : SV) (sc26_0 : SV) (b26 : Pos) (b29 : Pos) (s34 : SV) (Fr : Rd) (M : Mem) (r : Bool) (hv1 : Slc Fr 1 (FlatR enc3) sv1 v1) (hv9 : Slc Fr 1 (FlatR enc3) sv9 v9) (hc26_0 : Slc Fr 2 (FlatR enc37) sc26_0 c26_0) (hH : Has Fr M [.obj b26 (.row 24 .whole [sc26_0, (.int .i64 c26_1)]), .obj b29 (.row 27 .whole [(.int .i64 c29.P), (.int .i64 c29.Q)]), .vec 39 2 l34.length s34 (l34.flatMap enc39), tb0, tb1, tb2, tb3]), law07_BankBands_3 F v1 v9 v50 c26_0 c26_1 c29 l34 = some r → Run Tryz.prog ⟨⟨3, [], none⟩, []⟩ 190 (law07_BankBands_post r) [(1, sv1), (3, (.ptr b26 0)), (5, (.ptr b29 0)), (7, s34), (9, sv9), (50, (.bool v50))] [codeC Tryz.prog 3 [1, 1, 1, 0, 1], codeC Tryz.prog 3 [1, 1, 1, 1]] M := by
  intro v1 v9 v50 c26_0 c26_1 c29 l34 sv1 sv9 sc26_0 b26 b29 s34 Fr M r hv1 hv9 hc26_0 hH h
  rw [law07_BankBands_3] at h
  rcases btf (v50) with hc46 | hc46
  · have h := bif_t hc46 h
    refine Run.condT' rfl hc46 ?_
    refine Run.seq (Run.region ?_)
    obtain ⟨r48, hr48, h⟩ := bnd_some h
    refine Run.callP wantS_none (ex_call rfl mkk8 cal8) rfl (works_ok F r48 _ hH (List.mem_of_getElem? (i := 3) rfl) (List.mem_of_getElem? (i := 4) rfl) (List.mem_of_getElem? (i := 5) rfl) (List.mem_of_getElem? (i := 6) rfl) hr48) ?_
    refine Run.opG wantS_none (ex_assign rfl) rfl ?_
    refine Run.opsEnd ?_
    cases h
    exact Run.ret Tryz.func3 rfl (res_tmp rfl res_nil) rfl
  · have h := bif_f hc46 h
    refine Run.condF' rfl hc46 ?_
    refine Run.skip (Run.seq (Run.region ?_))
    refine Run.opG wantS_none (ex_fieldAddr rfl off24_1) rfl ?_
    refine Run.opG wantS_none (ex_load1 rfl (hH.cells (i := 0) rfl 1 rfl) rdLe_rfl agg3) rfl ?_
    refine Run.opG wantS_none (ex_build (r := [.nils, (.int .i64 c26_1)]) rfl zer24 pls24 rfl) rfl ?_
    refine Run.opX wantS_none rfl (ExG.new (v := fun b => .ptr b 0) (ex_alloc zer24) hH) ?_
    rintro _ M52 ⟨b51, rfl, (hH52 : Has Fr M52 [.obj b51 (.row 24 .whole [.nils, (.int .i64 0)]), .obj b26 (.row 24 .whole [sc26_0, (.int .i64 c26_1)]), .obj b29 (.row 27 .whole [(.int .i64 c29.P), (.int .i64 c29.Q)]), .vec 39 2 l34.length s34 (l34.flatMap enc39), tb0, tb1, tb2, tb3])⟩
    refine Run.opX wantS_none rfl (ExG.storeC (c' := [.nils, (.int .i64 c26_1)]) rfl rfl rfl hH52 (i := 0) rfl sz24 rfl rfl rfl rfl rfl) ?_
    rintro _ M53 ⟨rfl, (hH53 : Has Fr M53 [.obj b51 (.row 24 .whole [.nils, (.int .i64 c26_1)]), .obj b26 (.row 24 .whole [sc26_0, (.int .i64 c26_1)]), .obj b29 (.row 27 .whole [(.int .i64 c29.P), (.int .i64 c29.Q)]), .vec 39 2 l34.length s34 (l34.flatMap enc39), tb0, tb1, tb2, tb3])⟩
    refine Run.opsEnd (Run.seq (Run.seq (Run.region ?_)))
    refine Run.opG wantS_none (ex_assign rfl) rfl ?_
    refine Run.opsEnd (Run.block (Run.loop ?_))
    have hH55 : Has Fr M53 [.vec 37 2 ([] : List S_api_Tap).length .nils (([] : List S_api_Tap).flatMap enc37), .obj b51 (.row 24 .whole [.nils, (.int .i64 c26_1)]), .obj b26 (.row 24 .whole [sc26_0, (.int .i64 c26_1)]), .obj b29 (.row 27 .whole [(.int .i64 c29.P), (.int .i64 c29.Q)]), .vec 39 2 l34.length s34 (l34.flatMap enc39), tb0, tb1, tb2, tb3] := hH53.nils 37 2
    exact Run.pick [1, 3, 5, 7, 9, 11, 12] (law07_BankBands_4_ok F F v1 v9 (0 : Int) c26_0 c26_1 c29 c26_1 l34 ([] : List S_api_Tap) sv1 sv9 sc26_0 b26 b29 s34 b51 .nils _ _ _ hv1 hv9 hc26_0 (hH55.pick [2, 3, 4, 1, 0, 5, 6, 7, 8] rfl rfl) h)

def law07_BankBands_2 (F : Nat) (v1 : (List Int)) (v9 : (List Int)) (v45 : Bool) (c26_0 : (List S_api_Tap)) (c26_1 : Int) (c29 : S_api_Chirp) (l34 : (List S_api_Tap)) : Option (Bool) :=
  bif v45 then
    law07_BankBands_3 F v1 v9 true c26_0 c26_1 c29 l34
  else
    law07_BankBands_3 F v1 v9 (decide ((512 : Int) < (l34.length : Int))) c26_0 c26_1 c29 l34

theorem law07_BankBands_2_ok (F : Nat) : ∀ (v1 : (List Int)) (v9 : (List Int)) (v45 : Bool) (c26_0 : (List S_api_Tap)) (c26_1 : Int) (c29 : S_api_Chirp) (l34 : (List S_api_Tap)) (sv1 : SV) (sv9 : SV) (sc26_0 : SV) (b26 : Pos) (b29 : Pos) (s34 : SV) (Fr : Rd) (M : Mem) (r : Bool) (hv1 : Slc Fr 1 (FlatR enc3) sv1 v1) (hv9 : Slc Fr 1 (FlatR enc3) sv9 v9) (hc26_0 : Slc Fr 2 (FlatR enc37) sc26_0 c26_0) (hH : Has Fr M [.obj b26 (.row 24 .whole [sc26_0, (.int .i64 c26_1)]), .obj b29 (.row 27 .whole [(.int .i64 c29.P), (.int .i64 c29.Q)]), .vec 39 2 l34.length s34 (l34.flatMap enc39), tb0, tb1, tb2, tb3]), law07_BankBands_2 F v1 v9 v45 c26_0 c26_1 c29 l34 = some r → Run Tryz.prog ⟨⟨3, [], none⟩, []⟩ 190 (law07_BankBands_post r) [(1, sv1), (3, (.ptr b26 0)), (5, (.ptr b29 0)), (7, s34), (9, sv9), (45, (.bool v45))] [itemC Tryz.prog 3 [1, 1, 1, 0, 0] 11, codeC Tryz.prog 3 [1, 1, 1, 0, 1], codeC Tryz.prog 3 [1, 1, 1, 1]] M := by
  intro v1 v9 v45 c26_0 c26_1 c29 l34 sv1 sv9 sc26_0 b26 b29 s34 Fr M r hv1 hv9 hc26_0 hH h
  rw [law07_BankBands_2] at h
  refine Run.opG wantS_none (ex_move rfl) rfl ?_
  rcases btf (v45) with hc45 | hc45
  · have h := bif_t hc45 h
    refine Run.no (wantS_not' rfl rfl hc45) rfl ?_
    refine Run.no (wantS_not' rfl rfl hc45) rfl ?_
    refine Run.no (wantS_not' rfl rfl hc45) rfl ?_
    refine Run.opG wantS_none (ex_pickT' rfl hc45 rfl rfl) rfl ?_
    refine Run.opsEnd ?_
    exact Run.pick [1, 3, 5, 7, 9, 50] (law07_BankBands_3_ok F v1 v9 true c26_0 c26_1 c29 l34 sv1 sv9 sc26_0 b26 b29 s34 _ _ _ hv1 hv9 hc26_0 hH h)
  · have h := bif_f hc45 h
    refine Run.opG (wantS_yes' rfl rfl hc45) (ex_move rfl) rfl ?_
    refine Run.opG (wantS_yes' rfl rfl hc45) (ex_len' rfl (hH.slc (i := 2) rfl enc39_len) lenk28) rfl ?_
    refine Run.opG (wantS_yes' rfl rfl hc45) (ex_gtr rfl rfl) rfl ?_
    refine Run.opG wantS_none (ex_pickF' rfl hc45 rfl rfl) rfl ?_
    refine Run.opsEnd ?_
    exact Run.pick [1, 3, 5, 7, 9, 50] (law07_BankBands_3_ok F v1 v9 (decide ((512 : Int) < (l34.length : Int))) c26_0 c26_1 c29 l34 sv1 sv9 sc26_0 b26 b29 s34 _ _ _ hv1 hv9 hc26_0 hH h)

def law07_BankBands_1 (F : Nat) (v1 : (List Int)) (v9 : (List Int)) (v40 : Bool) (c26_0 : (List S_api_Tap)) (c26_1 : Int) (c29 : S_api_Chirp) (l34 : (List S_api_Tap)) : Option (Bool) :=
  bif v40 then
    law07_BankBands_2 F v1 v9 true c26_0 c26_1 c29 l34
  else
    law07_BankBands_2 F v1 v9 (decide ((l34.length : Int) < (8 : Int))) c26_0 c26_1 c29 l34

theorem law07_BankBands_1_ok (F : Nat) : ∀ (v1 : (List Int)) (v9 : (List Int)) (v40 : Bool) (c26_0 : (List S_api_Tap)) (c26_1 : Int) (c29 : S_api_Chirp) (l34 : (List S_api_Tap)) (sv1 : SV) (sv9 : SV) (sc26_0 : SV) (b26 : Pos) (b29 : Pos) (s34 : SV) (Fr : Rd) (M : Mem) (r : Bool) (hv1 : Slc Fr 1 (FlatR enc3) sv1 v1) (hv9 : Slc Fr 1 (FlatR enc3) sv9 v9) (hc26_0 : Slc Fr 2 (FlatR enc37) sc26_0 c26_0) (hH : Has Fr M [.obj b26 (.row 24 .whole [sc26_0, (.int .i64 c26_1)]), .obj b29 (.row 27 .whole [(.int .i64 c29.P), (.int .i64 c29.Q)]), .vec 39 2 l34.length s34 (l34.flatMap enc39), tb0, tb1, tb2, tb3]), law07_BankBands_1 F v1 v9 v40 c26_0 c26_1 c29 l34 = some r → Run Tryz.prog ⟨⟨3, [], none⟩, []⟩ 190 (law07_BankBands_post r) [(1, sv1), (3, (.ptr b26 0)), (5, (.ptr b29 0)), (7, s34), (9, sv9), (40, (.bool v40))] [itemC Tryz.prog 3 [1, 1, 1, 0, 0] 6, codeC Tryz.prog 3 [1, 1, 1, 0, 1], codeC Tryz.prog 3 [1, 1, 1, 1]] M := by
  intro v1 v9 v40 c26_0 c26_1 c29 l34 sv1 sv9 sc26_0 b26 b29 s34 Fr M r hv1 hv9 hc26_0 hH h
  rw [law07_BankBands_1] at h
  refine Run.opG wantS_none (ex_move rfl) rfl ?_
  rcases btf (v40) with hc44 | hc44
  · have h := bif_t hc44 h
    refine Run.no (wantS_not' rfl rfl hc44) rfl ?_
    refine Run.no (wantS_not' rfl rfl hc44) rfl ?_
    refine Run.no (wantS_not' rfl rfl hc44) rfl ?_
    refine Run.opG wantS_none (ex_pickT' rfl hc44 rfl rfl) rfl ?_
    exact Run.pick [1, 3, 5, 7, 9, 45] (law07_BankBands_2_ok F v1 v9 true c26_0 c26_1 c29 l34 sv1 sv9 sc26_0 b26 b29 s34 _ _ _ hv1 hv9 hc26_0 hH h)
  · have h := bif_f hc44 h
    refine Run.opG (wantS_yes' rfl rfl hc44) (ex_move rfl) rfl ?_
    refine Run.opG (wantS_yes' rfl rfl hc44) (ex_len' rfl (hH.slc (i := 2) rfl enc39_len) lenk28) rfl ?_
    refine Run.opG (wantS_yes' rfl rfl hc44) (ex_lss rfl rfl) rfl ?_
    refine Run.opG wantS_none (ex_pickF' rfl hc44 rfl rfl) rfl ?_
    exact Run.pick [1, 3, 5, 7, 9, 45] (law07_BankBands_2_ok F v1 v9 (decide ((l34.length : Int) < (8 : Int))) c26_0 c26_1 c29 l34 sv1 sv9 sc26_0 b26 b29 s34 _ _ _ hv1 hv9 hc26_0 hH h)

def law07_BankBands_10 (F : Nat) : Nat → Int → Int → (List Int) → Int → S_api_Chirp → (List S_api_Tap) → Int → S_api_Chirp → (List Int) → (List S_api_Tap) → Option (Bool)
  | 0, _, _, _, _, _, _, _, _, _, _ => none
  | N + 1, v10, v11, v1_f2, v8_f2, c124, c26_0, c26_1, c29, l127, l34 =>
    bif (decide (v11 < v10)) then
      bnd (bank_table F (Int.tmod (w64 ((w64 (c124.P * v11)) + (w64 ((w64 (c124.Q * v11)) * v11)))) (64 : Int))) fun r130 =>
      bnd (inA v11 64) fun o132 =>
      bnd (upd l127 (((0 + o132 * 1) : Nat) : Int) r130) fun l133 =>
      (law07_BankBands_10 F N) v10 (w64 (v11 + (1 : Int))) v1_f2 v8_f2 c124 c26_0 c26_1 c29 l133 l34
    else
      bnd (bank_wave_samples F l127) fun l136 =>
      bnd (bank_wave_samples F l127) fun l139 =>
      bnd (bank_product F l136 l139) fun r142 =>
      bnd (upd l127 ((65 : Nat) : Int) r142) fun l145 =>
      bnd (l145[(64 : Nat)]?) fun x150 =>
      bnd (subP 64 0 x150) fun r151 =>
      bnd (parL l145 (0 + r151.1) r151.2) fun l151 =>
      bif (!(v8_f2 == (0 : Int))) then
        law07_BankBands_1 F v1_f2 l151 true c26_0 c26_1 c29 l34
      else
        law07_BankBands_1 F v1_f2 l151 (!((0 : Int) == (0 : Int))) c26_0 c26_1 c29 l34

theorem law07_BankBands_10_ok (F : Nat) : ∀ (N : Nat), ∀ (v10 : Int) (v11 : Int) (v1_f2 : (List Int)) (v8_f2 : Int) (c124 : S_api_Chirp) (c26_0 : (List S_api_Tap)) (c26_1 : Int) (c29 : S_api_Chirp) (l127 : (List Int)) (l34 : (List S_api_Tap)) (sv1_f2 : SV) (sc26_0 : SV) (b124 : Pos) (b127 : Pos) (b26 : Pos) (b29 : Pos) (s34 : SV) (Fr : Rd) (M : Mem) (r : Bool) (hv1_f2 : Slc Fr 1 (FlatR enc3) sv1_f2 v1_f2) (hc26_0 : Slc Fr 2 (FlatR enc37) sc26_0 c26_0) (hH : Has Fr M [.obj b124 (.row 27 .whole [(.int .i64 c124.P), (.int .i64 c124.Q)]), .obj b127 (.row 105 .whole (l127.flatMap enc3)), .obj b26 (.row 24 .whole [sc26_0, (.int .i64 c26_1)]), .obj b29 (.row 27 .whole [(.int .i64 c29.P), (.int .i64 c29.Q)]), .vec 39 2 l34.length s34 (l34.flatMap enc39), tb0, tb1, tb2, tb3]), law07_BankBands_10 F N v10 v11 v1_f2 v8_f2 c124 c26_0 c26_1 c29 l127 l34 = some r → Run Tryz.prog ⟨⟨26, [], none⟩, [.mk ⟨7, [], none⟩ 17 (treeOf []) [itemC Tryz.prog 7 [1, 1, 0] 2, codeC Tryz.prog 7 [1, 1, 1]], .mk ⟨3, [], none⟩ 190 (treeOf [(1, sv1_f2), (3, (.ptr b26 0)), (5, (.ptr b29 0)), (7, s34), (8, (.int .i64 v8_f2))]) [itemC Tryz.prog 3 [1, 1, 0] 1, codeC Tryz.prog 3 [1, 1, 1]]]⟩ 42 (law07_BankBands_post r) [(3, (.ptr b124 0)), (5, (.ptr b127 0)), (10, (.int .i64 v10)), (11, (.int .i64 v11))] [codeC Tryz.prog 26 [1, 1, 0, 1, 0, 0], loopC Tryz.prog 26 [1, 1, 0, 1, 0, 0], .inBlock 0, codeC Tryz.prog 26 [1, 1, 1]] M := by
  intro N
  induction N with
  | zero =>
    intro v10 v11 v1_f2 v8_f2 c124 c26_0 c26_1 c29 l127 l34 sv1_f2 sc26_0 b124 b127 b26 b29 s34 Fr M r hv1_f2 hc26_0 hH h
    simp [law07_BankBands_10] at h
  | succ N ih =>
    intro v10 v11 v1_f2 v8_f2 c124 c26_0 c26_1 c29 l127 l34 sv1_f2 sc26_0 b124 b127 b26 b29 s34 Fr M r hv1_f2 hc26_0 hH h
    rw [law07_BankBands_10] at h
    refine Run.seq (Run.region ?_)
    refine Run.opG wantS_none (ex_lss rfl rfl) rfl ?_
    refine Run.opsEnd (Run.seq ?_)
    rcases btf ((decide (v11 < v10))) with hc129 | hc129
    · have h := bif_t hc129 h
      refine Run.condT' rfl hc129 ?_
      refine Run.skip (Run.seq (Run.block (Run.seq (Run.region ?_))))
      refine Run.opG wantS_none (ex_move rfl) rfl ?_
      refine Run.opG wantS_none (ex_assign rfl) rfl ?_
      refine Run.opsEnd ?_
      refine Run.drawG plan26_1_1_0_1_0_0_1_1_0_0_1 ?_
      refine DrawG.fl rfl (ev_ex wantS_none (ex_move rfl)) rfl ?_
      refine DrawG.fl rfl (ev_ex wantS_none (ex_move rfl)) rfl ?_
      refine DrawG.fl rfl (ev_ex wantS_none (ex_fieldAddr rfl off27_0)) rfl ?_
      refine DrawG.fl rfl (ev_ex wantS_none (ex_load1 rfl (hH.cells (i := 0) rfl 0 rfl) rdLe_rfl agg3)) rfl ?_
      refine DrawG.fl rfl (ev_ex wantS_none (ex_move rfl)) rfl ?_
      refine DrawG.fl rfl (ev_ex wantS_none (ex_mul rfl rfl)) rfl ?_
      refine DrawG.fl rfl (ev_ex wantS_none (ex_fieldAddr rfl off27_1)) rfl ?_
      refine DrawG.fl rfl (ev_ex wantS_none (ex_load1 rfl (hH.cells (i := 0) rfl 1 rfl) rdLe_rfl agg3)) rfl ?_
      refine DrawG.fl rfl (ev_ex wantS_none (ex_move rfl)) rfl ?_
      refine DrawG.fl rfl (ev_ex wantS_none (ex_mul rfl rfl)) rfl ?_
      refine DrawG.fl rfl (ev_ex wantS_none (ex_move rfl)) rfl ?_
      refine DrawG.fl rfl (ev_ex wantS_none (ex_mul rfl rfl)) rfl ?_
      refine DrawG.fl rfl (ev_ex wantS_none (ex_add rfl rfl)) rfl ?_
      refine DrawG.fl rfl (ev_ex wantS_none (ex_rem rfl rfl (by decide))) rfl ?_
      refine DrawG.fl rfl (ev_ex wantS_none (ex_nilP rfl)) rfl ?_
      refine DrawG.fl rfl (ev_ex wantS_none (ex_fieldAddr rfl off105_0)) rfl ?_
      obtain ⟨r130, hr130, h⟩ := bnd_some h
      refine DrawG.callP rfl wantS_none (ex_call rfl mkk72 cal72) rfl (bank_table_ok F (Int.tmod (w64 ((w64 (c124.P * v11)) + (w64 ((w64 (c124.Q * v11)) * v11)))) (64 : Int)) _ _ (fixH hH (List.mem_of_getElem? (i := 5) rfl) (List.mem_of_getElem? (i := 6) rfl) (List.mem_of_getElem? (i := 7) rfl) (List.mem_of_getElem? (i := 8) rfl)) hr130) (st_cons rfl (ev_ex wantS_none (ex_fieldAddr rfl off105_0)) rfl rfl rfl (st_cons rfl (ev_ex wantS_none (ex_nilP rfl)) rfl rfl rfl (st_cons rfl (ev_ex wantS_none (ex_move rfl)) rfl rfl rfl (st_cons rfl (ev_ex wantS_none (ex_move rfl)) rfl rfl rfl st_nil)))) ?_
      obtain ⟨o132, ho132, h⟩ := bnd_some h
      refine DrawG.fl rfl (ev_ex wantS_none (ex_elX rfl rfl (arr_place (inA_natIn ho132) els103))) rfl ?_
      obtain ⟨l133, hl133, h⟩ := bnd_some h
      refine DrawG.opX rfl wantS_none rfl (ExG.storeA rfl rfl hH (i := 1) rfl hl133 sz3 rfl enc3_len enc3_ones) ?_
      rintro _ M134 ⟨rfl, (hH134 : Has Fr M134 [.obj b124 (.row 27 .whole [(.int .i64 c124.P), (.int .i64 c124.Q)]), .obj b127 (.row 105 .whole (l133.flatMap enc3)), .obj b26 (.row 24 .whole [sc26_0, (.int .i64 c26_1)]), .obj b29 (.row 27 .whole [(.int .i64 c29.P), (.int .i64 c29.Q)]), .vec 39 2 l34.length s34 (l34.flatMap enc39), tb0, tb1, tb2, tb3])⟩
      refine ⟨st_nil, ?_⟩
      refine DrawG.sync ?_
      refine DrawG.nil ?_
      refine Run.inBlock (Run.region ?_)
      refine Run.opG wantS_none (ex_add rfl rfl) rfl ?_
      refine Run.opG wantS_none (ex_move rfl) rfl ?_
      refine Run.opsEnd (Run.inLoop ?_)
      exact Run.low (.cons (fle_pick [] rfl) (.cons (fle_pick [1, 3, 5, 7, 8] rfl) .nil)) (Run.pick [3, 5, 10, 11] (ih v10 (w64 (v11 + (1 : Int))) v1_f2 v8_f2 c124 c26_0 c26_1 c29 l133 l34 sv1_f2 sc26_0 b124 b127 b26 b29 s34 _ _ _ hv1_f2 hc26_0 hH134 h))
    · have h := bif_f hc129 h
      refine Run.condF' rfl hc129 ?_
      refine Run.exit rfl (Run.seq (Run.region ?_))
      refine Run.opG wantS_none (ex_move rfl) rfl ?_
      refine Run.opG wantS_none (ex_move rfl) rfl ?_
      obtain ⟨l136, hl136, h⟩ := bnd_some h
      have hs136 := bank_wave_samples_slc F hH (i := 1) rfl hl136
      refine Run.callP wantS_none (ex_call rfl mkk27 cal27) rfl (bank_wave_samples_ok F hH (i := 1) rfl hl136) ?_
      refine Run.opG wantS_none (ex_move rfl) rfl ?_
      obtain ⟨l139, hl139, h⟩ := bnd_some h
      have hs139 := bank_wave_samples_slc F hH (i := 1) rfl hl139
      refine Run.callP wantS_none (ex_call rfl mkk27 cal27) rfl (bank_wave_samples_ok F hH (i := 1) rfl hl139) ?_
      obtain ⟨r142, hr142, h⟩ := bnd_some h
      refine Run.callP wantS_none (ex_call rfl mkk73 cal73) rfl (bank_product_ok F l136 l139 (.slice b127 0 l136.length 64) (.slice b127 0 l139.length 64) _ _ hs136 hs139 hr142) ?_
      refine Run.opG wantS_none (ex_nilP rfl) rfl ?_
      refine Run.opG wantS_none (ex_fieldAddr rfl off105_2) rfl ?_
      obtain ⟨l145, hl145, h⟩ := bnd_some h
      refine Run.opX wantS_none rfl (ExG.storeA rfl rfl hH (i := 1) rfl hl145 sz3 rfl enc3_len enc3_ones) ?_
      rintro _ M146 ⟨rfl, (hH146 : Has Fr M146 [.obj b124 (.row 27 .whole [(.int .i64 c124.P), (.int .i64 c124.Q)]), .obj b127 (.row 105 .whole (l145.flatMap enc3)), .obj b26 (.row 24 .whole [sc26_0, (.int .i64 c26_1)]), .obj b29 (.row 27 .whole [(.int .i64 c29.P), (.int .i64 c29.Q)]), .vec 39 2 l34.length s34 (l34.flatMap enc39), tb0, tb1, tb2, tb3])⟩
      refine Run.opsEnd (Run.seq (Run.region ?_))
      refine Run.opG wantS_none (ex_move rfl) rfl ?_
      refine Run.opG wantS_none (ex_assign rfl) rfl ?_
      refine Run.opsEnd ?_
      refine Run.retTo Tryz.func26 rfl (res_tmp rfl res_nil) rfl ?_
      refine Run.freezeO (t := 15) (i := 1) rfl hH146 rfl ?_
      intro F148 M148 hle148 (hH148 : Has F148 M148 [.obj b124 (.row 27 .whole [(.int .i64 c124.P), (.int .i64 c124.Q)]), .vec 0 0 0 .nils [], .obj b26 (.row 24 .whole [sc26_0, (.int .i64 c26_1)]), .obj b29 (.row 27 .whole [(.int .i64 c29.P), (.int .i64 c29.Q)]), .vec 39 2 l34.length s34 (l34.flatMap enc39), tb0, tb1, tb2, tb3]) hp148
      have hf148 := rop_of hp148
      replace hc26_0 := hc26_0.mono hle148 (fun _ _ h => h)
      replace hv1_f2 := hv1_f2.mono hle148 (fun _ _ h => h)
      refine Run.enter wantS_none (ex_call rfl mkk27 cal27) Tryz.func27 rfl rfl ?_
      refine Run.seq (Run.region ?_)
      refine Run.opG wantS_none (ex_assign rfl) rfl ?_
      refine Run.opsEnd (Run.seq ?_)
      refine Run.drawG plan27_1_0 ?_
      refine DrawG.fl rfl (ev_ex wantS_none (ex_move rfl)) rfl ?_
      refine DrawG.fl rfl (ev_ex wantS_none (ex_nilP rfl)) rfl ?_
      refine DrawG.fl rfl (ev_ex wantS_none (ex_fieldAddr rfl off105_0)) rfl ?_
      refine DrawG.fl rfl (ev_ex wantS_none (ex_move rfl)) rfl ?_
      refine DrawG.fl rfl (ev_ex wantS_none (ex_nilP rfl)) rfl ?_
      refine DrawG.fl rfl (ev_ex wantS_none (ex_fieldAddr rfl off105_1)) rfl ?_
      obtain ⟨x150, hx150, h⟩ := bnd_some h
      refine DrawG.fl rfl (ev_ex wantS_none (ex_load1 rfl (hH148.ptrF (rop_at (enc := enc3) (a := x150) hf148 enc3_len hx150)) rdLe_rfl agg3)) rfl ?_
      obtain ⟨r151, hr151, h⟩ := bnd_some h
      obtain ⟨l151, hl151, h⟩ := bnd_some h
      obtain ⟨s151, hx151, hs151⟩ := rop_cutH (P := Tryz.prog) (t := 103) (off := 0) (k0 := .i64) hf148 enc3_len hr151 slk103 hl151
      refine DrawG.fl rfl (ev_ex wantS_none (ex_slX rfl (argO_none) (argO_some rfl) hx151)) rfl ?_
      refine DrawG.fl rfl (ev_ex wantS_none (ex_assign rfl)) rfl ?_
      refine DrawG.sync ?_
      refine DrawG.nil ?_
      refine Run.retTo Tryz.func27 rfl (res_tmp rfl res_nil) rfl ?_
      refine Run.opG wantS_none (ex_assign rfl) rfl ?_
      refine Run.opG wantS_none (ex_assign rfl) rfl ?_
      refine Run.opsEnd ?_
      refine Run.retTo Tryz.func7 rfl (res_tmp rfl (res_tmp rfl res_nil)) rfl ?_
      refine Run.opG wantS_none (ex_move rfl) rfl ?_
      refine Run.opG wantS_none (ex_extract rfl rfl) rfl ?_
      refine Run.opG wantS_none (ex_extract rfl rfl) rfl ?_
      refine Run.opG wantS_none (ex_assign rfl) rfl ?_
      refine Run.opG wantS_none (ex_assign rfl) rfl ?_
      refine Run.opsEnd (Run.seq (Run.seq (Run.region ?_)))
      refine Run.opG wantS_none (ex_move rfl) rfl ?_
      refine Run.opG wantS_none (ex_neq rfl rfl) rfl ?_
      refine Run.opG wantS_none (ex_move rfl) rfl ?_
      rcases btf ((!(v8_f2 == (0 : Int)))) with hc152 | hc152
      · have h := bif_t hc152 h
        refine Run.no (wantS_not' rfl rfl hc152) rfl ?_
        refine Run.no (wantS_not' rfl rfl hc152) rfl ?_
        refine Run.opG wantS_none (ex_pickT' rfl hc152 rfl rfl) rfl ?_
        exact Run.pick [1, 3, 5, 7, 9, 40] (law07_BankBands_1_ok F v1_f2 l151 true c26_0 c26_1 c29 l34 sv1_f2 s151 sc26_0 b26 b29 s34 _ _ _ hv1_f2 hs151 hc26_0 (hH148.pick [2, 3, 4, 5, 6, 7, 8] rfl rfl) h)
      · have h := bif_f hc152 h
        refine Run.opG (wantS_yes' rfl rfl hc152) (ex_move rfl) rfl ?_
        refine Run.opG (wantS_yes' rfl rfl hc152) (ex_neq rfl rfl) rfl ?_
        refine Run.opG wantS_none (ex_pickF' rfl hc152 rfl rfl) rfl ?_
        exact Run.pick [1, 3, 5, 7, 9, 40] (law07_BankBands_1_ok F v1_f2 l151 (!((0 : Int) == (0 : Int))) c26_0 c26_1 c29 l34 sv1_f2 s151 sc26_0 b26 b29 s34 _ _ _ hv1_f2 hs151 hc26_0 (hH148.pick [2, 3, 4, 5, 6, 7, 8] rfl rfl) h)

def law07_BankBands (F : Nat) (a0 : S_api_Model) (a1 : (List Int)) (a2 : S_api_Chirp) : Option (Bool) :=
  bnd (record_Strain F a0 a1) fun r33 =>
  bnd (bank_CheckChirp F (8 : Int) a2) fun r40 =>
  bif (!(r40 == (0 : Int))) then
    bif (!(r33.2 == (0 : Int))) then
      law07_BankBands_1 F a1 [] true a0.Taps a0.Shift a2 r33.1
    else
      law07_BankBands_1 F a1 [] (!(r40 == (0 : Int))) a0.Taps a0.Shift a2 r33.1
  else
    law07_BankBands_10 F F (8 : Int) (0 : Int) a1 r33.2 a2 a0.Taps a0.Shift a2 ([0, 0, 0, 0, 0, 0, 0, 0, 0, 0, 0, 0, 0, 0, 0, 0, 0, 0, 0, 0, 0, 0, 0, 0, 0, 0, 0, 0, 0, 0, 0, 0, 0, 0, 0, 0, 0, 0, 0, 0, 0, 0, 0, 0, 0, 0, 0, 0, 0, 0, 0, 0, 0, 0, 0, 0, 0, 0, 0, 0, 0, 0, 0, 0, 8, 0] : List Int) r33.1

theorem law07_BankBands_run (F : Nat) (a0 : S_api_Model) (a1 : (List Int)) (a2 : S_api_Chirp) (s0 s1 : SV) (r : Bool) (M : Mem) (hs0 : Slc (rd M) 2 (FlatR enc37) s0 a0.Taps) (hs1 : Slc (rd M) 1 (FlatR enc3) s1 a1) (hfx : FixIn M fixes) (h : law07_BankBands F a0 a1 a2 = some r) : Run Tryz.prog (fx0 3) 190 (law07_BankBands_post r) [(0, (.agg [s0, (.int .i64 a0.Shift)])), (1, s1), (2, (.agg [(.int .i64 a2.P), (.int .i64 a2.Q)]))] [codeC Tryz.prog 3 []] (frozen M) := by
  rw [law07_BankBands] at h
  replace hs0 := hs0.mono (rdLe_frozen M) (fun _ _ h => h)
  replace hs1 := hs1.mono (rdLe_frozen M) (fun _ _ h => h)
  have hH : Has (ro (frozen M)) (frozen M) [tb0, tb1, tb2, tb3] := Has.ofFix hfx.frozen
  refine Run.seq (Run.region ?_)
  refine Run.opX wantS_none rfl (ExG.box rfl rfl hH) ?_
  rintro _ M27 ⟨b26, rfl, (hH27 : Has (ro (frozen M)) M27 [.obj b26 (.row 24 .whole [s0, (.int .i64 a0.Shift)]), tb0, tb1, tb2, tb3])⟩
  refine Run.opX wantS_none rfl (ExG.box rfl rfl hH27) ?_
  rintro _ M30 ⟨b29, rfl, (hH30 : Has (ro (frozen M)) M30 [.obj b29 (.row 27 .whole [(.int .i64 a2.P), (.int .i64 a2.Q)]), .obj b26 (.row 24 .whole [s0, (.int .i64 a0.Shift)]), tb0, tb1, tb2, tb3])⟩
  refine Run.opG wantS_none (ex_assign rfl) rfl ?_
  refine Run.opsEnd (Run.seq (Run.region ?_))
  refine Run.opG wantS_none (ex_loadA rfl (hH30.cells (i := 1) rfl 0 rfl) rdLe_rfl agg24 rfl rfl rfl) rfl ?_
  refine Run.opG wantS_none (ex_move rfl) rfl ?_
  obtain ⟨r33, hr33, h⟩ := bnd_some h
  refine Run.callX wantS_none (ex_call rfl mkk6 cal6) rfl (record_Strain_ok F a0 a1 s0 s1 _ _ (hH30.slcF hs0) (hH30.slcF hs1) hr33) ?_
  rintro _ M35 ⟨s33_0, rfl, hN33⟩
  have hH35 : Has (ro (frozen M)) M35 [.vec 39 2 r33.1.length s33_0 (r33.1.flatMap enc39), .obj b29 (.row 27 .whole [(.int .i64 a2.P), (.int .i64 a2.Q)]), .obj b26 (.row 24 .whole [s0, (.int .i64 a0.Shift)]), tb0, tb1, tb2, tb3] := hN33.1 _ _ hH30
  refine Run.opG wantS_none (ex_move rfl) rfl ?_
  refine Run.opG wantS_none (ex_extract rfl rfl) rfl ?_
  refine Run.opG wantS_none (ex_extract rfl rfl) rfl ?_
  refine Run.opG wantS_none (ex_assign rfl) rfl ?_
  refine Run.opG wantS_none (ex_assign rfl) rfl ?_
  refine Run.opsEnd (Run.seq (Run.region ?_))
  refine Run.opG wantS_none (ex_loadA rfl (hH35.cells (i := 1) rfl 0 rfl) rdLe_rfl agg27 rfl rfl rfl) rfl ?_
  refine Run.enter wantS_none (ex_call rfl mkk7 cal7) Tryz.func7 rfl rfl ?_
  refine Run.seq (Run.region ?_)
  refine Run.opX wantS_none rfl (ExG.box rfl rfl hH35) ?_
  rintro _ M38 ⟨b37, rfl, (hH38 : Has (ro (frozen M)) M38 [.obj b37 (.row 27 .whole [(.int .i64 a2.P), (.int .i64 a2.Q)]), .vec 39 2 r33.1.length s33_0 (r33.1.flatMap enc39), .obj b29 (.row 27 .whole [(.int .i64 a2.P), (.int .i64 a2.Q)]), .obj b26 (.row 24 .whole [s0, (.int .i64 a0.Shift)]), tb0, tb1, tb2, tb3])⟩
  refine Run.opG wantS_none (ex_assign rfl) rfl ?_
  refine Run.opG wantS_none (ex_assign rfl) rfl ?_
  refine Run.opsEnd (Run.seq (Run.seq (Run.region ?_)))
  refine Run.opG wantS_none (ex_move rfl) rfl ?_
  refine Run.opG wantS_none (ex_loadA rfl (hH38.cells (i := 0) rfl 0 rfl) rdLe_rfl agg27 rfl rfl rfl) rfl ?_
  obtain ⟨r40, hr40, h⟩ := bnd_some h
  refine Run.callP wantS_none (ex_call rfl mkk25 cal25) rfl (bank_CheckChirp_ok F (8 : Int) a2 _ _ hr40) ?_
  refine Run.opG wantS_none (ex_assign rfl) rfl ?_
  refine Run.opsEnd (Run.seq (Run.region ?_))
  refine Run.opG wantS_none (ex_move rfl) rfl ?_
  refine Run.opG wantS_none (ex_neq rfl rfl) rfl ?_
  refine Run.opsEnd ?_
  rcases btf ((!(r40 == (0 : Int)))) with hc42 | hc42
  · have h := bif_t hc42 h
    refine Run.condT' rfl hc42 ?_
    refine Run.seq (Run.region ?_)
    refine Run.opG wantS_none (ex_move rfl) rfl ?_
    refine Run.opG wantS_none (ex_assign rfl) rfl ?_
    refine Run.opG wantS_none (ex_assign rfl) rfl ?_
    refine Run.opsEnd ?_
    refine Run.retTo Tryz.func7 rfl (res_tmp rfl (res_tmp rfl res_nil)) rfl ?_
    refine Run.opG wantS_none (ex_move rfl) rfl ?_
    refine Run.opG wantS_none (ex_extract rfl rfl) rfl ?_
    refine Run.opG wantS_none (ex_extract rfl rfl) rfl ?_
    refine Run.opG wantS_none (ex_assign rfl) rfl ?_
    refine Run.opG wantS_none (ex_assign rfl) rfl ?_
    refine Run.opsEnd (Run.seq (Run.seq (Run.region ?_)))
    refine Run.opG wantS_none (ex_move rfl) rfl ?_
    refine Run.opG wantS_none (ex_neq rfl rfl) rfl ?_
    refine Run.opG wantS_none (ex_move rfl) rfl ?_
    rcases btf ((!(r33.2 == (0 : Int)))) with hc43 | hc43
    · have h := bif_t hc43 h
      refine Run.no (wantS_not' rfl rfl hc43) rfl ?_
      refine Run.no (wantS_not' rfl rfl hc43) rfl ?_
      refine Run.opG wantS_none (ex_pickT' rfl hc43 rfl rfl) rfl ?_
      exact Run.pick [1, 3, 5, 7, 9, 40] (law07_BankBands_1_ok F a1 [] true a0.Taps a0.Shift a2 r33.1 s1 .nils s0 b26 b29 s33_0 _ _ _ hs1 slc_nil hs0 (hH38.pick [3, 2, 1, 4, 5, 6, 7] rfl rfl) h)
    · have h := bif_f hc43 h
      refine Run.opG (wantS_yes' rfl rfl hc43) (ex_move rfl) rfl ?_
      refine Run.opG (wantS_yes' rfl rfl hc43) (ex_neq rfl rfl) rfl ?_
      refine Run.opG wantS_none (ex_pickF' rfl hc43 rfl rfl) rfl ?_
      exact Run.pick [1, 3, 5, 7, 9, 40] (law07_BankBands_1_ok F a1 [] (!(r40 == (0 : Int))) a0.Taps a0.Shift a2 r33.1 s1 .nils s0 b26 b29 s33_0 _ _ _ hs1 slc_nil hs0 (hH38.pick [3, 2, 1, 4, 5, 6, 7] rfl rfl) h)
  · have h := bif_f hc42 h
    refine Run.condF' rfl hc42 ?_
    refine Run.skip (Run.seq (Run.region ?_))
    refine Run.opG wantS_none (ex_move rfl) rfl ?_
    refine Run.opG wantS_none (ex_loadA rfl (hH38.cells (i := 0) rfl 0 rfl) rdLe_rfl agg27 rfl rfl rfl) rfl ?_
    refine Run.enter wantS_none (ex_call rfl mkk26 cal26) Tryz.func26 rfl rfl ?_
    refine Run.seq (Run.region ?_)
    refine Run.opX wantS_none rfl (ExG.box rfl rfl hH38) ?_
    rintro _ M125 ⟨b124, rfl, (hH125 : Has (ro (frozen M)) M125 [.obj b124 (.row 27 .whole [(.int .i64 a2.P), (.int .i64 a2.Q)]), .obj b37 (.row 27 .whole [(.int .i64 a2.P), (.int .i64 a2.Q)]), .vec 39 2 r33.1.length s33_0 (r33.1.flatMap enc39), .obj b29 (.row 27 .whole [(.int .i64 a2.P), (.int .i64 a2.Q)]), .obj b26 (.row 24 .whole [s0, (.int .i64 a0.Shift)]), tb0, tb1, tb2, tb3])⟩
    refine Run.opG wantS_none (ex_assign rfl) rfl ?_
    refine Run.opsEnd (Run.seq (Run.region ?_))
    refine Run.opG wantS_none (ex_move rfl) rfl ?_
    refine Run.opG wantS_none (ex_build (r := [(.int .i64 0), (.int .i64 0), (.int .i64 0), (.int .i64 0), (.int .i64 0), (.int .i64 0), (.int .i64 0), (.int .i64 0), (.int .i64 0), (.int .i64 0), (.int .i64 0), (.int .i64 0), (.int .i64 0), (.int .i64 0), (.int .i64 0), (.int .i64 0), (.int .i64 0), (.int .i64 0), (.int .i64 0), (.int .i64 0), (.int .i64 0), (.int .i64 0), (.int .i64 0), (.int .i64 0), (.int .i64 0), (.int .i64 0), (.int .i64 0), (.int .i64 0), (.int .i64 0), (.int .i64 0), (.int .i64 0), (.int .i64 0), (.int .i64 0), (.int .i64 0), (.int .i64 0), (.int .i64 0), (.int .i64 0), (.int .i64 0), (.int .i64 0), (.int .i64 0), (.int .i64 0), (.int .i64 0), (.int .i64 0), (.int .i64 0), (.int .i64 0), (.int .i64 0), (.int .i64 0), (.int .i64 0), (.int .i64 0), (.int .i64 0), (.int .i64 0), (.int .i64 0), (.int .i64 0), (.int .i64 0), (.int .i64 0), (.int .i64 0), (.int .i64 0), (.int .i64 0), (.int .i64 0), (.int .i64 0), (.int .i64 0), (.int .i64 0), (.int .i64 0), (.int .i64 0), (.int .i64 8), (.int .i64 0)]) rfl zer105 pls105 rfl) rfl ?_
    refine Run.opX wantS_none rfl (ExG.box (c := ([0, 0, 0, 0, 0, 0, 0, 0, 0, 0, 0, 0, 0, 0, 0, 0, 0, 0, 0, 0, 0, 0, 0, 0, 0, 0, 0, 0, 0, 0, 0, 0, 0, 0, 0, 0, 0, 0, 0, 0, 0, 0, 0, 0, 0, 0, 0, 0, 0, 0, 0, 0, 0, 0, 0, 0, 0, 0, 0, 0, 0, 0, 0, 0, 8, 0] : List Int).flatMap enc3) rfl rfl hH125) ?_
    rintro _ M128 ⟨b127, rfl, (hH128 : Has (ro (frozen M)) M128 [.obj b127 (.row 105 .whole (([0, 0, 0, 0, 0, 0, 0, 0, 0, 0, 0, 0, 0, 0, 0, 0, 0, 0, 0, 0, 0, 0, 0, 0, 0, 0, 0, 0, 0, 0, 0, 0, 0, 0, 0, 0, 0, 0, 0, 0, 0, 0, 0, 0, 0, 0, 0, 0, 0, 0, 0, 0, 0, 0, 0, 0, 0, 0, 0, 0, 0, 0, 0, 0, 8, 0] : List Int).flatMap enc3)), .obj b124 (.row 27 .whole [(.int .i64 a2.P), (.int .i64 a2.Q)]), .obj b37 (.row 27 .whole [(.int .i64 a2.P), (.int .i64 a2.Q)]), .vec 39 2 r33.1.length s33_0 (r33.1.flatMap enc39), .obj b29 (.row 27 .whole [(.int .i64 a2.P), (.int .i64 a2.Q)]), .obj b26 (.row 24 .whole [s0, (.int .i64 a0.Shift)]), tb0, tb1, tb2, tb3])⟩
    refine Run.opG wantS_none (ex_assign rfl) rfl ?_
    refine Run.opsEnd (Run.seq (Run.seq (Run.region ?_)))
    refine Run.opG wantS_none (ex_move rfl) rfl ?_
    refine Run.opG wantS_none (ex_move rfl) rfl ?_
    refine Run.opsEnd (Run.block (Run.loop ?_))
    exact Run.low (.cons (fle_pick [] rfl) (.cons (fle_pick [1, 3, 5, 7, 8] rfl) .nil)) (Run.pick [3, 5, 10, 11] (law07_BankBands_10_ok F F (8 : Int) (0 : Int) a1 r33.2 a2 a0.Taps a0.Shift a2 ([0, 0, 0, 0, 0, 0, 0, 0, 0, 0, 0, 0, 0, 0, 0, 0, 0, 0, 0, 0, 0, 0, 0, 0, 0, 0, 0, 0, 0, 0, 0, 0, 0, 0, 0, 0, 0, 0, 0, 0, 0, 0, 0, 0, 0, 0, 0, 0, 0, 0, 0, 0, 0, 0, 0, 0, 0, 0, 0, 0, 0, 0, 0, 0, 8, 0] : List Int) r33.1 s1 s0 b124 b127 b26 b29 s33_0 _ _ _ hs1 hs0 (hH128.pick [1, 0, 5, 4, 3, 6, 7, 8, 9] rfl rfl) h))

end Go.Ev.BankBands
