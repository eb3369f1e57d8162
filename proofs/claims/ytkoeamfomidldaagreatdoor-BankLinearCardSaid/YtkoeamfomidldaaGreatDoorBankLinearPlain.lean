/- Plain functions that say what functions of the program come to, and proofs of it, written by a program of the verifier's own. -/
import Derived.Test.YtkoeamfomidldaaGreatDoorEvL10
import Derived.Test.YtkoeamfomidldaaGreatDoorWorks
import Derived.KernelRfl
namespace Go.Ev.BankLinear
open Go Go.Ev Go.Proofs
set_option maxRecDepth 100000
set_option linter.unusedVariables false

/-- The listed tables. -/
noncomputable def fixes : List (Nat × List SV) := Go.Proofs.YtkoeamfomidldaaGreatDoor.works.fixes
noncomputable def tb0 : Ent := fixE (7, intCells .u8 [0, 1, 28, 2, 29, 14, 24, 3, 30, 22, 20, 15, 25, 17, 4, 8, 31, 27, 13, 23, 21, 19, 16, 7, 26, 12, 18, 6, 11, 5, 10, 9])
noncomputable def tb1 : Ent := fixE (8, intCells .u8 [0, 1, 56, 2, 57, 49, 28, 3, 61, 58, 42, 50, 38, 29, 17, 4, 62, 47, 59, 36, 45, 43, 51, 22, 53, 39, 33, 30, 24, 18, 12, 5, 63, 55, 48, 27, 60, 41, 37, 16, 46, 35, 44, 21, 52, 32, 23, 11, 54, 26, 40, 15, 34, 20, 31, 10, 25, 14, 19, 9, 13, 8, 7, 6])
noncomputable def tb2 : Ent := fixE (6, intCells .u64 [1, 10, 100, 1000, 10000, 100000, 1000000, 10000000, 100000000, 1000000000, 10000000000, 100000000000, 1000000000000, 10000000000000, 100000000000000, 1000000000000000, 10000000000000000, 100000000000000000, 1000000000000000000, 10000000000000000000])
noncomputable def tb3 : Ent := fixE (0, intCells .i64 [0, 12, 25, 37, 49, 60, 71, 81, 90, 98, 106, 112, 117, 122, 125, 126, 127])
/-- works() comes to true. -/
def works (_ : Nat) : Option Bool := some true
theorem fixH {Fr : Rd} {H : List Ent} {M : Mem} (hH : Has Fr M H) (h0 : tb0 ∈ H) (h1 : tb1 ∈ H) (h2 : tb2 ∈ H) (h3 : tb3 ∈ H) : FixIn M fixes := by
  refine hH.fixIn fun x hx => ?_
  simp only [fixes, Go.Proofs.YtkoeamfomidldaaGreatDoor.works.fixes, List.mem_cons, List.not_mem_nil, or_false] at hx
  rcases hx with rfl | rfl | rfl | rfl
  · exact h0
  · exact h1
  · exact h2
  · exact h3

theorem works_ok (F : Nat) (r : Bool) {Fr : Rd} {H : List Ent} (M : Mem) (hH : Has Fr M H) (h0 : tb0 ∈ H) (h1 : tb1 ∈ H) (h2 : tb2 ∈ H) (h3 : tb3 ∈ H) (h : works F = some r) : CallsM Tryz.prog 25 [] M fun s M' => s = .bool r ∧ M' = M := by
  cases h
  refine CallsM.closedFix (n := 300) (l := Go.Proofs.YtkoeamfomidldaaGreatDoor.works.fixes) Go.Proofs.YtkoeamfomidldaaGreatDoor.works.below Go.Proofs.YtkoeamfomidldaaGreatDoor.works.plainF Go.Proofs.YtkoeamfomidldaaGreatDoor.works.works_true (hH.fixIn fun x hx => ?_)
  simp only [Go.Proofs.YtkoeamfomidldaaGreatDoor.works.fixes, List.mem_cons, List.not_mem_nil, or_false] at hx
  rcases hx with rfl | rfl | rfl | rfl
  · exact h0
  · exact h1
  · exact h2
  · exact h3


structure S_api_Chirp where
  P : Int
  Q : Int

structure S__2_int where
  e0 : (List Int)
  e1 : (List Int)

def enc3 (a : Int) : List SV := [(.int .i64 a)]
theorem enc3_len (a : Int) : (enc3 a).length = 1 := rfl
theorem enc3_ones (a : Int) : ones (enc3 a) = true := rfl
theorem els69 : elems Tryz.prog 69 = some (.arr 2 1) := by kernel_rfl
theorem agg33 : aggSize Tryz.prog 33 = some none := by kernel_rfl
theorem lenk33 : lenK Tryz.prog 33 = some .sl := by kernel_rfl
theorem slk33 : slK Tryz.prog 33 = some (.sl 1) := by kernel_rfl
theorem els33 : elems Tryz.prog 33 = some (.sl 1) := by kernel_rfl
theorem agg3 : aggSize Tryz.prog 3 = some none := by kernel_rfl
theorem elt33 : sliceElt Tryz.prog 33 = some (⟨1, 8, [(.int .i64 0)], 3⟩ : Elt) := by kernel_rfl
theorem appt33_33 : appT Tryz.prog 33 33 = some (⟨1, 8, [(.int .i64 0)], 3⟩ : Elt) := by kernel_rfl
theorem plan10_1_1_1_1_0_1_0_0_1_0_0 : planOf Tryz.prog (opsC (atC Tryz.prog 10 [1, 1, 1, 1, 0, 1, 0, 0, 1, 0, 0])) = some [.fl 0, .fl 1, .fl 2, .fl 3, .fl 4, .fl 5, .fl 6, .fl 7, .fl 8, .fl 9, .an 10 [0], .an 11 [], .an 12 [], .sync] := by kernel_rfl
theorem agg53 : aggSize Tryz.prog 53 = some (some 2) := by kernel_rfl
abbrev bank_isFrom_post (r : Bool) : SV → Mem → Prop := fun s _ => s = (.bool r)

def bank_isFrom_1 (F : Nat) (v14 : Bool) : Option (Bool) :=
  some v14

theorem bank_isFrom_1_ok (F : Nat) : ∀ (v14 : Bool) (Fr : Rd) (M : Mem) (r : Bool) (hH : Has Fr M []), bank_isFrom_1 F v14 = some r → Run Tryz.prog ⟨⟨98, [], none⟩, []⟩ 15 (bank_isFrom_post r) [(14, (.bool v14))] [itemC Tryz.prog 98 [1, 0] 8, codeC Tryz.prog 98 [1, 1]] M := by
  intro v14 Fr M r hH h
  rw [bank_isFrom_1] at h
  refine Run.opG wantS_none (ex_assign rfl) rfl ?_
  refine Run.opsEnd ?_
  cases h
  exact Run.ret Tryz.func98 rfl (res_tmp rfl res_nil) rfl

def bank_isFrom (F : Nat) (a0 : Int) (a1 : Int) (a2 : Int) : Option (Bool) :=
  bif (decide (a0 ≤ a1)) then
    bank_isFrom_1 F (decide (a1 ≤ a2))
  else
    bank_isFrom_1 F false

theorem bank_isFrom_ok (F : Nat) (a0 : Int) (a1 : Int) (a2 : Int) (r : Bool) (M : Mem) (h : bank_isFrom F a0 a1 a2 = some r) : CallsM Tryz.prog 98 [(.int .i64 a0), (.int .i64 a1), (.int .i64 a2)] M (fun s M' => s = (.bool r) ∧ M' = M) := by
  refine CallsM.plain Tryz.func98 rfl rfl rfl (show Run _ _ _ (bank_isFrom_post r) _ _ _ from ?_)
  rw [bank_isFrom] at h
  have hH := Has.nil (frozen M)
  refine Run.seq (Run.region ?_)
  refine Run.opG wantS_none (ex_assign rfl) rfl ?_
  refine Run.opsEnd (Run.seq (Run.region ?_))
  refine Run.opG wantS_none (ex_move rfl) rfl ?_
  refine Run.opG wantS_none (ex_move rfl) rfl ?_
  refine Run.opG wantS_none (ex_leq rfl rfl) rfl ?_
  refine Run.opG wantS_none (ex_move rfl) rfl ?_
  rcases btf ((decide (a0 ≤ a1))) with hc21 | hc21
  · have h := bif_t hc21 h
    refine Run.opG (wantS_yes' rfl rfl hc21) (ex_move rfl) rfl ?_
    refine Run.opG (wantS_yes' rfl rfl hc21) (ex_move rfl) rfl ?_
    refine Run.opG (wantS_yes' rfl rfl hc21) (ex_leq rfl rfl) rfl ?_
    refine Run.opG wantS_none (ex_pickT' rfl hc21 rfl rfl) rfl ?_
    exact Run.pick [14] (bank_isFrom_1_ok F (decide (a1 ≤ a2)) _ _ _ hH h)
  · have h := bif_f hc21 h
    refine Run.no (wantS_not' rfl rfl hc21) rfl ?_
    refine Run.no (wantS_not' rfl rfl hc21) rfl ?_
    refine Run.no (wantS_not' rfl rfl hc21) rfl ?_
    refine Run.opG wantS_none (ex_pickF' rfl hc21 rfl rfl) rfl ?_
    exact Run.pick [14] (bank_isFrom_1_ok F false _ _ _ hH h)

theorem mkk98 : makeK Tryz.prog 98 = none := by kernel_rfl
theorem cal98 : callable Tryz.prog 98 = true := by kernel_rfl
abbrev bank_isLength_post (r : Bool) : SV → Mem → Prop := fun s _ => s = (.bool r)

def bank_isLength (F : Nat) (a0 : Int) : Option (Bool) :=
  bnd (bank_isFrom F (4 : Int) a0 (64 : Int)) fun r22 =>
  some r22

theorem bank_isLength_ok (F : Nat) (a0 : Int) (r : Bool) (M : Mem) (h : bank_isLength F a0 = some r) : CallsM Tryz.prog 60 [(.int .i64 a0)] M (fun s M' => s = (.bool r) ∧ M' = M) := by
  refine CallsM.plain Tryz.func60 rfl rfl rfl (show Run _ _ _ (bank_isLength_post r) _ _ _ from ?_)
  rw [bank_isLength] at h
  have hH := Has.nil (frozen M)
  refine Run.seq (Run.region ?_)
  refine Run.opG wantS_none (ex_assign rfl) rfl ?_
  refine Run.opsEnd (Run.seq (Run.region ?_))
  refine Run.opG wantS_none (ex_move rfl) rfl ?_
  obtain ⟨r22, hr22, h⟩ := bnd_some h
  refine Run.callP wantS_none (ex_call rfl mkk98 cal98) rfl (bank_isFrom_ok F (4 : Int) a0 (64 : Int) _ _ hr22) ?_
  refine Run.opG wantS_none (ex_assign rfl) rfl ?_
  refine Run.opsEnd ?_
  cases h
  exact Run.ret Tryz.func60 rfl (res_tmp rfl res_nil) rfl

theorem mkk60 : makeK Tryz.prog 60 = none := by kernel_rfl
theorem cal60 : callable Tryz.prog 60 = true := by kernel_rfl
theorem off53_0 : fieldOff Tryz.prog 53 0 = some 0 := by kernel_rfl
abbrev bank_isPhase_post (r : Bool) : SV → Mem → Prop := fun s _ => s = (.bool r)

def bank_isPhase (F : Nat) (a0 : Int) : Option (Bool) :=
  bnd (bank_isFrom F (0 : Int) a0 (63 : Int)) fun r22 =>
  some r22

theorem bank_isPhase_ok (F : Nat) (a0 : Int) (r : Bool) (M : Mem) (h : bank_isPhase F a0 = some r) : CallsM Tryz.prog 181 [(.int .i64 a0)] M (fun s M' => s = (.bool r) ∧ M' = M) := by
  refine CallsM.plain Tryz.func181 rfl rfl rfl (show Run _ _ _ (bank_isPhase_post r) _ _ _ from ?_)
  rw [bank_isPhase] at h
  have hH := Has.nil (frozen M)
  refine Run.seq (Run.region ?_)
  refine Run.opG wantS_none (ex_assign rfl) rfl ?_
  refine Run.opsEnd (Run.seq (Run.region ?_))
  refine Run.opG wantS_none (ex_move rfl) rfl ?_
  obtain ⟨r22, hr22, h⟩ := bnd_some h
  refine Run.callP wantS_none (ex_call rfl mkk98 cal98) rfl (bank_isFrom_ok F (0 : Int) a0 (63 : Int) _ _ hr22) ?_
  refine Run.opG wantS_none (ex_assign rfl) rfl ?_
  refine Run.opsEnd ?_
  cases h
  exact Run.ret Tryz.func181 rfl (res_tmp rfl res_nil) rfl

theorem mkk181 : makeK Tryz.prog 181 = none := by kernel_rfl
theorem cal181 : callable Tryz.prog 181 = true := by kernel_rfl
theorem off53_1 : fieldOff Tryz.prog 53 1 = some 1 := by kernel_rfl
abbrev bank_isChirp_post (r : Bool) : SV → Mem → Prop := fun s _ => s = (.bool r)

def bank_isChirp_1 (F : Nat) (v10 : Bool) : Option (Bool) :=
  some v10

theorem bank_isChirp_1_ok (F : Nat) : ∀ (v10 : Bool) (Fr : Rd) (M : Mem) (r : Bool) (hH : Has Fr M []), bank_isChirp_1 F v10 = some r → Run Tryz.prog ⟨⟨123, [], none⟩, []⟩ 11 (bank_isChirp_post r) [(10, (.bool v10))] [itemC Tryz.prog 123 [1, 0] 8, codeC Tryz.prog 123 [1, 1]] M := by
  intro v10 Fr M r hH h
  rw [bank_isChirp_1] at h
  refine Run.opG wantS_none (ex_assign rfl) rfl ?_
  refine Run.opsEnd ?_
  cases h
  exact Run.ret Tryz.func123 rfl (res_tmp rfl res_nil) rfl

def bank_isChirp (F : Nat) (a0 : S_api_Chirp) : Option (Bool) :=
  bnd (bank_isPhase F a0.P) fun r25 =>
  bif r25 then
    bnd (bank_isPhase F a0.Q) fun r29 =>
    bank_isChirp_1 F r29
  else
    bank_isChirp_1 F false

theorem bank_isChirp_ok (F : Nat) (a0 : S_api_Chirp) (r : Bool) (M : Mem) (h : bank_isChirp F a0 = some r) : CallsM Tryz.prog 123 [(.agg [(.int .i64 a0.P), (.int .i64 a0.Q)])] M (fun s M' => s = (.bool r) ∧ M' = M) := by
  refine CallsM.plain Tryz.func123 rfl rfl rfl (show Run _ _ _ (bank_isChirp_post r) _ _ _ from ?_)
  rw [bank_isChirp] at h
  have hH := Has.nil (frozen M)
  refine Run.seq (Run.region ?_)
  refine Run.opX wantS_none rfl (ExG.box rfl rfl hH) ?_
  rintro _ M23 ⟨b22, rfl, (hH23 : Has (ro (frozen M)) M23 [.obj b22 (.row 53 .whole [(.int .i64 a0.P), (.int .i64 a0.Q)])])⟩
  refine Run.opG wantS_none (ex_assign rfl) rfl ?_
  refine Run.opsEnd (Run.seq (Run.region ?_))
  refine Run.opG wantS_none (ex_fieldAddr rfl off53_0) rfl ?_
  refine Run.opG wantS_none (ex_load1 rfl (hH23.cells (i := 0) rfl 0 rfl) rdLe_rfl agg3) rfl ?_
  obtain ⟨r25, hr25, h⟩ := bnd_some h
  refine Run.callP wantS_none (ex_call rfl mkk181 cal181) rfl (bank_isPhase_ok F a0.P _ _ hr25) ?_
  refine Run.opG wantS_none (ex_move rfl) rfl ?_
  rcases btf (r25) with hc27 | hc27
  · have h := bif_t hc27 h
    refine Run.opG (wantS_yes' rfl rfl hc27) (ex_fieldAddr rfl off53_1) rfl ?_
    refine Run.opG (wantS_yes' rfl rfl hc27) (ex_load1 rfl (hH23.cells (i := 0) rfl 1 rfl) rdLe_rfl agg3) rfl ?_
    obtain ⟨r29, hr29, h⟩ := bnd_some h
    refine Run.callP (wantS_yes' rfl rfl hc27) (ex_call rfl mkk181 cal181) rfl (bank_isPhase_ok F a0.Q _ _ hr29) ?_
    refine Run.opG wantS_none (ex_pickT' rfl hc27 rfl rfl) rfl ?_
    exact Run.pick [10] (bank_isChirp_1_ok F r29 _ _ _ (hH23.pick [] rfl rfl) h)
  · have h := bif_f hc27 h
    refine Run.no (wantS_not' rfl rfl hc27) rfl ?_
    refine Run.no (wantS_not' rfl rfl hc27) rfl ?_
    refine Run.no (wantS_not' rfl rfl hc27) rfl ?_
    refine Run.opG wantS_none (ex_pickF' rfl hc27 rfl rfl) rfl ?_
    exact Run.pick [10] (bank_isChirp_1_ok F false _ _ _ (hH23.pick [] rfl rfl) h)

theorem mkk123 : makeK Tryz.prog 123 = none := by kernel_rfl
theorem cal123 : callable Tryz.prog 123 = true := by kernel_rfl
abbrev bank_CheckChirp_post (r : Int) : SV → Mem → Prop := fun s _ => s = (.int .i64 r)

def bank_CheckChirp_1 (F : Nat) (v12 : Bool) : Option (Int) :=
  bif v12 then
    some (70 : Int)
  else
    some (0 : Int)

theorem bank_CheckChirp_1_ok (F : Nat) : ∀ (v12 : Bool) (Fr : Rd) (M : Mem) (r : Int) (hH : Has Fr M []), bank_CheckChirp_1 F v12 = some r → Run Tryz.prog ⟨⟨85, [], none⟩, []⟩ 13 (bank_CheckChirp_post r) [(12, (.bool v12))] [codeC Tryz.prog 85 [1, 0, 1], codeC Tryz.prog 85 [1, 1]] M := by
  intro v12 Fr M r hH h
  rw [bank_CheckChirp_1] at h
  rcases btf (v12) with hc28 | hc28
  · have h := bif_t hc28 h
    refine Run.condT' rfl hc28 ?_
    refine Run.seq (Run.region ?_)
    refine Run.opG wantS_none (ex_assign rfl) rfl ?_
    refine Run.opsEnd ?_
    cases h
    exact Run.ret Tryz.func85 rfl (res_tmp rfl res_nil) rfl
  · have h := bif_f hc28 h
    refine Run.condF' rfl hc28 ?_
    refine Run.skip (Run.seq (Run.region ?_))
    refine Run.opG wantS_none (ex_assign rfl) rfl ?_
    refine Run.opsEnd ?_
    cases h
    exact Run.ret Tryz.func85 rfl (res_tmp rfl res_nil) rfl

def bank_CheckChirp (F : Nat) (a0 : Int) (a1 : S_api_Chirp) : Option (Int) :=
  bnd (bank_isLength F a0) fun r25 =>
  bif (!r25) then
    bank_CheckChirp_1 F true
  else
    bnd (bank_isChirp F a1) fun r30 =>
    bank_CheckChirp_1 F (!r30)

theorem bank_CheckChirp_ok (F : Nat) (a0 : Int) (a1 : S_api_Chirp) (r : Int) (M : Mem) (h : bank_CheckChirp F a0 a1 = some r) : CallsM Tryz.prog 85 [(.int .i64 a0), (.agg [(.int .i64 a1.P), (.int .i64 a1.Q)])] M (fun s M' => s = (.int .i64 r) ∧ M' = M) := by
  refine CallsM.plain Tryz.func85 rfl rfl rfl (show Run _ _ _ (bank_CheckChirp_post r) _ _ _ from ?_)
  rw [bank_CheckChirp] at h
  have hH := Has.nil (frozen M)
  refine Run.seq (Run.region ?_)
  refine Run.opX wantS_none rfl (ExG.box rfl rfl hH) ?_
  rintro _ M23 ⟨b22, rfl, (hH23 : Has (ro (frozen M)) M23 [.obj b22 (.row 53 .whole [(.int .i64 a1.P), (.int .i64 a1.Q)])])⟩
  refine Run.opG wantS_none (ex_assign rfl) rfl ?_
  refine Run.opsEnd (Run.seq (Run.seq (Run.region ?_)))
  refine Run.opG wantS_none (ex_move rfl) rfl ?_
  obtain ⟨r25, hr25, h⟩ := bnd_some h
  refine Run.callP wantS_none (ex_call rfl mkk60 cal60) rfl (bank_isLength_ok F a0 _ _ hr25) ?_
  refine Run.opG wantS_none (ex_not rfl) rfl ?_
  refine Run.opG wantS_none (ex_move rfl) rfl ?_
  rcases btf ((!r25)) with hc27 | hc27
  · have h := bif_t hc27 h
    refine Run.no (wantS_not' rfl rfl hc27) rfl ?_
    refine Run.no (wantS_not' rfl rfl hc27) rfl ?_
    refine Run.no (wantS_not' rfl rfl hc27) rfl ?_
    refine Run.opG wantS_none (ex_pickT' rfl hc27 rfl rfl) rfl ?_
    refine Run.opsEnd ?_
    exact Run.pick [12] (bank_CheckChirp_1_ok F true _ _ _ (hH23.pick [] rfl rfl) h)
  · have h := bif_f hc27 h
    refine Run.opG (wantS_yes' rfl rfl hc27) (ex_loadA rfl (hH23.cells (i := 0) rfl 0 rfl) rdLe_rfl agg53 rfl rfl rfl) rfl ?_
    obtain ⟨r30, hr30, h⟩ := bnd_some h
    refine Run.callP (wantS_yes' rfl rfl hc27) (ex_call rfl mkk123 cal123) rfl (bank_isChirp_ok F a1 _ _ hr30) ?_
    refine Run.opG (wantS_yes' rfl rfl hc27) (ex_not rfl) rfl ?_
    refine Run.opG wantS_none (ex_pickF' rfl hc27 rfl rfl) rfl ?_
    refine Run.opsEnd ?_
    exact Run.pick [12] (bank_CheckChirp_1_ok F (!r30) _ _ _ (hH23.pick [] rfl rfl) h)

theorem mkk85 : makeK Tryz.prog 85 = none := by kernel_rfl
theorem cal85 : callable Tryz.prog 85 = true := by kernel_rfl
theorem mkk148 : makeK Tryz.prog 148 = none := by kernel_rfl
theorem cal148 : callable Tryz.prog 148 = true := by kernel_rfl
theorem mkk207 : makeK Tryz.prog 207 = none := by kernel_rfl
theorem cal207 : callable Tryz.prog 207 = true := by kernel_rfl
theorem mkk147 : makeK Tryz.prog 147 = none := by kernel_rfl
theorem cal147 : callable Tryz.prog 147 = true := by kernel_rfl
abbrev bank_areData_post (r : Bool) : SV → Mem → Prop := fun s _ => s = (.bool r)

def bank_areData_2 (F : Nat) (v12 : Bool) : Option (Bool) :=
  some v12

theorem bank_areData_2_ok (F : Nat) : ∀ (v12 : Bool) (Fr : Rd) (M : Mem) (r : Bool) (hH : Has Fr M []), bank_areData_2 F v12 = some r → Run Tryz.prog ⟨⟨86, [], none⟩, []⟩ 13 (bank_areData_post r) [(12, (.bool v12))] [itemC Tryz.prog 86 [1, 1, 0] 9, codeC Tryz.prog 86 [1, 1, 1]] M := by
  intro v12 Fr M r hH h
  rw [bank_areData_2] at h
  refine Run.opG wantS_none (ex_assign rfl) rfl ?_
  refine Run.opsEnd ?_
  cases h
  exact Run.ret Tryz.func86 rfl (res_tmp rfl res_nil) rfl

def bank_areData_1 (F : Nat) : Nat → (List Int) → Int → Int → Bool → Option (Bool)
  | 0, _, _, _, _ => none
  | N + 1, v0, v7, v8, v7_f2 =>
    bif (decide (v8 < v7)) then
      bnd (idx v0 v8) fun x24 =>
      bnd (bank_isFrom F ((-32768) : Int) x24 (32768 : Int)) fun r26 =>
      bif (!r26) then
        bif v7_f2 then
          bank_areData_2 F (!(decide ((0 : Int) ≤ v8)))
        else
          bank_areData_2 F false
      else
        (bank_areData_1 F N) v0 v7 (w64 (v8 + (1 : Int))) v7_f2
    else
      bif v7_f2 then
        bank_areData_2 F (!(decide ((0 : Int) ≤ ((-1) : Int))))
      else
        bank_areData_2 F false

theorem bank_areData_1_ok (F : Nat) : ∀ (N : Nat), ∀ (v0 : (List Int)) (v7 : Int) (v8 : Int) (v7_f2 : Bool) (sv0 : SV) (Fr : Rd) (M : Mem) (r : Bool) (hv0 : Slc Fr 1 (FlatR enc3) sv0 v0) (hH : Has Fr M []), bank_areData_1 F N v0 v7 v8 v7_f2 = some r → Run Tryz.prog ⟨⟨207, [], none⟩, [.mk ⟨148, [], none⟩ 9 (treeOf []) [itemC Tryz.prog 148 [1, 0] 2, codeC Tryz.prog 148 [1, 1]], .mk ⟨86, [], none⟩ 13 (treeOf [(7, (.bool v7_f2))]) [itemC Tryz.prog 86 [1, 1, 0] 6, codeC Tryz.prog 86 [1, 1, 1]]]⟩ 19 (bank_areData_post r) [(0, sv0), (1, (.fn (.func 147) [] [])), (7, (.int .i64 v7)), (8, (.int .i64 v8))] [codeC Tryz.prog 207 [1, 0, 1, 0, 0], loopC Tryz.prog 207 [1, 0, 1, 0, 0], .inBlock 0, codeC Tryz.prog 207 [1, 1]] M := by
  intro N
  induction N with
  | zero =>
    intro v0 v7 v8 v7_f2 sv0 Fr M r hv0 hH h
    simp [bank_areData_1] at h
  | succ N ih =>
    intro v0 v7 v8 v7_f2 sv0 Fr M r hv0 hH h
    rw [bank_areData_1] at h
    refine Run.seq (Run.region ?_)
    refine Run.opG wantS_none (ex_lss rfl rfl) rfl ?_
    refine Run.opsEnd (Run.seq ?_)
    rcases btf ((decide (v8 < v7))) with hc22 | hc22
    · have h := bif_t hc22 h
      refine Run.condT' rfl hc22 ?_
      refine Run.skip (Run.seq (Run.block (Run.seq (Run.region ?_))))
      refine Run.opG wantS_none (ex_move rfl) rfl ?_
      refine Run.opG wantS_none (ex_assign rfl) rfl ?_
      refine Run.opsEnd (Run.seq (Run.region ?_))
      refine Run.opG wantS_none (ex_move rfl) rfl ?_
      refine Run.opG wantS_none (ex_move rfl) rfl ?_
      refine Run.opG wantS_none (ex_move rfl) rfl ?_
      obtain ⟨x24, hx24, h⟩ := bnd_some h
      obtain ⟨p24, o24, _, hx24, hp24, rfl⟩ := sl_elem (P := Tryz.prog) (t := 33) (kk := .i64) hv0 hx24 els33
      refine Run.opG wantS_none (ex_elX rfl rfl hx24) rfl ?_
      refine Run.opG wantS_none (ex_load1 rfl (hH.ptrF hp24) rdLe_rfl agg3) rfl ?_
      refine Run.enter wantS_none (ex_closure rfl rfl mkk147 cal147) Tryz.func147 rfl rfl ?_
      refine Run.seq (Run.region ?_)
      refine Run.opG wantS_none (ex_assign rfl) rfl ?_
      refine Run.opsEnd (Run.seq (Run.region ?_))
      refine Run.opG wantS_none (ex_move rfl) rfl ?_
      obtain ⟨r26, hr26, h⟩ := bnd_some h
      refine Run.callP wantS_none (ex_call rfl mkk98 cal98) rfl (bank_isFrom_ok F ((-32768) : Int) x24 (32768 : Int) _ _ hr26) ?_
      refine Run.opG wantS_none (ex_not rfl) rfl ?_
      refine Run.opG wantS_none (ex_assign rfl) rfl ?_
      refine Run.opsEnd ?_
      refine Run.retTo Tryz.func147 rfl (res_tmp rfl res_nil) rfl ?_
      refine Run.opsEnd ?_
      rcases btf ((!r26)) with hc28 | hc28
      · have h := bif_t hc28 h
        refine Run.condT' rfl hc28 ?_
        refine Run.seq (Run.region ?_)
        refine Run.opG wantS_none (ex_move rfl) rfl ?_
        refine Run.opG wantS_none (ex_assign rfl) rfl ?_
        refine Run.opsEnd ?_
        refine Run.retTo Tryz.func207 rfl (res_tmp rfl res_nil) rfl ?_
        refine Run.opG wantS_none (ex_geq rfl rfl) rfl ?_
        refine Run.opG wantS_none (ex_assign rfl) rfl ?_
        refine Run.opsEnd ?_
        refine Run.retTo Tryz.func148 rfl (res_tmp rfl res_nil) rfl ?_
        rcases btf (v7_f2) with hc29 | hc29
        · have h := bif_t hc29 h
          refine Run.opG (wantS_yes' rfl rfl hc29) (ex_not rfl) rfl ?_
          refine Run.opG wantS_none (ex_pickT' rfl hc29 rfl rfl) rfl ?_
          exact Run.pick [12] (bank_areData_2_ok F (!(decide ((0 : Int) ≤ v8))) _ _ _ hH h)
        · have h := bif_f hc29 h
          refine Run.no (wantS_not' rfl rfl hc29) rfl ?_
          refine Run.opG wantS_none (ex_pickF' rfl hc29 rfl rfl) rfl ?_
          exact Run.pick [12] (bank_areData_2_ok F false _ _ _ hH h)
      · have h := bif_f hc28 h
        refine Run.condF' rfl hc28 ?_
        refine Run.skip (Run.inBlock (Run.region ?_))
        refine Run.opG wantS_none (ex_add rfl rfl) rfl ?_
        refine Run.opG wantS_none (ex_move rfl) rfl ?_
        refine Run.opsEnd (Run.inLoop ?_)
        exact Run.low (.cons (fle_pick [] rfl) (.cons (fle_pick [7] rfl) .nil)) (Run.pick [0, 1, 7, 8] (ih v0 v7 (w64 (v8 + (1 : Int))) v7_f2 sv0 _ _ _ hv0 hH h))
    · have h := bif_f hc22 h
      refine Run.condF' rfl hc22 ?_
      refine Run.exit rfl (Run.seq (Run.region ?_))
      refine Run.opG wantS_none (ex_assign rfl) rfl ?_
      refine Run.opsEnd ?_
      refine Run.retTo Tryz.func207 rfl (res_tmp rfl res_nil) rfl ?_
      refine Run.opG wantS_none (ex_geq rfl rfl) rfl ?_
      refine Run.opG wantS_none (ex_assign rfl) rfl ?_
      refine Run.opsEnd ?_
      refine Run.retTo Tryz.func148 rfl (res_tmp rfl res_nil) rfl ?_
      rcases btf (v7_f2) with hc30 | hc30
      · have h := bif_t hc30 h
        refine Run.opG (wantS_yes' rfl rfl hc30) (ex_not rfl) rfl ?_
        refine Run.opG wantS_none (ex_pickT' rfl hc30 rfl rfl) rfl ?_
        exact Run.pick [12] (bank_areData_2_ok F (!(decide ((0 : Int) ≤ ((-1) : Int)))) _ _ _ hH h)
      · have h := bif_f hc30 h
        refine Run.no (wantS_not' rfl rfl hc30) rfl ?_
        refine Run.opG wantS_none (ex_pickF' rfl hc30 rfl rfl) rfl ?_
        exact Run.pick [12] (bank_areData_2_ok F false _ _ _ hH h)

def bank_areData (F : Nat) (a0 : (List Int)) : Option (Bool) :=
  bif (decide ((a0.length : Int) ≤ (512 : Int))) then
    bank_areData_1 F F a0 (a0.length : Int) (0 : Int) (decide ((a0.length : Int) ≤ (512 : Int)))
  else
    bank_areData_2 F false

theorem bank_areData_ok (F : Nat) (a0 : (List Int)) (s0 : SV) (r : Bool) (M : Mem) (hs0 : Slc (rd M) 1 (FlatR enc3) s0 a0) (h : bank_areData F a0 = some r) : CallsM Tryz.prog 86 [s0] M (fun s M' => s = (.bool r) ∧ M' = M) := by
  refine CallsM.plain Tryz.func86 rfl rfl rfl (show Run _ _ _ (bank_areData_post r) _ _ _ from ?_)
  rw [bank_areData] at h
  replace hs0 := hs0.mono (rdLe_frozen M) (fun _ _ h => h)
  have hH := Has.nil (frozen M)
  refine Run.seq (Run.region ?_)
  refine Run.opG wantS_none (ex_assign rfl) rfl ?_
  refine Run.opsEnd (Run.seq (Run.region ?_))
  refine Run.opG wantS_none (ex_assign rfl) rfl ?_
  refine Run.opsEnd (Run.seq (Run.region ?_))
  refine Run.opG wantS_none (ex_move rfl) rfl ?_
  refine Run.opG wantS_none (ex_len' rfl hs0 lenk33) rfl ?_
  refine Run.opG wantS_none (ex_leq rfl rfl) rfl ?_
  refine Run.opG wantS_none (ex_move rfl) rfl ?_
  rcases btf ((decide ((a0.length : Int) ≤ (512 : Int)))) with hc21 | hc21
  · have h := bif_t hc21 h
    refine Run.opG (wantS_yes' rfl rfl hc21) (ex_move rfl) rfl ?_
    refine Run.opG (wantS_yes' rfl rfl hc21) (ex_move rfl) rfl ?_
    refine Run.enter (wantS_yes' rfl rfl hc21) (ex_call rfl mkk148 cal148) Tryz.func148 rfl rfl ?_
    refine Run.seq (Run.region ?_)
    refine Run.opG wantS_none (ex_assign rfl) rfl ?_
    refine Run.opsEnd (Run.seq (Run.region ?_))
    refine Run.opG wantS_none (ex_move rfl) rfl ?_
    refine Run.opG wantS_none (ex_move rfl) rfl ?_
    refine Run.enter wantS_none (ex_call rfl mkk207 cal207) Tryz.func207 rfl rfl ?_
    refine Run.seq (Run.region ?_)
    refine Run.opG wantS_none (ex_assign rfl) rfl ?_
    refine Run.opsEnd (Run.seq (Run.seq (Run.region ?_)))
    refine Run.opG wantS_none (ex_move rfl) rfl ?_
    refine Run.opG wantS_none (ex_len' rfl hs0 lenk33) rfl ?_
    refine Run.opG wantS_none (ex_move rfl) rfl ?_
    refine Run.opsEnd (Run.block (Run.loop ?_))
    exact Run.low (.cons (fle_pick [] rfl) (.cons (fle_pick [7] rfl) .nil)) (Run.pick [0, 1, 7, 8] (bank_areData_1_ok F F a0 (a0.length : Int) (0 : Int) (decide ((a0.length : Int) ≤ (512 : Int))) s0 _ _ _ hs0 hH h))
  · have h := bif_f hc21 h
    refine Run.no (wantS_not' rfl rfl hc21) rfl ?_
    refine Run.no (wantS_not' rfl rfl hc21) rfl ?_
    refine Run.no (wantS_not' rfl rfl hc21) rfl ?_
    refine Run.no (wantS_not' rfl rfl hc21) rfl ?_
    refine Run.opG wantS_none (ex_pickF' rfl hc21 rfl rfl) rfl ?_
    exact Run.pick [12] (bank_areData_2_ok F false _ _ _ hH h)

theorem mkk86 : makeK Tryz.prog 86 = none := by kernel_rfl
theorem cal86 : callable Tryz.prog 86 = true := by kernel_rfl
theorem zer33 : zerosOf Tryz.prog 33 = some [.nils] := by kernel_rfl
theorem mkk88 : makeK Tryz.prog 88 = none := by kernel_rfl
theorem cal88 : callable Tryz.prog 88 = true := by kernel_rfl
theorem zer188 : zerosOf Tryz.prog 188 = some [(.int .i64 0), (.int .i64 0), (.int .i64 0), (.int .i64 0), (.int .i64 0), (.int .i64 0), (.int .i64 0), (.int .i64 0), (.int .i64 0), (.int .i64 0), (.int .i64 0), (.int .i64 0), (.int .i64 0), (.int .i64 0), (.int .i64 0), (.int .i64 0), (.int .i64 0), (.int .i64 0), (.int .i64 0), (.int .i64 0), (.int .i64 0), (.int .i64 0), (.int .i64 0), (.int .i64 0), (.int .i64 0), (.int .i64 0), (.int .i64 0), (.int .i64 0), (.int .i64 0), (.int .i64 0), (.int .i64 0), (.int .i64 0), (.int .i64 0), (.int .i64 0), (.int .i64 0), (.int .i64 0), (.int .i64 0), (.int .i64 0), (.int .i64 0), (.int .i64 0), (.int .i64 0), (.int .i64 0), (.int .i64 0), (.int .i64 0), (.int .i64 0), (.int .i64 0), (.int .i64 0), (.int .i64 0), (.int .i64 0), (.int .i64 0), (.int .i64 0), (.int .i64 0), (.int .i64 0), (.int .i64 0), (.int .i64 0), (.int .i64 0), (.int .i64 0), (.int .i64 0), (.int .i64 0), (.int .i64 0), (.int .i64 0), (.int .i64 0), (.int .i64 0), (.int .i64 0), (.int .i64 0), (.int .i64 0)] := by kernel_rfl
theorem pls188 : placesOf Tryz.prog 188 = some (.st [(0, 64), (64, 1), (65, 1)]) := by kernel_rfl
theorem off188_0 : fieldOff Tryz.prog 188 0 = some 0 := by kernel_rfl
theorem mkk151 : makeK Tryz.prog 151 = none := by kernel_rfl
theorem cal151 : callable Tryz.prog 151 = true := by kernel_rfl
def tab3 : List Int := [0, 12, 25, 37, 49, 60, 71, 81, 90, 98, 106, 112, 117, 122, 125, 126, 127]
theorem els282 : elems Tryz.prog 282 = some (.arr 17 1) := by kernel_rfl
abbrev bank_table_post (r : Int) : SV → Mem → Prop := fun s _ => s = (.int .i64 r)

def bank_table : Nat → Int → Option (Int)
  | 0, _ => none
  | F + 1, a0 =>
    bif (decide ((32 : Int) ≤ a0)) then
      bnd ((bank_table F) (w64 (a0 - (32 : Int)))) fun r27 =>
      some (w64 (-r27))
    else
      bif (decide ((w64 (Int.tdiv (32 : Int) (2 : Int))) < a0)) then
        bnd (inA (w64 ((32 : Int) - a0)) 17) fun o31 =>
        bnd (tab3[o31]?) fun x31 =>
        some x31
      else
        bnd (inA a0 17) fun o33 =>
        bnd (tab3[o33]?) fun x33 =>
        some x33

theorem bank_table_ok : ∀ (F : Nat), ∀ (a0 : Int) (r : Int) (M : Mem) (hfx : FixIn M fixes) (h : bank_table F a0 = some r), CallsM Tryz.prog 151 [(.int .i64 a0)] M (fun s M' => s = (.int .i64 r) ∧ M' = M) := by
  intro F
  induction F with
  | zero =>
    intro a0 r M hfx h
    simp [bank_table] at h
  | succ F ih =>
    intro a0 r M hfx h
    refine CallsM.plain Tryz.func151 rfl rfl rfl (show Run _ _ _ (bank_table_post r) _ _ _ from ?_)
    rw [bank_table] at h
    have hH : Has (ro (frozen M)) (frozen M) [tb0, tb1, tb2, tb3] := Has.ofFix hfx.frozen
    refine Run.seq (Run.region ?_)
    refine Run.opG wantS_none (ex_assign rfl) rfl ?_
    refine Run.opsEnd (Run.seq (Run.region ?_))
    refine Run.opG wantS_none (ex_assign rfl) rfl ?_
    refine Run.opsEnd (Run.seq (Run.block (Run.seq (Run.region ?_))))
    refine Run.opG wantS_none (ex_move rfl) rfl ?_
    refine Run.opG wantS_none (ex_move rfl) rfl ?_
    refine Run.opG wantS_none (ex_geq rfl rfl) rfl ?_
    refine Run.opG wantS_none (ex_assign rfl) rfl ?_
    refine Run.opsEnd ?_
    rcases btf ((decide ((32 : Int) ≤ a0))) with hc25 | hc25
    · have h := bif_t hc25 h
      refine Run.condT' rfl hc25 ?_
      refine Run.seq (Run.region ?_)
      refine Run.opG wantS_none (ex_move rfl) rfl ?_
      refine Run.opG wantS_none (ex_move rfl) rfl ?_
      refine Run.opG wantS_none (ex_sub rfl rfl) rfl ?_
      obtain ⟨r27, hr27, h⟩ := bnd_some h
      refine Run.callP wantS_none (ex_call rfl mkk151 cal151) rfl (ih (w64 (a0 - (32 : Int))) _ _ (fixH hH (List.mem_of_getElem? (i := 0) rfl) (List.mem_of_getElem? (i := 1) rfl) (List.mem_of_getElem? (i := 2) rfl) (List.mem_of_getElem? (i := 3) rfl)) hr27) ?_
      refine Run.opG wantS_none (ex_neg rfl) rfl ?_
      refine Run.opG wantS_none (ex_assign rfl) rfl ?_
      refine Run.opsEnd ?_
      cases h
      exact Run.ret Tryz.func151 rfl (res_tmp rfl res_nil) rfl
    · have h := bif_f hc25 h
      refine Run.condF' rfl hc25 ?_
      refine Run.seq (Run.region ?_)
      refine Run.opG wantS_none (ex_move rfl) rfl ?_
      refine Run.opG wantS_none (ex_move rfl) rfl ?_
      refine Run.opG wantS_none (ex_quo rfl rfl (by decide)) rfl ?_
      refine Run.opG wantS_none (ex_gtr rfl rfl) rfl ?_
      refine Run.opG wantS_none (ex_assign rfl) rfl ?_
      refine Run.opsEnd ?_
      rcases btf ((decide ((w64 (Int.tdiv (32 : Int) (2 : Int))) < a0))) with hc29 | hc29
      · have h := bif_t hc29 h
        refine Run.condT' rfl hc29 ?_
        refine Run.seq (Run.region ?_)
        refine Run.opG wantS_none (ex_move rfl) rfl ?_
        refine Run.opG wantS_none (ex_move rfl) rfl ?_
        refine Run.opG wantS_none (ex_sub rfl rfl) rfl ?_
        obtain ⟨o31, ho31, h⟩ := bnd_some h
        obtain ⟨x31, hx31, h⟩ := bnd_some h
        refine Run.opG wantS_none (ex_elG (c := intCells .i64 tab3) hH (i := 3) rfl rfl (inA_natIn ho31) els282) rfl ?_
        refine Run.opG wantS_none (ex_load1 rfl (fix_at (zs := tab3) hH (i := 3) rfl hx31) rdLe_rfl agg3) rfl ?_
        refine Run.opG wantS_none (ex_assign rfl) rfl ?_
        refine Run.opsEnd ?_
        cases h
        exact Run.ret Tryz.func151 rfl (res_tmp rfl res_nil) rfl
      · have h := bif_f hc29 h
        refine Run.condF' rfl hc29 ?_
        refine Run.skip (Run.inBlock (Run.seq (Run.region ?_)))
        refine Run.opG wantS_none (ex_move rfl) rfl ?_
        obtain ⟨o33, ho33, h⟩ := bnd_some h
        obtain ⟨x33, hx33, h⟩ := bnd_some h
        refine Run.opG wantS_none (ex_elG (c := intCells .i64 tab3) hH (i := 3) rfl rfl (inA_natIn ho33) els282) rfl ?_
        refine Run.opG wantS_none (ex_load1 rfl (fix_at (zs := tab3) hH (i := 3) rfl hx33) rdLe_rfl agg3) rfl ?_
        refine Run.opG wantS_none (ex_assign rfl) rfl ?_
        refine Run.opsEnd ?_
        cases h
        exact Run.ret Tryz.func151 rfl (res_tmp rfl res_nil) rfl

theorem els186 : elems Tryz.prog 186 = some (.arr 64 1) := by kernel_rfl
theorem sz3 : szOf Tryz.prog 3 = some 1 := by kernel_rfl
theorem plan88_1_1_0_1_0_0_1_1_0_0_1 : planOf Tryz.prog (opsC (atC Tryz.prog 88 [1, 1, 0, 1, 0, 0, 1, 1, 0, 0, 1])) = some [.fl 0, .fl 1, .fl 2, .fl 3, .fl 4, .fl 5, .fl 6, .fl 7, .fl 8, .fl 9, .fl 10, .fl 11, .fl 12, .fl 13, .fl 15, .fl 16, .an 14 [16, 15, 1, 0], .fl 17, .an 18 [], .sync] := by kernel_rfl
theorem off188_1 : fieldOff Tryz.prog 188 1 = some 64 := by kernel_rfl
theorem slk186 : slK Tryz.prog 186 = some (.arr 64 1) := by kernel_rfl
theorem plan112_1_0 : planOf Tryz.prog (opsC (atC Tryz.prog 112 [1, 0])) = some [.fl 0, .fl 1, .fl 2, .fl 3, .fl 4, .fl 5, .fl 6, .fl 7, .fl 8, .sync] := by kernel_rfl
abbrev bank_wave_samples_post (b : Pos) (r : List Int) : SV → Mem → Prop := fun s _ => s = .slice b 0 r.length 64

def bank_wave_samples (F : Nat) (l : List Int) : Option (List Int) :=
  bnd (l[(64 : Nat)]?) fun x21 =>
  bnd (cutA 64 l 0 x21) fun l22 =>
  some l22

theorem bank_wave_samples_ok (F : Nat) {l r : List Int} {b : Pos} {Fr : Rd} {H : List Ent} {i : Nat} {M : Mem} (hH0 : Has Fr M H) (hi : H[i]? = some (.obj b (.row 188 .whole (l.flatMap enc3)))) (h : bank_wave_samples F l = some r) : CallsM Tryz.prog 112 [.ptr b 0] M (fun s M' => s = .slice b 0 r.length 64 ∧ M' = M) := by
  have hl : ∀ {j : Nat} {a : Int}, l[j]? = some a → PtrTo (ro (frozen M)) (.ptr b j) (enc3 a) := fun h => (hH0.arrRd hi h enc3_len).mono (rdLe_frozen M)
  refine CallsM.sliceOf Tryz.func112 rfl rfl (hH0.get hi).1.lt (show Run _ _ _ (bank_wave_samples_post b r) _ _ _ from ?_)
  rw [bank_wave_samples] at h
  have hH := Has.nil (frozen M)
  refine Run.seq (Run.region ?_)
  refine Run.opG wantS_none (ex_assign rfl) rfl ?_
  refine Run.opsEnd (Run.seq ?_)
  refine Run.drawG plan112_1_0 ?_
  refine DrawG.fl rfl (ev_ex wantS_none (ex_move rfl)) rfl ?_
  refine DrawG.fl rfl (ev_ex wantS_none (ex_nilP rfl)) rfl ?_
  refine DrawG.fl rfl (ev_ex wantS_none (ex_fieldAddr rfl off188_0)) rfl ?_
  refine DrawG.fl rfl (ev_ex wantS_none (ex_move rfl)) rfl ?_
  refine DrawG.fl rfl (ev_ex wantS_none (ex_nilP rfl)) rfl ?_
  refine DrawG.fl rfl (ev_ex wantS_none (ex_fieldAddr rfl off188_1)) rfl ?_
  obtain ⟨x21, hx21, h⟩ := bnd_some h
  refine DrawG.fl rfl (ev_ex wantS_none (ex_load1 rfl (hH.ptrF (hl hx21)) rdLe_rfl agg3)) rfl ?_
  obtain ⟨l22, hl22, h⟩ := bnd_some h
  refine DrawG.fl rfl (ev_ex wantS_none (ex_slX rfl argO_none (argO_some rfl) (arr_cutV hl22 slk186))) rfl ?_
  refine DrawG.fl rfl (ev_ex wantS_none (ex_assign rfl)) rfl ?_
  refine DrawG.sync ?_
  refine DrawG.nil ?_
  cases h
  exact Run.ret Tryz.func112 rfl (res_tmp rfl res_nil) rfl

theorem bank_wave_samples_slc (F : Nat) {l r : List Int} {b : Pos} {Fr : Rd} {H : List Ent} {i : Nat} {M : Mem} (hH0 : Has Fr M H) (hi : H[i]? = some (.obj b (.row 188 .whole (l.flatMap enc3)))) (h : bank_wave_samples F l = some r) : Slc (rd M) 1 (FlatR enc3) (.slice b 0 r.length 64) r := by
  rw [bank_wave_samples] at h
  obtain ⟨_, _, h⟩ := bnd_some h
  obtain ⟨_, h1, h⟩ := bnd_some h
  cases h
  exact arr_slcH hH0 hi h1 enc3_len

theorem mkk112 : makeK Tryz.prog 112 = none := by kernel_rfl
theorem cal112 : callable Tryz.prog 112 = true := by kernel_rfl
theorem plan152_1_1_0 : planOf Tryz.prog (opsC (atC Tryz.prog 152 [1, 1, 0])) = some [.fl 0, .fl 1, .fl 2, .fl 3, .fl 4, .fl 5, .an 6 [5, 4, 3], .an 7 [], .sync] := by kernel_rfl
abbrev bank_product_post (r : Int) : SV → Mem → Prop := fun s _ => s = (.int .i64 r)

def bank_product_1 (F : Nat) : Nat → (List Int) → Int → (List Int) → Int → Int → Option (Int)
  | 0, _, _, _, _, _ => none
  | N + 1, v1, v6, v20, v21, v22 =>
    bif (decide (v22 < v21)) then
      bnd (idx v20 v22) fun x25 =>
      bnd (idx v1 v22) fun x27 =>
      (bank_product_1 F N) v1 (w64 (v6 + (w64 (x25 * x27)))) v20 v21 (w64 (v22 + (1 : Int)))
    else
      some v6

theorem bank_product_1_ok (F : Nat) : ∀ (N : Nat), ∀ (v1 : (List Int)) (v6 : Int) (v20 : (List Int)) (v21 : Int) (v22 : Int) (sv1 : SV) (sv20 : SV) (Fr : Rd) (M : Mem) (r : Int) (hv1 : Slc Fr 1 (FlatR enc3) sv1 v1) (hv20 : Slc Fr 1 (FlatR enc3) sv20 v20) (hH : Has Fr M []), bank_product_1 F N v1 v6 v20 v21 v22 = some r → Run Tryz.prog ⟨⟨152, [], none⟩, []⟩ 37 (bank_product_post r) [(1, sv1), (6, (.int .i64 v6)), (20, sv20), (21, (.int .i64 v21)), (22, (.int .i64 v22))] [codeC Tryz.prog 152 [1, 1, 1, 1, 0, 1, 0, 0], loopC Tryz.prog 152 [1, 1, 1, 1, 0, 1, 0, 0], .inBlock 0, codeC Tryz.prog 152 [1, 1, 1, 1, 1]] M := by
  intro N
  induction N with
  | zero =>
    intro v1 v6 v20 v21 v22 sv1 sv20 Fr M r hv1 hv20 hH h
    simp [bank_product_1] at h
  | succ N ih =>
    intro v1 v6 v20 v21 v22 sv1 sv20 Fr M r hv1 hv20 hH h
    rw [bank_product_1] at h
    refine Run.seq (Run.region ?_)
    refine Run.opG wantS_none (ex_lss rfl rfl) rfl ?_
    refine Run.opsEnd (Run.seq ?_)
    rcases btf ((decide (v22 < v21))) with hc23 | hc23
    · have h := bif_t hc23 h
      refine Run.condT' rfl hc23 ?_
      refine Run.skip (Run.seq (Run.block (Run.seq (Run.region ?_))))
      refine Run.opG wantS_none (ex_move rfl) rfl ?_
      obtain ⟨x25, hx25, h⟩ := bnd_some h
      obtain ⟨p25, o25, _, hx25, hp25, rfl⟩ := sl_elem (P := Tryz.prog) (t := 33) (kk := .i64) hv20 hx25 els33
      refine Run.opG wantS_none (ex_elX rfl rfl hx25) rfl ?_
      refine Run.opG wantS_none (ex_load1 rfl (hH.ptrF hp25) rdLe_rfl agg3) rfl ?_
      refine Run.opG wantS_none (ex_assign rfl) rfl ?_
      refine Run.opG wantS_none (ex_assign rfl) rfl ?_
      refine Run.opsEnd (Run.region ?_)
      refine Run.opG wantS_none (ex_move rfl) rfl ?_
      refine Run.opG wantS_none (ex_move rfl) rfl ?_
      refine Run.opG wantS_none (ex_move rfl) rfl ?_
      refine Run.opG wantS_none (ex_move rfl) rfl ?_
      obtain ⟨x27, hx27, h⟩ := bnd_some h
      obtain ⟨p27, o27, _, hx27, hp27, rfl⟩ := sl_elem (P := Tryz.prog) (t := 33) (kk := .i64) hv1 hx27 els33
      refine Run.opG wantS_none (ex_elX rfl rfl hx27) rfl ?_
      refine Run.opG wantS_none (ex_load1 rfl (hH.ptrF hp27) rdLe_rfl agg3) rfl ?_
      refine Run.opG wantS_none (ex_mul rfl rfl) rfl ?_
      refine Run.opG wantS_none (ex_add rfl rfl) rfl ?_
      refine Run.opG wantS_none (ex_assign rfl) rfl ?_
      refine Run.opsEnd (Run.inBlock (Run.region ?_))
      refine Run.opG wantS_none (ex_add rfl rfl) rfl ?_
      refine Run.opG wantS_none (ex_move rfl) rfl ?_
      refine Run.opsEnd (Run.inLoop ?_)
      exact Run.pick [1, 6, 20, 21, 22] (ih v1 (w64 (v6 + (w64 (x25 * x27)))) v20 v21 (w64 (v22 + (1 : Int))) sv1 sv20 _ _ _ hv1 hv20 hH h)
    · have h := bif_f hc23 h
      refine Run.condF' rfl hc23 ?_
      refine Run.exit rfl (Run.seq (Run.region ?_))
      refine Run.opG wantS_none (ex_move rfl) rfl ?_
      refine Run.opG wantS_none (ex_assign rfl) rfl ?_
      refine Run.opsEnd ?_
      cases h
      exact Run.ret Tryz.func152 rfl (res_tmp rfl res_nil) rfl

def bank_product (F : Nat) (a0 : (List Int)) (a1 : (List Int)) : Option (Int) :=
  bnd (sub a0 0 (min (a0.length : Int) (a1.length : Int))) fun l21 =>
  bnd (sub a1 0 (min (a0.length : Int) (a1.length : Int))) fun l22 =>
  bank_product_1 F F l22 (0 : Int) l21 (l21.length : Int) (0 : Int)

theorem bank_product_ok (F : Nat) (a0 : (List Int)) (a1 : (List Int)) (s0 s1 : SV) (r : Int) (M : Mem) (hs0 : Slc (rd M) 1 (FlatR enc3) s0 a0) (hs1 : Slc (rd M) 1 (FlatR enc3) s1 a1) (h : bank_product F a0 a1 = some r) : CallsM Tryz.prog 152 [s0, s1] M (fun s M' => s = (.int .i64 r) ∧ M' = M) := by
  refine CallsM.plain Tryz.func152 rfl rfl rfl (show Run _ _ _ (bank_product_post r) _ _ _ from ?_)
  rw [bank_product] at h
  replace hs0 := hs0.mono (rdLe_frozen M) (fun _ _ h => h)
  replace hs1 := hs1.mono (rdLe_frozen M) (fun _ _ h => h)
  have hH := Has.nil (frozen M)
  refine Run.seq (Run.region ?_)
  refine Run.opG wantS_none (ex_assign rfl) rfl ?_
  refine Run.opsEnd (Run.seq (Run.region ?_))
  refine Run.opG wantS_none (ex_move rfl) rfl ?_
  refine Run.opG wantS_none (ex_len' rfl hs0 lenk33) rfl ?_
  refine Run.opG wantS_none (ex_move rfl) rfl ?_
  refine Run.opG wantS_none (ex_len' rfl hs1 lenk33) rfl ?_
  refine Run.opG wantS_none (ex_min rfl rfl) rfl ?_
  refine Run.opG wantS_none (ex_assign rfl) rfl ?_
  refine Run.opsEnd (Run.seq ?_)
  refine Run.drawG plan152_1_1_0 ?_
  refine DrawG.fl rfl (ev_ex wantS_none (ex_move rfl)) rfl ?_
  refine DrawG.fl rfl (ev_ex wantS_none (ex_move rfl)) rfl ?_
  obtain ⟨l21, hl21, h⟩ := bnd_some h
  obtain ⟨s21, hx21, hs21⟩ := sl_subH (P := Tryz.prog) (t := 33) (k0 := .i64) hs0 hl21 slk33
  refine DrawG.fl rfl (ev_ex wantS_none (ex_slX rfl (argO_none) (argO_some rfl) hx21)) rfl ?_
  refine DrawG.fl rfl (ev_ex wantS_none (ex_move rfl)) rfl ?_
  refine DrawG.fl rfl (ev_ex wantS_none (ex_move rfl)) rfl ?_
  obtain ⟨l22, hl22, h⟩ := bnd_some h
  obtain ⟨s22, hx22, hs22⟩ := sl_subH (P := Tryz.prog) (t := 33) (k0 := .i64) hs1 hl22 slk33
  refine DrawG.fl rfl (ev_ex wantS_none (ex_slX rfl (argO_none) (argO_some rfl) hx22)) rfl ?_
  refine DrawG.val rfl wantS_none (ex_assign rfl) rfl (st_cons rfl (ev_ex wantS_none (ex_slX rfl (argO_none) (argO_some rfl) hx22)) rfl rfl (slc_self hs22) (st_cons rfl (ev_ex wantS_none (ex_move rfl)) rfl rfl rfl (st_cons rfl (ev_ex wantS_none (ex_move rfl)) rfl rfl (slc_self hs1) st_nil))) ?_
  refine DrawG.val rfl wantS_none (ex_assign rfl) rfl st_nil ?_
  refine DrawG.sync ?_
  refine DrawG.nil ?_
  refine Run.seq (Run.region ?_)
  refine Run.opG wantS_none (ex_assign rfl) rfl ?_
  refine Run.opsEnd (Run.seq (Run.seq (Run.region ?_)))
  refine Run.opG wantS_none (ex_move rfl) rfl ?_
  refine Run.opG wantS_none (ex_len' rfl hs21 lenk33) rfl ?_
  refine Run.opG wantS_none (ex_move rfl) rfl ?_
  refine Run.opsEnd (Run.block (Run.loop ?_))
  exact Run.pick [1, 6, 20, 21, 22] (bank_product_1_ok F F l22 (0 : Int) l21 (l21.length : Int) (0 : Int) s22 s21 _ _ _ hs22 hs21 hH h)

theorem mkk152 : makeK Tryz.prog 152 = none := by kernel_rfl
theorem cal152 : callable Tryz.prog 152 = true := by kernel_rfl
theorem off188_2 : fieldOff Tryz.prog 188 2 = some 65 := by kernel_rfl
theorem mkk87 : makeK Tryz.prog 87 = none := by kernel_rfl
theorem cal87 : callable Tryz.prog 87 = true := by kernel_rfl
theorem cal149 : callable Tryz.prog 149 = true := by kernel_rfl
theorem agg148 : aggSize Tryz.prog 148 = some none := by kernel_rfl
abbrev bank_isTime_post (r : Bool) : SV → Mem → Prop := fun s _ => s = (.bool r)

def bank_isTime (F : Nat) (a0 : Int) (a1 : (List Int)) (a2 : Int) : Option (Bool) :=
  bnd (bank_isFrom F (0 : Int) a2 (w64 ((a1.length : Int) - a0))) fun r22 =>
  some r22

theorem bank_isTime_ok (F : Nat) (a0 : Int) (a1 : (List Int)) (a2 : Int) (s0 : SV) (r : Bool) (M : Mem) (hs0 : Slc (rd M) 1 (FlatR enc3) s0 a1) (h : bank_isTime F a0 a1 a2 = some r) : CallsM Tryz.prog 114 [(.int .i64 a0), s0, (.int .i64 a2)] M (fun s M' => s = (.bool r) ∧ M' = M) := by
  refine CallsM.plain Tryz.func114 rfl rfl rfl (show Run _ _ _ (bank_isTime_post r) _ _ _ from ?_)
  rw [bank_isTime] at h
  replace hs0 := hs0.mono (rdLe_frozen M) (fun _ _ h => h)
  have hH := Has.nil (frozen M)
  refine Run.seq (Run.region ?_)
  refine Run.opG wantS_none (ex_assign rfl) rfl ?_
  refine Run.opsEnd (Run.seq (Run.region ?_))
  refine Run.opG wantS_none (ex_move rfl) rfl ?_
  refine Run.opG wantS_none (ex_move rfl) rfl ?_
  refine Run.opG wantS_none (ex_len' rfl hs0 lenk33) rfl ?_
  refine Run.opG wantS_none (ex_move rfl) rfl ?_
  refine Run.opG wantS_none (ex_sub rfl rfl) rfl ?_
  obtain ⟨r22, hr22, h⟩ := bnd_some h
  refine Run.callP wantS_none (ex_call rfl mkk98 cal98) rfl (bank_isFrom_ok F (0 : Int) a2 (w64 ((a1.length : Int) - a0)) _ _ hr22) ?_
  refine Run.opG wantS_none (ex_assign rfl) rfl ?_
  refine Run.opsEnd ?_
  cases h
  exact Run.ret Tryz.func114 rfl (res_tmp rfl res_nil) rfl

theorem mkk114 : makeK Tryz.prog 114 = none := by kernel_rfl
theorem cal114 : callable Tryz.prog 114 = true := by kernel_rfl
theorem mkk150 : makeK Tryz.prog 150 = none := by kernel_rfl
theorem cal150 : callable Tryz.prog 150 = true := by kernel_rfl
theorem sz33 : szOf Tryz.prog 33 = some 1 := by kernel_rfl
theorem plan150_1_0 : planOf Tryz.prog (opsC (atC Tryz.prog 150 [1, 0])) = some [.fl 0, .fl 2, .fl 3, .fl 4, .an 1 [4, 3, 2], .an 5 [], .fl 6, .sync] := by kernel_rfl
theorem plan149_1_0_0_0_0 : planOf Tryz.prog (opsC (atC Tryz.prog 149 [1, 0, 0, 0, 0])) = some [.fl 0, .fl 1, .fl 2, .fl 3, .fl 4, .fl 5, .an 6 [], .sync] := by kernel_rfl
abbrev bank_Filter_post (r : (List Int) × Int) : SV → Mem → Prop := fun s Me => ∃ q1, s = (.tuple [q1, (.int .i64 r.2)]) ∧ Has (fun _ => none) Me [.vec 3 1 r.1.length q1 (r.1.flatMap enc3)]

def bank_Filter_2 (F : Nat) : Nat → Int → Int → (List Int) → (List Int) → (List Int) → Option ((List Int) × Int)
  | 0, _, _, _, _, _ => none
  | N + 1, v4, v7_g73, c71_0, l75, l47 =>
    bnd (l47[(64 : Nat)]?) fun x77 =>
    bnd (bank_isTime F x77 c71_0 v4) fun r78 =>
    bif r78 then
      bnd (sub c71_0 v4 (c71_0.length : Int)) fun l81 =>
      bnd (bank_wave_samples F l47) fun l82 =>
      bnd (bank_product F l82 l81) fun r84 =>
      bnd (apd 8 l75 ([r84] : List Int)) fun l92 =>
      (bank_Filter_2 F N) (w64 (v4 + (1 : Int))) v7_g73 c71_0 l92 l47
    else
      some (l75, (0 : Int))

theorem bank_Filter_2_ok (F : Nat) : ∀ (N : Nat), ∀ (v4 : Int) (v7_g73 : Int) (c71_0 : (List Int)) (l75 : (List Int)) (l47 : (List Int)) (sc71_0 : SV) (b73 : Pos) (b41 : Pos) (s75 : SV) (b68 : Pos) (b47 : Pos) (b71 : Pos) (b74 : Pos) (Fr : Rd) (M : Mem) (r : (List Int) × Int) (hc71_0 : Slc Fr 1 (FlatR enc3) sc71_0 c71_0) (hH : Has Fr M [.obj b73 (.loop ⟨.ready, none, 34, 35, treeOf [(6, .nils), (7, (.int .i64 v7_g73)), (9, (.ptr b41 0)), (27, (.fn (.func 149) [] [(.ptr b68 0), (.ptr b71 0)]))], [28, 29], (atC Tryz.prog 34 [1, 1, 1, 0, 1, 0, 0]), (atC Tryz.prog 34 [1, 1, 1, 0, 1, 0, 1]), b74⟩), .obj b41 (.row 33 .whole [s75]), .vec 3 1 l75.length s75 (l75.flatMap enc3), .obj b68 (.row 148 .whole [(.ptr b47 0)]), .obj b47 (.row 188 .whole (l47.flatMap enc3)), .obj b71 (.row 33 .whole [sc71_0]), .obj b74 .defd, tb0, tb1, tb2, tb3]), bank_Filter_2 F N v4 v7_g73 c71_0 l75 l47 = some r → Run Tryz.prog ⟨⟨149, [], none⟩, [.mk ⟨34, [b74], none⟩ 35 (treeOf [(9, (.ptr b41 0))]) [.inRange b73, .inBlock 1, codeC Tryz.prog 34 [1, 1, 1, 1]]]⟩ 22 (bank_Filter_post r) [(0, (.yield b73)), (1, (.ptr b68 0)), (2, (.ptr b71 0)), (4, (.int .i64 v4))] [codeC Tryz.prog 149 [1, 0, 0], loopC Tryz.prog 149 [1, 0, 0], .inBlock 0] M := by
  intro N
  induction N with
  | zero =>
    intro v4 v7_g73 c71_0 l75 l47 sc71_0 b73 b41 s75 b68 b47 b71 b74 Fr M r hc71_0 hH h
    simp [bank_Filter_2] at h
  | succ N ih =>
    intro v4 v7_g73 c71_0 l75 l47 sc71_0 b73 b41 s75 b68 b47 b71 b74 Fr M r hc71_0 hH h
    rw [bank_Filter_2] at h
    refine Run.seq (Run.seq ?_)
    refine Run.drawG plan149_1_0_0_0_0 ?_
    refine DrawG.fl rfl (ev_ex wantS_none (ex_load1 rfl (hH.cells (i := 3) rfl 0 rfl) rdLe_rfl agg148)) rfl ?_
    refine DrawG.fl rfl (ev_ex wantS_none (ex_nilP rfl)) rfl ?_
    refine DrawG.fl rfl (ev_ex wantS_none (ex_fieldAddr rfl off188_1)) rfl ?_
    obtain ⟨x77, hx77, h⟩ := bnd_some h
    refine DrawG.fl rfl (ev_ex wantS_none (ex_load1 rfl (hH.arrAt (enc := enc3) (a := x77) (i := 4) rfl hx77 enc3_len) rdLe_rfl agg3)) rfl ?_
    refine DrawG.fl rfl (ev_ex wantS_none (ex_load1 rfl (hH.cells (i := 5) rfl 0 rfl) rdLe_rfl agg33)) rfl ?_
    refine DrawG.fl rfl (ev_ex wantS_none (ex_move rfl)) rfl ?_
    obtain ⟨r78, hr78, h⟩ := bnd_some h
    refine DrawG.callP rfl wantS_none (ex_call rfl mkk114 cal114) rfl (bank_isTime_ok F x77 c71_0 v4 sc71_0 _ _ (hH.slcF hc71_0) hr78) st_nil ?_
    refine DrawG.sync ?_
    refine DrawG.nil ?_
    rcases btf (r78) with hc80 | hc80
    · have h := bif_t hc80 h
      refine Run.condT' rfl hc80 ?_
      refine Run.skip (Run.seq (Run.block (Run.seq (Run.region ?_))))
      refine Run.opG wantS_none (ex_move rfl) rfl ?_
      refine Run.opG wantS_none (ex_move rfl) rfl ?_
      refine Run.opG wantS_none (ex_load1 rfl (hH.cells (i := 3) rfl 0 rfl) rdLe_rfl agg148) rfl ?_
      refine Run.opG wantS_none (ex_load1 rfl (hH.cells (i := 5) rfl 0 rfl) rdLe_rfl agg33) rfl ?_
      refine Run.opG wantS_none (ex_move rfl) rfl ?_
      refine Run.enter wantS_none (ex_call rfl mkk150 cal150) Tryz.func150 rfl rfl ?_
      refine Run.seq (Run.region ?_)
      refine Run.opG wantS_none (ex_assign rfl) rfl ?_
      refine Run.opsEnd (Run.seq ?_)
      refine Run.drawG plan150_1_0 ?_
      refine DrawG.fl rfl (ev_ex wantS_none (ex_move rfl)) rfl ?_
      refine DrawG.fl rfl (ev_ex wantS_none (ex_move rfl)) rfl ?_
      refine DrawG.fl rfl (ev_ex wantS_none (ex_move rfl)) rfl ?_
      obtain ⟨l81, hl81, h⟩ := bnd_some h
      obtain ⟨s81, hx81, hs81⟩ := sl_subL (P := Tryz.prog) (t := 33) (k0 := .i64) hc71_0 hl81 slk33
      refine DrawG.fl rfl (ev_ex wantS_none (ex_slX rfl (argO_some rfl) (argO_none) hx81)) rfl ?_
      obtain ⟨l82, hl82, h⟩ := bnd_some h
      have hs82 := bank_wave_samples_slc F hH (i := 4) rfl hl82
      refine DrawG.callP rfl wantS_none (ex_call rfl mkk112 cal112) rfl (bank_wave_samples_ok F hH (i := 4) rfl hl82) (st_cons rfl (ev_ex wantS_none (ex_slX rfl (argO_some rfl) (argO_none) hx81)) rfl rfl (slc_self hs81) (st_cons rfl (ev_ex wantS_none (ex_move rfl)) rfl rfl rfl (st_cons rfl (ev_ex wantS_none (ex_move rfl)) rfl rfl (slc_self hc71_0) st_nil))) ?_
      obtain ⟨r84, hr84, h⟩ := bnd_some h
      refine DrawG.callP rfl wantS_none (ex_call rfl mkk152 cal152) rfl (bank_product_ok F l82 l81 (.slice b47 0 l82.length 64) s81 _ _ hs82 (hH.slcF hs81) hr84) st_nil ?_
      refine DrawG.fl rfl (ev_ex wantS_none (ex_assign rfl)) rfl ?_
      refine DrawG.sync ?_
      refine DrawG.nil ?_
      refine Run.retTo Tryz.func150 rfl (res_tmp rfl res_nil) rfl ?_
      refine Run.round (e' := [(29, (.int .i64 r84)), (28, (.int .i64 v4)), (6, .nils), (7, (.int .i64 v7_g73)), (9, (.ptr b41 0)), (27, (.fn (.func 149) [] [(.ptr b68 0), (.ptr b71 0)]))]) wantS_none (ex_yield hH (i := 0) rfl rfl rfl rfl) (hH.loopOf (i := 0) rfl) rfl ?_
      refine Run.region ?_
      refine Run.opG wantS_none (ex_assign rfl) rfl ?_
      refine Run.opsEnd ?_
      refine Run.beginX hH (i := 0) rfl rfl ?_
      intro M86 (hH86 : Has Fr M86 [.obj b73 (.loop ⟨.busy, none, 34, 35, treeOf [(6, .nils), (7, (.int .i64 v7_g73)), (9, (.ptr b41 0)), (27, (.fn (.func 149) [] [(.ptr b68 0), (.ptr b71 0)]))], [28, 29], (atC Tryz.prog 34 [1, 1, 1, 0, 1, 0, 0]), (atC Tryz.prog 34 [1, 1, 1, 0, 1, 0, 1]), b74⟩), .obj b41 (.row 33 .whole [s75]), .vec 3 1 l75.length s75 (l75.flatMap enc3), .obj b68 (.row 148 .whole [(.ptr b47 0)]), .obj b47 (.row 188 .whole (l47.flatMap enc3)), .obj b71 (.row 33 .whole [sc71_0]), .obj b74 .defd, tb0, tb1, tb2, tb3])
      refine Run.block (Run.region ?_)
      refine Run.opG wantS_none (ex_load1 rfl (hH86.cells (i := 1) rfl 0 rfl) rdLe_rfl agg33) rfl ?_
      refine Run.opG wantS_none (ex_move rfl) rfl ?_
      refine Run.opX wantS_none rfl (ExG.built (enc := enc3) (l := ([r84] : List Int)) (z := 1) rfl elt33 rfl rfl rfl enc3_len hH86) ?_
      rintro s88 M89 (hH89 : Has Fr M89 [.vec 3 1 ([r84] : List Int).length s88 (([r84] : List Int).flatMap enc3), .obj b73 (.loop ⟨.busy, none, 34, 35, treeOf [(6, .nils), (7, (.int .i64 v7_g73)), (9, (.ptr b41 0)), (27, (.fn (.func 149) [] [(.ptr b68 0), (.ptr b71 0)]))], [28, 29], (atC Tryz.prog 34 [1, 1, 1, 0, 1, 0, 0]), (atC Tryz.prog 34 [1, 1, 1, 0, 1, 0, 1]), b74⟩), .obj b41 (.row 33 .whole [s75]), .vec 3 1 l75.length s75 (l75.flatMap enc3), .obj b68 (.row 148 .whole [(.ptr b47 0)]), .obj b47 (.row 188 .whole (l47.flatMap enc3)), .obj b71 (.row 33 .whole [sc71_0]), .obj b74 .defd, tb0, tb1, tb2, tb3])
      obtain ⟨l92, hl92, h⟩ := bnd_some h
      refine Run.opX wantS_none rfl (ExG.append rfl rfl hH89 (i := 3) rfl enc3_len rfl enc3_ones appt33_33 rfl (len_slc (hH89.slc (i := 0) rfl enc3_len)) (first_slc (hH89.slc (i := 0) rfl enc3_len) (rdLe_rdRow _) enc3_len) hl92) ?_
      rintro s92 M94 (hH94 : Has Fr M94 [.vec 3 1 ([r84] : List Int).length s88 (([r84] : List Int).flatMap enc3), .obj b73 (.loop ⟨.busy, none, 34, 35, treeOf [(6, .nils), (7, (.int .i64 v7_g73)), (9, (.ptr b41 0)), (27, (.fn (.func 149) [] [(.ptr b68 0), (.ptr b71 0)]))], [28, 29], (atC Tryz.prog 34 [1, 1, 1, 0, 1, 0, 0]), (atC Tryz.prog 34 [1, 1, 1, 0, 1, 0, 1]), b74⟩), .obj b41 (.row 33 .whole [s75]), .vec 3 1 l92.length s92 (l92.flatMap enc3), .obj b68 (.row 148 .whole [(.ptr b47 0)]), .obj b47 (.row 188 .whole (l47.flatMap enc3)), .obj b71 (.row 33 .whole [sc71_0]), .obj b74 .defd, tb0, tb1, tb2, tb3])
      refine Run.opX wantS_none rfl (ExG.storeC (c' := [s92]) rfl rfl (cells_one (vec_one hH94 (i := 3) rfl)) hH94 (i := 2) rfl sz33 rfl rfl rfl (ones_cons (vec_one hH94 (i := 3) rfl) ones_nil) rfl) ?_
      rintro _ M95 ⟨rfl, (hH95 : Has Fr M95 [.vec 3 1 ([r84] : List Int).length s88 (([r84] : List Int).flatMap enc3), .obj b73 (.loop ⟨.busy, none, 34, 35, treeOf [(6, .nils), (7, (.int .i64 v7_g73)), (9, (.ptr b41 0)), (27, (.fn (.func 149) [] [(.ptr b68 0), (.ptr b71 0)]))], [28, 29], (atC Tryz.prog 34 [1, 1, 1, 0, 1, 0, 0]), (atC Tryz.prog 34 [1, 1, 1, 0, 1, 0, 1]), b74⟩), .obj b41 (.row 33 .whole [s92]), .vec 3 1 l92.length s92 (l92.flatMap enc3), .obj b68 (.row 148 .whole [(.ptr b47 0)]), .obj b47 (.row 188 .whole (l47.flatMap enc3)), .obj b71 (.row 33 .whole [sc71_0]), .obj b74 .defd, tb0, tb1, tb2, tb3])⟩
      refine Run.opsEnd (Run.inBlock ?_)
      refine Run.roundEndX hH95 (i := 1) rfl rfl ?_
      intro M96 (hH96 : Has Fr M96 [.vec 3 1 ([r84] : List Int).length s88 (([r84] : List Int).flatMap enc3), .obj b73 (.loop ⟨.ready, none, 34, 35, treeOf [(6, .nils), (7, (.int .i64 v7_g73)), (9, (.ptr b41 0)), (27, (.fn (.func 149) [] [(.ptr b68 0), (.ptr b71 0)]))], [28, 29], (atC Tryz.prog 34 [1, 1, 1, 0, 1, 0, 0]), (atC Tryz.prog 34 [1, 1, 1, 0, 1, 0, 1]), b74⟩), .obj b41 (.row 33 .whole [s92]), .vec 3 1 l92.length s92 (l92.flatMap enc3), .obj b68 (.row 148 .whole [(.ptr b47 0)]), .obj b47 (.row 188 .whole (l47.flatMap enc3)), .obj b71 (.row 33 .whole [sc71_0]), .obj b74 .defd, tb0, tb1, tb2, tb3])
      refine Run.opG wantS_none (ex_not rfl) rfl ?_
      refine Run.opsEnd ?_
      refine Run.condF' rfl (bnot_f rfl) ?_
      refine Run.skip (Run.inBlock (Run.region ?_))
      refine Run.opG wantS_none (ex_move rfl) rfl ?_
      refine Run.opG wantS_none (ex_add rfl rfl) rfl ?_
      refine Run.opG wantS_none (ex_assign rfl) rfl ?_
      refine Run.opsEnd (Run.inLoop ?_)
      exact Run.low (.cons (fle_pick [9] rfl) .nil) (Run.pick [0, 1, 2, 4] (ih (w64 (v4 + (1 : Int))) v7_g73 c71_0 l92 l47 sc71_0 b73 b41 s92 b68 b47 b71 b74 _ _ _ hc71_0 (hH96.pick [1, 2, 3, 4, 5, 6, 7, 8, 9, 10, 11] rfl rfl) h))
    · have h := bif_f hc80 h
      refine Run.condF' rfl hc80 ?_
      refine Run.exit rfl ?_
      refine Run.fallRange Tryz.func149 rfl res_nil ?_
      refine Run.endX hH (i := 0) rfl (fun hc => by cases hc) ?_
      intro M97 (hH97 : Has Fr M97 [.obj b73 (.loop ⟨.exhausted, none, 34, 35, treeOf [(6, .nils), (7, (.int .i64 v7_g73)), (9, (.ptr b41 0)), (27, (.fn (.func 149) [] [(.ptr b68 0), (.ptr b71 0)]))], [28, 29], (atC Tryz.prog 34 [1, 1, 1, 0, 1, 0, 0]), (atC Tryz.prog 34 [1, 1, 1, 0, 1, 0, 1]), b74⟩), .obj b41 (.row 33 .whole [s75]), .vec 3 1 l75.length s75 (l75.flatMap enc3), .obj b68 (.row 148 .whole [(.ptr b47 0)]), .obj b47 (.row 188 .whole (l47.flatMap enc3)), .obj b71 (.row 33 .whole [sc71_0]), .obj b74 .defd, tb0, tb1, tb2, tb3])
      refine Run.inBlock (Run.seq (Run.region ?_))
      refine Run.opG wantS_none (ex_load1 rfl (hH97.cells (i := 1) rfl 0 rfl) rdLe_rfl agg33) rfl ?_
      refine Run.opG wantS_none (ex_assign rfl) rfl ?_
      refine Run.opG wantS_none (ex_assign rfl) rfl ?_
      refine Run.opsEnd ?_
      obtain ⟨hH98x, hS98⟩ := hH97.shut (i := 6) (ds := []) rfl
      have hH98 : Has Fr (setT M97 b74 none) [.obj b73 (.loop ⟨.exhausted, none, 34, 35, treeOf [(6, .nils), (7, (.int .i64 v7_g73)), (9, (.ptr b41 0)), (27, (.fn (.func 149) [] [(.ptr b68 0), (.ptr b71 0)]))], [28, 29], (atC Tryz.prog 34 [1, 1, 1, 0, 1, 0, 0]), (atC Tryz.prog 34 [1, 1, 1, 0, 1, 0, 1]), b74⟩), .obj b41 (.row 33 .whole [s75]), .vec 3 1 l75.length s75 (l75.flatMap enc3), .obj b68 (.row 148 .whole [(.ptr b47 0)]), .obj b47 (.row 188 .whole (l47.flatMap enc3)), .obj b71 (.row 33 .whole [sc71_0]), .vec 0 0 0 .nils [], tb0, tb1, tb2, tb3] := hH98x
      cases h
      exact Run.ret Tryz.func34 (hS98 _ rfl) (res_tmp rfl (res_tmp rfl res_nil)) ⟨_, rfl, (hH98.pick [2] rfl rfl).upF (none_le _)⟩

def bank_Filter_1 (F : Nat) : Nat → Int → Int → (List Int) → Int → S_api_Chirp → (List Int) → Option ((List Int) × Int)
  | 0, _, _, _, _, _, _ => none
  | N + 1, v10, v11, v2_f1, v7_f1, c44, l47 =>
    bif (decide (v11 < v10)) then
      bnd (bank_table F (Int.tmod (w64 ((w64 (c44.P * v11)) + (w64 ((w64 (c44.Q * v11)) * v11)))) (64 : Int))) fun r50 =>
      bnd (inA v11 64) fun o52 =>
      bnd (upd l47 (((0 + o52 * 1) : Nat) : Int) r50) fun l53 =>
      (bank_Filter_1 F N) v10 (w64 (v11 + (1 : Int))) v2_f1 v7_f1 c44 l53
    else
      bnd (bank_wave_samples F l47) fun l56 =>
      bnd (bank_wave_samples F l47) fun l59 =>
      bnd (bank_product F l56 l59) fun r62 =>
      bnd (upd l47 ((65 : Nat) : Int) r62) fun l65 =>
      bank_Filter_2 F F (0 : Int) v7_f1 v2_f1 ([] : List Int) l65

theorem bank_Filter_1_ok (F : Nat) : ∀ (N : Nat), ∀ (v10 : Int) (v11 : Int) (v2_f1 : (List Int)) (v7_f1 : Int) (c44 : S_api_Chirp) (l47 : (List Int)) (sv2_f1 : SV) (b44 : Pos) (b47 : Pos) (b41 : Pos) (Fr : Rd) (M : Mem) (r : (List Int) × Int) (hv2_f1 : Slc Fr 1 (FlatR enc3) sv2_f1 v2_f1) (hH : Has Fr M [.obj b44 (.row 53 .whole [(.int .i64 c44.P), (.int .i64 c44.Q)]), .obj b47 (.row 188 .whole (l47.flatMap enc3)), .obj b41 (.row 33 .whole [.nils]), tb0, tb1, tb2, tb3]), bank_Filter_1 F N v10 v11 v2_f1 v7_f1 c44 l47 = some r → Run Tryz.prog ⟨⟨88, [], none⟩, [.mk ⟨34, [], none⟩ 35 (treeOf [(2, sv2_f1), (6, .nils), (7, (.int .i64 v7_f1)), (9, (.ptr b41 0))]) [itemC Tryz.prog 34 [1, 1, 1, 0, 0] 2, codeC Tryz.prog 34 [1, 1, 1, 0, 1], codeC Tryz.prog 34 [1, 1, 1, 1]]]⟩ 42 (bank_Filter_post r) [(3, (.ptr b44 0)), (5, (.ptr b47 0)), (10, (.int .i64 v10)), (11, (.int .i64 v11))] [codeC Tryz.prog 88 [1, 1, 0, 1, 0, 0], loopC Tryz.prog 88 [1, 1, 0, 1, 0, 0], .inBlock 0, codeC Tryz.prog 88 [1, 1, 1]] M := by
  intro N
  induction N with
  | zero =>
    intro v10 v11 v2_f1 v7_f1 c44 l47 sv2_f1 b44 b47 b41 Fr M r hv2_f1 hH h
    simp [bank_Filter_1] at h
  | succ N ih =>
    intro v10 v11 v2_f1 v7_f1 c44 l47 sv2_f1 b44 b47 b41 Fr M r hv2_f1 hH h
    rw [bank_Filter_1] at h
    refine Run.seq (Run.region ?_)
    refine Run.opG wantS_none (ex_lss rfl rfl) rfl ?_
    refine Run.opsEnd (Run.seq ?_)
    rcases btf ((decide (v11 < v10))) with hc49 | hc49
    · have h := bif_t hc49 h
      refine Run.condT' rfl hc49 ?_
      refine Run.skip (Run.seq (Run.block (Run.seq (Run.region ?_))))
      refine Run.opG wantS_none (ex_move rfl) rfl ?_
      refine Run.opG wantS_none (ex_assign rfl) rfl ?_
      refine Run.opsEnd ?_
      refine Run.drawG plan88_1_1_0_1_0_0_1_1_0_0_1 ?_
      refine DrawG.fl rfl (ev_ex wantS_none (ex_move rfl)) rfl ?_
      refine DrawG.fl rfl (ev_ex wantS_none (ex_move rfl)) rfl ?_
      refine DrawG.fl rfl (ev_ex wantS_none (ex_fieldAddr rfl off53_0)) rfl ?_
      refine DrawG.fl rfl (ev_ex wantS_none (ex_load1 rfl (hH.cells (i := 0) rfl 0 rfl) rdLe_rfl agg3)) rfl ?_
      refine DrawG.fl rfl (ev_ex wantS_none (ex_move rfl)) rfl ?_
      refine DrawG.fl rfl (ev_ex wantS_none (ex_mul rfl rfl)) rfl ?_
      refine DrawG.fl rfl (ev_ex wantS_none (ex_fieldAddr rfl off53_1)) rfl ?_
      refine DrawG.fl rfl (ev_ex wantS_none (ex_load1 rfl (hH.cells (i := 0) rfl 1 rfl) rdLe_rfl agg3)) rfl ?_
      refine DrawG.fl rfl (ev_ex wantS_none (ex_move rfl)) rfl ?_
      refine DrawG.fl rfl (ev_ex wantS_none (ex_mul rfl rfl)) rfl ?_
      refine DrawG.fl rfl (ev_ex wantS_none (ex_move rfl)) rfl ?_
      refine DrawG.fl rfl (ev_ex wantS_none (ex_mul rfl rfl)) rfl ?_
      refine DrawG.fl rfl (ev_ex wantS_none (ex_add rfl rfl)) rfl ?_
      refine DrawG.fl rfl (ev_ex wantS_none (ex_rem rfl rfl (by decide))) rfl ?_
      refine DrawG.fl rfl (ev_ex wantS_none (ex_nilP rfl)) rfl ?_
      refine DrawG.fl rfl (ev_ex wantS_none (ex_fieldAddr rfl off188_0)) rfl ?_
      obtain ⟨r50, hr50, h⟩ := bnd_some h
      refine DrawG.callP rfl wantS_none (ex_call rfl mkk151 cal151) rfl (bank_table_ok F (Int.tmod (w64 ((w64 (c44.P * v11)) + (w64 ((w64 (c44.Q * v11)) * v11)))) (64 : Int)) _ _ (fixH hH (List.mem_of_getElem? (i := 3) rfl) (List.mem_of_getElem? (i := 4) rfl) (List.mem_of_getElem? (i := 5) rfl) (List.mem_of_getElem? (i := 6) rfl)) hr50) (st_cons rfl (ev_ex wantS_none (ex_fieldAddr rfl off188_0)) rfl rfl rfl (st_cons rfl (ev_ex wantS_none (ex_nilP rfl)) rfl rfl rfl (st_cons rfl (ev_ex wantS_none (ex_move rfl)) rfl rfl rfl (st_cons rfl (ev_ex wantS_none (ex_move rfl)) rfl rfl rfl st_nil)))) ?_
      obtain ⟨o52, ho52, h⟩ := bnd_some h
      refine DrawG.fl rfl (ev_ex wantS_none (ex_elX rfl rfl (arr_place (inA_natIn ho52) els186))) rfl ?_
      obtain ⟨l53, hl53, h⟩ := bnd_some h
      refine DrawG.opX rfl wantS_none rfl (ExG.storeA rfl rfl hH (i := 1) rfl hl53 sz3 rfl enc3_len enc3_ones) ?_
      rintro _ M54 ⟨rfl, (hH54 : Has Fr M54 [.obj b44 (.row 53 .whole [(.int .i64 c44.P), (.int .i64 c44.Q)]), .obj b47 (.row 188 .whole (l53.flatMap enc3)), .obj b41 (.row 33 .whole [.nils]), tb0, tb1, tb2, tb3])⟩
      refine ⟨st_nil, ?_⟩
      refine DrawG.sync ?_
      refine DrawG.nil ?_
      refine Run.inBlock (Run.region ?_)
      refine Run.opG wantS_none (ex_add rfl rfl) rfl ?_
      refine Run.opG wantS_none (ex_move rfl) rfl ?_
      refine Run.opsEnd (Run.inLoop ?_)
      exact Run.low (.cons (fle_pick [2, 6, 7, 9] rfl) .nil) (Run.pick [3, 5, 10, 11] (ih v10 (w64 (v11 + (1 : Int))) v2_f1 v7_f1 c44 l53 sv2_f1 b44 b47 b41 _ _ _ hv2_f1 hH54 h))
    · have h := bif_f hc49 h
      refine Run.condF' rfl hc49 ?_
      refine Run.exit rfl (Run.seq (Run.region ?_))
      refine Run.opG wantS_none (ex_move rfl) rfl ?_
      refine Run.opG wantS_none (ex_move rfl) rfl ?_
      obtain ⟨l56, hl56, h⟩ := bnd_some h
      have hs56 := bank_wave_samples_slc F hH (i := 1) rfl hl56
      refine Run.callP wantS_none (ex_call rfl mkk112 cal112) rfl (bank_wave_samples_ok F hH (i := 1) rfl hl56) ?_
      refine Run.opG wantS_none (ex_move rfl) rfl ?_
      obtain ⟨l59, hl59, h⟩ := bnd_some h
      have hs59 := bank_wave_samples_slc F hH (i := 1) rfl hl59
      refine Run.callP wantS_none (ex_call rfl mkk112 cal112) rfl (bank_wave_samples_ok F hH (i := 1) rfl hl59) ?_
      obtain ⟨r62, hr62, h⟩ := bnd_some h
      refine Run.callP wantS_none (ex_call rfl mkk152 cal152) rfl (bank_product_ok F l56 l59 (.slice b47 0 l56.length 64) (.slice b47 0 l59.length 64) _ _ hs56 hs59 hr62) ?_
      refine Run.opG wantS_none (ex_nilP rfl) rfl ?_
      refine Run.opG wantS_none (ex_fieldAddr rfl off188_2) rfl ?_
      obtain ⟨l65, hl65, h⟩ := bnd_some h
      refine Run.opX wantS_none rfl (ExG.storeA rfl rfl hH (i := 1) rfl hl65 sz3 rfl enc3_len enc3_ones) ?_
      rintro _ M66 ⟨rfl, (hH66 : Has Fr M66 [.obj b44 (.row 53 .whole [(.int .i64 c44.P), (.int .i64 c44.Q)]), .obj b47 (.row 188 .whole (l65.flatMap enc3)), .obj b41 (.row 33 .whole [.nils]), tb0, tb1, tb2, tb3])⟩
      refine Run.opsEnd (Run.seq (Run.region ?_))
      refine Run.opG wantS_none (ex_move rfl) rfl ?_
      refine Run.opG wantS_none (ex_assign rfl) rfl ?_
      refine Run.opsEnd ?_
      refine Run.retTo Tryz.func88 rfl (res_tmp rfl res_nil) rfl ?_
      refine Run.opG wantS_none (ex_move rfl) rfl ?_
      refine Run.enter wantS_none (ex_call rfl mkk87 cal87) Tryz.func87 rfl rfl ?_
      refine Run.seq (Run.region ?_)
      refine Run.opX wantS_none rfl (ExG.box rfl rfl hH66) ?_
      rintro _ M69 ⟨b68, rfl, (hH69 : Has Fr M69 [.obj b68 (.row 148 .whole [(.ptr b47 0)]), .obj b44 (.row 53 .whole [(.int .i64 c44.P), (.int .i64 c44.Q)]), .obj b47 (.row 188 .whole (l65.flatMap enc3)), .obj b41 (.row 33 .whole [.nils]), tb0, tb1, tb2, tb3])⟩
      refine Run.opX wantS_none rfl (ExG.box rfl (cells_one (slc_one hv2_f1)) hH69) ?_
      rintro _ M72 ⟨b71, rfl, (hH72 : Has Fr M72 [.obj b71 (.row 33 .whole [sv2_f1]), .obj b68 (.row 148 .whole [(.ptr b47 0)]), .obj b44 (.row 53 .whole [(.int .i64 c44.P), (.int .i64 c44.Q)]), .obj b47 (.row 188 .whole (l65.flatMap enc3)), .obj b41 (.row 33 .whole [.nils]), tb0, tb1, tb2, tb3])⟩
      refine Run.opG wantS_none (ex_assign rfl) rfl ?_
      refine Run.opsEnd (Run.seq (Run.region ?_))
      refine Run.opG wantS_none (ex_makeFunc rfl rfl) rfl ?_
      refine Run.opG wantS_none (ex_assign rfl) rfl ?_
      refine Run.opsEnd ?_
      refine Run.retTo Tryz.func87 rfl (res_tmp rfl res_nil) rfl ?_
      refine Run.opsEnd (Run.block ?_)
      refine Run.pick [6, 7, 9, 27] ?_
      refine Run.rangeX rfl cal149 Tryz.func149 rfl rfl hH72 ?_
      intro b74 b73 M73 (hH73 : Has Fr M73 [.obj b73 (.loop ⟨.ready, none, 34, 35, treeOf [(6, .nils), (7, (.int .i64 v7_f1)), (9, (.ptr b41 0)), (27, (.fn (.func 149) [] [(.ptr b68 0), (.ptr b71 0)]))], [28, 29], (atC Tryz.prog 34 [1, 1, 1, 0, 1, 0, 0]), (atC Tryz.prog 34 [1, 1, 1, 0, 1, 0, 1]), b74⟩), .obj b74 .defd, .obj b71 (.row 33 .whole [sv2_f1]), .obj b68 (.row 148 .whole [(.ptr b47 0)]), .obj b44 (.row 53 .whole [(.int .i64 c44.P), (.int .i64 c44.Q)]), .obj b47 (.row 188 .whole (l65.flatMap enc3)), .obj b41 (.row 33 .whole [.nils]), tb0, tb1, tb2, tb3])
      refine Run.seq (Run.region ?_)
      refine Run.opG wantS_none (ex_assign rfl) rfl ?_
      refine Run.opsEnd (Run.block (Run.loop ?_))
      have hH76 : Has Fr M73 [.vec 3 1 ([] : List Int).length .nils (([] : List Int).flatMap enc3), .obj b73 (.loop ⟨.ready, none, 34, 35, treeOf [(6, .nils), (7, (.int .i64 v7_f1)), (9, (.ptr b41 0)), (27, (.fn (.func 149) [] [(.ptr b68 0), (.ptr b71 0)]))], [28, 29], (atC Tryz.prog 34 [1, 1, 1, 0, 1, 0, 0]), (atC Tryz.prog 34 [1, 1, 1, 0, 1, 0, 1]), b74⟩), .obj b74 .defd, .obj b71 (.row 33 .whole [sv2_f1]), .obj b68 (.row 148 .whole [(.ptr b47 0)]), .obj b44 (.row 53 .whole [(.int .i64 c44.P), (.int .i64 c44.Q)]), .obj b47 (.row 188 .whole (l65.flatMap enc3)), .obj b41 (.row 33 .whole [.nils]), tb0, tb1, tb2, tb3] := hH73.nils 3 1
      exact Run.low (.cons (fle_pick [9] rfl) .nil) (Run.pick [0, 1, 2, 4] (bank_Filter_2_ok F F (0 : Int) v7_f1 v2_f1 ([] : List Int) l65 sv2_f1 b73 b41 .nils b68 b47 b71 b74 _ _ _ hv2_f1 (hH76.pick [1, 7, 0, 4, 6, 3, 2, 8, 9, 10, 11] rfl rfl) h))

def bank_Filter (F : Nat) (a0 : Int) (a1 : S_api_Chirp) (a2 : (List Int)) : Option ((List Int) × Int) :=
  bnd (bank_CheckChirp F a0 a1) fun r29 =>
  bif (!(r29 == (0 : Int))) then
    some (([] : List Int), r29)
  else
    bnd (bank_areData F a2) fun r35 =>
    bif (!r35) then
      some (([] : List Int), (73 : Int))
    else
      bank_Filter_1 F F a0 (0 : Int) a2 (0 : Int) a1 ([0, 0, 0, 0, 0, 0, 0, 0, 0, 0, 0, 0, 0, 0, 0, 0, 0, 0, 0, 0, 0, 0, 0, 0, 0, 0, 0, 0, 0, 0, 0, 0, 0, 0, 0, 0, 0, 0, 0, 0, 0, 0, 0, 0, 0, 0, 0, 0, 0, 0, 0, 0, 0, 0, 0, 0, 0, 0, 0, 0, 0, 0, 0, 0, a0, 0] : List Int)

theorem bank_Filter_ok (F : Nat) (a0 : Int) (a1 : S_api_Chirp) (a2 : (List Int)) (s0 : SV) (r : (List Int) × Int) (M : Mem) (hs0 : Slc (rd M) 1 (FlatR enc3) s0 a2) (hfx : FixIn M fixes) (h : bank_Filter F a0 a1 a2 = some r) : CallsM Tryz.prog 34 [(.int .i64 a0), (.agg [(.int .i64 a1.P), (.int .i64 a1.Q)]), s0] M (fun s M' => ∃ q1, s = (.tuple [q1, (.int .i64 r.2)]) ∧ New M M' [.vec 3 1 r.1.length q1 (r.1.flatMap enc3)]) := by
  refine CallsM.fresh (Q := bank_Filter_post r) Tryz.func34 rfl rfl ?_ (by rintro s Me ⟨q1, rfl, hx⟩ ha hw; exact ⟨_, rfl, New.of rfl hx ha hw⟩)
  rw [bank_Filter] at h
  replace hs0 := hs0.mono (rdLe_frozen M) (fun _ _ h => h)
  have hH : Has (ro (frozen M)) (frozen M) [tb0, tb1, tb2, tb3] := Has.ofFix hfx.frozen
  refine Run.seq (Run.region ?_)
  refine Run.opX wantS_none rfl (ExG.box rfl rfl hH) ?_
  rintro _ M27 ⟨b26, rfl, (hH27 : Has (ro (frozen M)) M27 [.obj b26 (.row 53 .whole [(.int .i64 a1.P), (.int .i64 a1.Q)]), tb0, tb1, tb2, tb3])⟩
  refine Run.opG wantS_none (ex_assign rfl) rfl ?_
  refine Run.opG wantS_none (ex_assign rfl) rfl ?_
  refine Run.opsEnd (Run.seq (Run.seq (Run.region ?_)))
  refine Run.opG wantS_none (ex_move rfl) rfl ?_
  refine Run.opG wantS_none (ex_loadA rfl (hH27.cells (i := 0) rfl 0 rfl) rdLe_rfl agg53 rfl rfl rfl) rfl ?_
  obtain ⟨r29, hr29, h⟩ := bnd_some h
  refine Run.callP wantS_none (ex_call rfl mkk85 cal85) rfl (bank_CheckChirp_ok F a0 a1 _ _ hr29) ?_
  refine Run.opG wantS_none (ex_assign rfl) rfl ?_
  refine Run.opsEnd (Run.block (Run.seq (Run.region ?_)))
  refine Run.opG wantS_none (ex_move rfl) rfl ?_
  refine Run.opG wantS_none (ex_neq rfl rfl) rfl ?_
  refine Run.opG wantS_none (ex_assign rfl) rfl ?_
  refine Run.opsEnd ?_
  rcases btf ((!(r29 == (0 : Int)))) with hc31 | hc31
  · have h := bif_t hc31 h
    refine Run.condT' rfl hc31 ?_
    refine Run.seq (Run.region ?_)
    refine Run.opG wantS_none (ex_move rfl) rfl ?_
    refine Run.opG wantS_none (ex_assign rfl) rfl ?_
    refine Run.opG wantS_none (ex_assign rfl) rfl ?_
    refine Run.opsEnd ?_
    have hH33 : Has (ro (frozen M)) M27 [.vec 3 1 ([] : List Int).length .nils (([] : List Int).flatMap enc3), .obj b26 (.row 53 .whole [(.int .i64 a1.P), (.int .i64 a1.Q)]), tb0, tb1, tb2, tb3] := hH27.nils 3 1
    cases h
    exact Run.ret Tryz.func34 rfl (res_tmp rfl (res_tmp rfl res_nil)) ⟨_, rfl, (hH33.pick [0] rfl rfl).upF (none_le _)⟩
  · have h := bif_f hc31 h
    refine Run.condF' rfl hc31 ?_
    refine Run.seq (Run.region ?_)
    refine Run.opG wantS_none (ex_move rfl) rfl ?_
    obtain ⟨r35, hr35, h⟩ := bnd_some h
    refine Run.callP wantS_none (ex_call rfl mkk86 cal86) rfl (bank_areData_ok F a2 s0 _ _ (hH27.slcF hs0) hr35) ?_
    refine Run.opG wantS_none (ex_not rfl) rfl ?_
    refine Run.opG wantS_none (ex_assign rfl) rfl ?_
    refine Run.opsEnd ?_
    rcases btf ((!r35)) with hc37 | hc37
    · have h := bif_t hc37 h
      refine Run.condT' rfl hc37 ?_
      refine Run.seq (Run.region ?_)
      refine Run.opG wantS_none (ex_assign rfl) rfl ?_
      refine Run.opG wantS_none (ex_assign rfl) rfl ?_
      refine Run.opsEnd ?_
      have hH39 : Has (ro (frozen M)) M27 [.vec 3 1 ([] : List Int).length .nils (([] : List Int).flatMap enc3), .obj b26 (.row 53 .whole [(.int .i64 a1.P), (.int .i64 a1.Q)]), tb0, tb1, tb2, tb3] := hH27.nils 3 1
      cases h
      exact Run.ret Tryz.func34 rfl (res_tmp rfl (res_tmp rfl res_nil)) ⟨_, rfl, (hH39.pick [0] rfl rfl).upF (none_le _)⟩
    · have h := bif_f hc37 h
      refine Run.condF' rfl hc37 ?_
      refine Run.skip (Run.inBlock (Run.seq (Run.region ?_)))
      refine Run.opX wantS_none rfl (ExG.new (v := fun b => .ptr b 0) (ex_alloc zer33) hH27) ?_
      rintro _ M42 ⟨b41, rfl, (hH42 : Has (ro (frozen M)) M42 [.obj b41 (.row 33 .whole [.nils]), .obj b26 (.row 53 .whole [(.int .i64 a1.P), (.int .i64 a1.Q)]), tb0, tb1, tb2, tb3])⟩
      refine Run.opsEnd (Run.seq (Run.seq (Run.region ?_)))
      refine Run.opG wantS_none (ex_move rfl) rfl ?_
      refine Run.opG wantS_none (ex_loadA rfl (hH42.cells (i := 1) rfl 0 rfl) rdLe_rfl agg53 rfl rfl rfl) rfl ?_
      refine Run.enter wantS_none (ex_call rfl mkk88 cal88) Tryz.func88 rfl rfl ?_
      refine Run.seq (Run.region ?_)
      refine Run.opX wantS_none rfl (ExG.box rfl rfl hH42) ?_
      rintro _ M45 ⟨b44, rfl, (hH45 : Has (ro (frozen M)) M45 [.obj b44 (.row 53 .whole [(.int .i64 a1.P), (.int .i64 a1.Q)]), .obj b41 (.row 33 .whole [.nils]), .obj b26 (.row 53 .whole [(.int .i64 a1.P), (.int .i64 a1.Q)]), tb0, tb1, tb2, tb3])⟩
      refine Run.opG wantS_none (ex_assign rfl) rfl ?_
      refine Run.opsEnd (Run.seq (Run.region ?_))
      refine Run.opG wantS_none (ex_move rfl) rfl ?_
      refine Run.opG wantS_none (ex_build (r := [(.int .i64 0), (.int .i64 0), (.int .i64 0), (.int .i64 0), (.int .i64 0), (.int .i64 0), (.int .i64 0), (.int .i64 0), (.int .i64 0), (.int .i64 0), (.int .i64 0), (.int .i64 0), (.int .i64 0), (.int .i64 0), (.int .i64 0), (.int .i64 0), (.int .i64 0), (.int .i64 0), (.int .i64 0), (.int .i64 0), (.int .i64 0), (.int .i64 0), (.int .i64 0), (.int .i64 0), (.int .i64 0), (.int .i64 0), (.int .i64 0), (.int .i64 0), (.int .i64 0), (.int .i64 0), (.int .i64 0), (.int .i64 0), (.int .i64 0), (.int .i64 0), (.int .i64 0), (.int .i64 0), (.int .i64 0), (.int .i64 0), (.int .i64 0), (.int .i64 0), (.int .i64 0), (.int .i64 0), (.int .i64 0), (.int .i64 0), (.int .i64 0), (.int .i64 0), (.int .i64 0), (.int .i64 0), (.int .i64 0), (.int .i64 0), (.int .i64 0), (.int .i64 0), (.int .i64 0), (.int .i64 0), (.int .i64 0), (.int .i64 0), (.int .i64 0), (.int .i64 0), (.int .i64 0), (.int .i64 0), (.int .i64 0), (.int .i64 0), (.int .i64 0), (.int .i64 0), (.int .i64 a0), (.int .i64 0)]) rfl zer188 pls188 rfl) rfl ?_
      refine Run.opX wantS_none rfl (ExG.box (c := ([0, 0, 0, 0, 0, 0, 0, 0, 0, 0, 0, 0, 0, 0, 0, 0, 0, 0, 0, 0, 0, 0, 0, 0, 0, 0, 0, 0, 0, 0, 0, 0, 0, 0, 0, 0, 0, 0, 0, 0, 0, 0, 0, 0, 0, 0, 0, 0, 0, 0, 0, 0, 0, 0, 0, 0, 0, 0, 0, 0, 0, 0, 0, 0, a0, 0] : List Int).flatMap enc3) rfl rfl hH45) ?_
      rintro _ M48 ⟨b47, rfl, (hH48 : Has (ro (frozen M)) M48 [.obj b47 (.row 188 .whole (([0, 0, 0, 0, 0, 0, 0, 0, 0, 0, 0, 0, 0, 0, 0, 0, 0, 0, 0, 0, 0, 0, 0, 0, 0, 0, 0, 0, 0, 0, 0, 0, 0, 0, 0, 0, 0, 0, 0, 0, 0, 0, 0, 0, 0, 0, 0, 0, 0, 0, 0, 0, 0, 0, 0, 0, 0, 0, 0, 0, 0, 0, 0, 0, a0, 0] : List Int).flatMap enc3)), .obj b44 (.row 53 .whole [(.int .i64 a1.P), (.int .i64 a1.Q)]), .obj b41 (.row 33 .whole [.nils]), .obj b26 (.row 53 .whole [(.int .i64 a1.P), (.int .i64 a1.Q)]), tb0, tb1, tb2, tb3])⟩
      refine Run.opG wantS_none (ex_assign rfl) rfl ?_
      refine Run.opsEnd (Run.seq (Run.seq (Run.region ?_)))
      refine Run.opG wantS_none (ex_move rfl) rfl ?_
      refine Run.opG wantS_none (ex_move rfl) rfl ?_
      refine Run.opsEnd (Run.block (Run.loop ?_))
      exact Run.low (.cons (fle_pick [2, 6, 7, 9] rfl) .nil) (Run.pick [3, 5, 10, 11] (bank_Filter_1_ok F F a0 (0 : Int) a2 (0 : Int) a1 ([0, 0, 0, 0, 0, 0, 0, 0, 0, 0, 0, 0, 0, 0, 0, 0, 0, 0, 0, 0, 0, 0, 0, 0, 0, 0, 0, 0, 0, 0, 0, 0, 0, 0, 0, 0, 0, 0, 0, 0, 0, 0, 0, 0, 0, 0, 0, 0, 0, 0, 0, 0, 0, 0, 0, 0, 0, 0, 0, 0, 0, 0, 0, 0, a0, 0] : List Int) s0 b44 b47 b41 _ _ _ hs0 (hH48.pick [1, 0, 2, 4, 5, 6, 7] rfl rfl) h))

theorem mkk34 : makeK Tryz.prog 34 = none := by kernel_rfl
theorem cal34 : callable Tryz.prog 34 = true := by kernel_rfl
theorem mkk25 : makeK Tryz.prog 25 = none := by kernel_rfl
theorem cal25 : callable Tryz.prog 25 = true := by kernel_rfl
theorem plan10_1_1_1_1_1_1_1_1_1_1_0_1_0_0_1_0_0_0 : planOf Tryz.prog (opsC (atC Tryz.prog 10 [1, 1, 1, 1, 1, 1, 1, 1, 1, 1, 0, 1, 0, 0, 1, 0, 0, 0])) = some [.fl 0, .fl 1, .fl 2, .fl 3, .fl 4, .fl 5, .fl 6, .fl 7, .fl 8, .fl 9, .fl 10, .fl 11, .fl 12, .fl 13, .sync] := by kernel_rfl
theorem plan10_1_1_0 : planOf Tryz.prog (opsC (atC Tryz.prog 10 [1, 1, 0])) = some [.fl 0, .fl 1, .fl 2, .fl 3, .fl 4, .fl 5, .fl 6, .fl 7, .fl 8, .fl 9, .sync] := by kernel_rfl
abbrev law07_BankLinear_post (r : Bool) : SV → Mem → Prop := fun s _ => s = (.bool r)

def law07_BankLinear_6 (F : Nat) : Nat → Int → (List Int) → (List Int) → (List Int) → Option (Bool)
  | 0, _, _, _, _ => none
  | N + 1, v18, l52, l57, l62 =>
    bif (decide (v18 < (l52.length : Int))) then
      bnd (idx l52 v18) fun x74 =>
      bnd (idx l57 v18) fun x75 =>
      bnd (idx l62 v18) fun x76 =>
      bif (!((w64 (x74 + x75)) == x76)) then
        some false
      else
        (law07_BankLinear_6 F N) (w64 (v18 + (1 : Int))) l52 l57 l62
    else
      bnd (works F) fun r79 =>
      some r79

theorem law07_BankLinear_6_ok (F : Nat) : ∀ (N : Nat), ∀ (v18 : Int) (l52 : (List Int)) (l57 : (List Int)) (l62 : (List Int)) (s52 : SV) (s57 : SV) (s62 : SV) (Fr : Rd) (M : Mem) (r : Bool) (hH : Has Fr M [.vec 3 1 l52.length s52 (l52.flatMap enc3), .vec 3 1 l57.length s57 (l57.flatMap enc3), .vec 3 1 l62.length s62 (l62.flatMap enc3), tb0, tb1, tb2, tb3]), law07_BankLinear_6 F N v18 l52 l57 l62 = some r → Run Tryz.prog ⟨⟨10, [], none⟩, []⟩ 126 (law07_BankLinear_post r) [(12, s52), (14, s57), (16, s62), (18, (.int .i64 v18))] [codeC Tryz.prog 10 [1, 1, 1, 1, 1, 1, 1, 1, 1, 1, 0, 1, 0, 0], loopC Tryz.prog 10 [1, 1, 1, 1, 1, 1, 1, 1, 1, 1, 0, 1, 0, 0], .inBlock 2, codeC Tryz.prog 10 [1, 1, 1, 1, 1, 1, 1, 1, 1, 1, 1]] M := by
  intro N
  induction N with
  | zero =>
    intro v18 l52 l57 l62 s52 s57 s62 Fr M r hH h
    simp [law07_BankLinear_6] at h
  | succ N ih =>
    intro v18 l52 l57 l62 s52 s57 s62 Fr M r hH h
    rw [law07_BankLinear_6] at h
    refine Run.seq (Run.seq (Run.region ?_))
    refine Run.opG wantS_none (ex_move rfl) rfl ?_
    refine Run.opG wantS_none (ex_move rfl) rfl ?_
    refine Run.opG wantS_none (ex_len' rfl (hH.slc (i := 0) rfl enc3_len) lenk33) rfl ?_
    refine Run.opG wantS_none (ex_lss rfl rfl) rfl ?_
    refine Run.opsEnd ?_
    rcases btf ((decide (v18 < (l52.length : Int)))) with hc73 | hc73
    · have h := bif_t hc73 h
      refine Run.condT' rfl hc73 ?_
      refine Run.skip (Run.seq (Run.block (Run.seq ?_)))
      refine Run.drawG plan10_1_1_1_1_1_1_1_1_1_1_0_1_0_0_1_0_0_0 ?_
      refine DrawG.fl rfl (ev_ex wantS_none (ex_move rfl)) rfl ?_
      refine DrawG.fl rfl (ev_ex wantS_none (ex_move rfl)) rfl ?_
      obtain ⟨x74, hx74, h⟩ := bnd_some h
      obtain ⟨p74, o74, hb74, hx74, he74⟩ := vec_elem (P := Tryz.prog) (t := 33) (kk := .i64) hH (i := 0) rfl hx74 els33
      refine DrawG.fl rfl (ev_ex wantS_none (ex_elX rfl rfl hx74)) rfl ?_
      refine DrawG.fl rfl (ev_ex wantS_none (ex_load1 rfl (hH.at (enc := enc3) (a := x74) (i := 0) rfl hb74 he74 enc3_len) rdLe_rfl agg3)) rfl ?_
      refine DrawG.fl rfl (ev_ex wantS_none (ex_move rfl)) rfl ?_
      refine DrawG.fl rfl (ev_ex wantS_none (ex_move rfl)) rfl ?_
      obtain ⟨x75, hx75, h⟩ := bnd_some h
      obtain ⟨p75, o75, hb75, hx75, he75⟩ := vec_elem (P := Tryz.prog) (t := 33) (kk := .i64) hH (i := 1) rfl hx75 els33
      refine DrawG.fl rfl (ev_ex wantS_none (ex_elX rfl rfl hx75)) rfl ?_
      refine DrawG.fl rfl (ev_ex wantS_none (ex_load1 rfl (hH.at (enc := enc3) (a := x75) (i := 1) rfl hb75 he75 enc3_len) rdLe_rfl agg3)) rfl ?_
      refine DrawG.fl rfl (ev_ex wantS_none (ex_add rfl rfl)) rfl ?_
      refine DrawG.fl rfl (ev_ex wantS_none (ex_move rfl)) rfl ?_
      refine DrawG.fl rfl (ev_ex wantS_none (ex_move rfl)) rfl ?_
      obtain ⟨x76, hx76, h⟩ := bnd_some h
      obtain ⟨p76, o76, hb76, hx76, he76⟩ := vec_elem (P := Tryz.prog) (t := 33) (kk := .i64) hH (i := 2) rfl hx76 els33
      refine DrawG.fl rfl (ev_ex wantS_none (ex_elX rfl rfl hx76)) rfl ?_
      refine DrawG.fl rfl (ev_ex wantS_none (ex_load1 rfl (hH.at (enc := enc3) (a := x76) (i := 2) rfl hb76 he76 enc3_len) rdLe_rfl agg3)) rfl ?_
      refine DrawG.fl rfl (ev_ex wantS_none (ex_neq rfl rfl)) rfl ?_
      refine DrawG.sync ?_
      refine DrawG.nil ?_
      rcases btf ((!((w64 (x74 + x75)) == x76))) with hc77 | hc77
      · have h := bif_t hc77 h
        refine Run.condT' rfl hc77 ?_
        refine Run.seq (Run.region ?_)
        refine Run.opG wantS_none (ex_assign rfl) rfl ?_
        refine Run.opsEnd ?_
        cases h
        exact Run.ret Tryz.func10 rfl (res_tmp rfl res_nil) rfl
      · have h := bif_f hc77 h
        refine Run.condF' rfl hc77 ?_
        refine Run.skip (Run.inBlock (Run.region ?_))
        refine Run.opG wantS_none (ex_move rfl) rfl ?_
        refine Run.opG wantS_none (ex_add rfl rfl) rfl ?_
        refine Run.opG wantS_none (ex_assign rfl) rfl ?_
        refine Run.opsEnd (Run.inLoop ?_)
        exact Run.pick [12, 14, 16, 18] (ih (w64 (v18 + (1 : Int))) l52 l57 l62 s52 s57 s62 _ _ _ hH h)
    · have h := bif_f hc73 h
      refine Run.condF' rfl hc73 ?_
      refine Run.exit rfl (Run.seq (Run.region ?_))
      obtain ⟨r79, hr79, h⟩ := bnd_some h
      refine Run.callP wantS_none (ex_call rfl mkk25 cal25) rfl (works_ok F r79 _ hH (List.mem_of_getElem? (i := 3) rfl) (List.mem_of_getElem? (i := 4) rfl) (List.mem_of_getElem? (i := 5) rfl) (List.mem_of_getElem? (i := 6) rfl) hr79) ?_
      refine Run.opG wantS_none (ex_assign rfl) rfl ?_
      refine Run.opsEnd ?_
      cases h
      exact Run.ret Tryz.func10 rfl (res_tmp rfl res_nil) rfl

def law07_BankLinear_5 (F : Nat) (v104 : Bool) (l52 : (List Int)) (l57 : (List Int)) (l62 : (List Int)) : Option (Bool) :=
  bif v104 then
    some false
  else
    law07_BankLinear_6 F F (0 : Int) l52 l57 l62

theorem law07_BankLinear_5_ok (F : Nat) : ∀ (v104 : Bool) (l52 : (List Int)) (l57 : (List Int)) (l62 : (List Int)) (s52 : SV) (s57 : SV) (s62 : SV) (Fr : Rd) (M : Mem) (r : Bool) (hH : Has Fr M [.vec 3 1 l52.length s52 (l52.flatMap enc3), .vec 3 1 l57.length s57 (l57.flatMap enc3), .vec 3 1 l62.length s62 (l62.flatMap enc3), tb0, tb1, tb2, tb3]), law07_BankLinear_5 F v104 l52 l57 l62 = some r → Run Tryz.prog ⟨⟨10, [], none⟩, []⟩ 126 (law07_BankLinear_post r) [(12, s52), (14, s57), (16, s62), (104, (.bool v104))] [codeC Tryz.prog 10 [1, 1, 1, 1, 1, 1, 1, 1, 1, 0, 1], codeC Tryz.prog 10 [1, 1, 1, 1, 1, 1, 1, 1, 1, 1]] M := by
  intro v104 l52 l57 l62 s52 s57 s62 Fr M r hH h
  rw [law07_BankLinear_5] at h
  rcases btf (v104) with hc72 | hc72
  · have h := bif_t hc72 h
    refine Run.condT' rfl hc72 ?_
    refine Run.seq (Run.region ?_)
    refine Run.opG wantS_none (ex_assign rfl) rfl ?_
    refine Run.opsEnd ?_
    cases h
    exact Run.ret Tryz.func10 rfl (res_tmp rfl res_nil) rfl
  · have h := bif_f hc72 h
    refine Run.condF' rfl hc72 ?_
    refine Run.skip (Run.seq (Run.seq (Run.region ?_)))
    refine Run.opG wantS_none (ex_assign rfl) rfl ?_
    refine Run.opsEnd (Run.block (Run.loop ?_))
    exact Run.pick [12, 14, 16, 18] (law07_BankLinear_6_ok F F (0 : Int) l52 l57 l62 s52 s57 s62 _ _ _ hH h)

def law07_BankLinear_4 (F : Nat) (v97 : Bool) (l52 : (List Int)) (l57 : (List Int)) (l62 : (List Int)) : Option (Bool) :=
  bif v97 then
    law07_BankLinear_5 F true l52 l57 l62
  else
    law07_BankLinear_5 F (!((l62.length : Int) == (l52.length : Int))) l52 l57 l62

theorem law07_BankLinear_4_ok (F : Nat) : ∀ (v97 : Bool) (l52 : (List Int)) (l57 : (List Int)) (l62 : (List Int)) (s52 : SV) (s57 : SV) (s62 : SV) (Fr : Rd) (M : Mem) (r : Bool) (hH : Has Fr M [.vec 3 1 l52.length s52 (l52.flatMap enc3), .vec 3 1 l57.length s57 (l57.flatMap enc3), .vec 3 1 l62.length s62 (l62.flatMap enc3), tb0, tb1, tb2, tb3]), law07_BankLinear_4 F v97 l52 l57 l62 = some r → Run Tryz.prog ⟨⟨10, [], none⟩, []⟩ 126 (law07_BankLinear_post r) [(12, s52), (14, s57), (16, s62), (97, (.bool v97))] [itemC Tryz.prog 10 [1, 1, 1, 1, 1, 1, 1, 1, 1, 0, 0] 15, codeC Tryz.prog 10 [1, 1, 1, 1, 1, 1, 1, 1, 1, 0, 1], codeC Tryz.prog 10 [1, 1, 1, 1, 1, 1, 1, 1, 1, 1]] M := by
  intro v97 l52 l57 l62 s52 s57 s62 Fr M r hH h
  rw [law07_BankLinear_4] at h
  refine Run.opG wantS_none (ex_move rfl) rfl ?_
  rcases btf (v97) with hc71 | hc71
  · have h := bif_t hc71 h
    refine Run.no (wantS_not' rfl rfl hc71) rfl ?_
    refine Run.no (wantS_not' rfl rfl hc71) rfl ?_
    refine Run.no (wantS_not' rfl rfl hc71) rfl ?_
    refine Run.no (wantS_not' rfl rfl hc71) rfl ?_
    refine Run.no (wantS_not' rfl rfl hc71) rfl ?_
    refine Run.opG wantS_none (ex_pickT' rfl hc71 rfl rfl) rfl ?_
    refine Run.opsEnd ?_
    exact Run.pick [12, 14, 16, 104] (law07_BankLinear_5_ok F true l52 l57 l62 s52 s57 s62 _ _ _ hH h)
  · have h := bif_f hc71 h
    refine Run.opG (wantS_yes' rfl rfl hc71) (ex_move rfl) rfl ?_
    refine Run.opG (wantS_yes' rfl rfl hc71) (ex_len' rfl (hH.slc (i := 2) rfl enc3_len) lenk33) rfl ?_
    refine Run.opG (wantS_yes' rfl rfl hc71) (ex_move rfl) rfl ?_
    refine Run.opG (wantS_yes' rfl rfl hc71) (ex_len' rfl (hH.slc (i := 0) rfl enc3_len) lenk33) rfl ?_
    refine Run.opG (wantS_yes' rfl rfl hc71) (ex_neq rfl rfl) rfl ?_
    refine Run.opG wantS_none (ex_pickF' rfl hc71 rfl rfl) rfl ?_
    refine Run.opsEnd ?_
    exact Run.pick [12, 14, 16, 104] (law07_BankLinear_5_ok F (!((l62.length : Int) == (l52.length : Int))) l52 l57 l62 s52 s57 s62 _ _ _ hH h)

def law07_BankLinear_3 (F : Nat) (v0 : Int) (v7 : Int) (v81 : Bool) (l52 : (List Int)) (l57 : (List Int)) (l62 : (List Int)) : Option (Bool) :=
  bif v81 then
    bnd (works F) fun r68 =>
    some r68
  else
    bif (!((l52.length : Int) == (max (0 : Int) (w64 ((w64 (v7 - v0)) + (1 : Int)))))) then
      law07_BankLinear_4 F true l52 l57 l62
    else
      law07_BankLinear_4 F (!((l57.length : Int) == (l52.length : Int))) l52 l57 l62

theorem law07_BankLinear_3_ok (F : Nat) : ∀ (v0 : Int) (v7 : Int) (v81 : Bool) (l52 : (List Int)) (l57 : (List Int)) (l62 : (List Int)) (s52 : SV) (s57 : SV) (s62 : SV) (Fr : Rd) (M : Mem) (r : Bool) (hH : Has Fr M [.vec 3 1 l52.length s52 (l52.flatMap enc3), .vec 3 1 l57.length s57 (l57.flatMap enc3), .vec 3 1 l62.length s62 (l62.flatMap enc3), tb0, tb1, tb2, tb3]), law07_BankLinear_3 F v0 v7 v81 l52 l57 l62 = some r → Run Tryz.prog ⟨⟨10, [], none⟩, []⟩ 126 (law07_BankLinear_post r) [(0, (.int .i64 v0)), (7, (.int .i64 v7)), (12, s52), (14, s57), (16, s62), (81, (.bool v81))] [codeC Tryz.prog 10 [1, 1, 1, 1, 1, 1, 1, 1, 0, 1], codeC Tryz.prog 10 [1, 1, 1, 1, 1, 1, 1, 1, 1]] M := by
  intro v0 v7 v81 l52 l57 l62 s52 s57 s62 Fr M r hH h
  rw [law07_BankLinear_3] at h
  rcases btf (v81) with hc66 | hc66
  · have h := bif_t hc66 h
    refine Run.condT' rfl hc66 ?_
    refine Run.seq (Run.region ?_)
    obtain ⟨r68, hr68, h⟩ := bnd_some h
    refine Run.callP wantS_none (ex_call rfl mkk25 cal25) rfl (works_ok F r68 _ hH (List.mem_of_getElem? (i := 3) rfl) (List.mem_of_getElem? (i := 4) rfl) (List.mem_of_getElem? (i := 5) rfl) (List.mem_of_getElem? (i := 6) rfl) hr68) ?_
    refine Run.opG wantS_none (ex_assign rfl) rfl ?_
    refine Run.opsEnd ?_
    cases h
    exact Run.ret Tryz.func10 rfl (res_tmp rfl res_nil) rfl
  · have h := bif_f hc66 h
    refine Run.condF' rfl hc66 ?_
    refine Run.skip (Run.seq (Run.seq (Run.region ?_)))
    refine Run.opG wantS_none (ex_move rfl) rfl ?_
    refine Run.opG wantS_none (ex_len' rfl (hH.slc (i := 0) rfl enc3_len) lenk33) rfl ?_
    refine Run.opG wantS_none (ex_move rfl) rfl ?_
    refine Run.opG wantS_none (ex_move rfl) rfl ?_
    refine Run.opG wantS_none (ex_sub rfl rfl) rfl ?_
    refine Run.opG wantS_none (ex_add rfl rfl) rfl ?_
    refine Run.opG wantS_none (ex_max rfl rfl) rfl ?_
    refine Run.opG wantS_none (ex_neq rfl rfl) rfl ?_
    refine Run.opG wantS_none (ex_move rfl) rfl ?_
    rcases btf ((!((l52.length : Int) == (max (0 : Int) (w64 ((w64 (v7 - v0)) + (1 : Int))))))) with hc70 | hc70
    · have h := bif_t hc70 h
      refine Run.no (wantS_not' rfl rfl hc70) rfl ?_
      refine Run.no (wantS_not' rfl rfl hc70) rfl ?_
      refine Run.no (wantS_not' rfl rfl hc70) rfl ?_
      refine Run.no (wantS_not' rfl rfl hc70) rfl ?_
      refine Run.no (wantS_not' rfl rfl hc70) rfl ?_
      refine Run.opG wantS_none (ex_pickT' rfl hc70 rfl rfl) rfl ?_
      exact Run.pick [12, 14, 16, 97] (law07_BankLinear_4_ok F true l52 l57 l62 s52 s57 s62 _ _ _ hH h)
    · have h := bif_f hc70 h
      refine Run.opG (wantS_yes' rfl rfl hc70) (ex_move rfl) rfl ?_
      refine Run.opG (wantS_yes' rfl rfl hc70) (ex_len' rfl (hH.slc (i := 1) rfl enc3_len) lenk33) rfl ?_
      refine Run.opG (wantS_yes' rfl rfl hc70) (ex_move rfl) rfl ?_
      refine Run.opG (wantS_yes' rfl rfl hc70) (ex_len' rfl (hH.slc (i := 0) rfl enc3_len) lenk33) rfl ?_
      refine Run.opG (wantS_yes' rfl rfl hc70) (ex_neq rfl rfl) rfl ?_
      refine Run.opG wantS_none (ex_pickF' rfl hc70 rfl rfl) rfl ?_
      exact Run.pick [12, 14, 16, 97] (law07_BankLinear_4_ok F (!((l57.length : Int) == (l52.length : Int))) l52 l57 l62 s52 s57 s62 _ _ _ hH h)

def law07_BankLinear_2 (F : Nat) (v0 : Int) (v7 : Int) (v17 : Int) (v77 : Bool) (l52 : (List Int)) (l57 : (List Int)) (l62 : (List Int)) : Option (Bool) :=
  bif v77 then
    law07_BankLinear_3 F v0 v7 true l52 l57 l62
  else
    law07_BankLinear_3 F v0 v7 (!(v17 == (0 : Int))) l52 l57 l62

theorem law07_BankLinear_2_ok (F : Nat) : ∀ (v0 : Int) (v7 : Int) (v17 : Int) (v77 : Bool) (l52 : (List Int)) (l57 : (List Int)) (l62 : (List Int)) (s52 : SV) (s57 : SV) (s62 : SV) (Fr : Rd) (M : Mem) (r : Bool) (hH : Has Fr M [.vec 3 1 l52.length s52 (l52.flatMap enc3), .vec 3 1 l57.length s57 (l57.flatMap enc3), .vec 3 1 l62.length s62 (l62.flatMap enc3), tb0, tb1, tb2, tb3]), law07_BankLinear_2 F v0 v7 v17 v77 l52 l57 l62 = some r → Run Tryz.prog ⟨⟨10, [], none⟩, []⟩ 126 (law07_BankLinear_post r) [(0, (.int .i64 v0)), (7, (.int .i64 v7)), (12, s52), (14, s57), (16, s62), (17, (.int .i64 v17)), (77, (.bool v77))] [itemC Tryz.prog 10 [1, 1, 1, 1, 1, 1, 1, 1, 0, 0] 6, codeC Tryz.prog 10 [1, 1, 1, 1, 1, 1, 1, 1, 0, 1], codeC Tryz.prog 10 [1, 1, 1, 1, 1, 1, 1, 1, 1]] M := by
  intro v0 v7 v17 v77 l52 l57 l62 s52 s57 s62 Fr M r hH h
  rw [law07_BankLinear_2] at h
  refine Run.opG wantS_none (ex_move rfl) rfl ?_
  rcases btf (v77) with hc65 | hc65
  · have h := bif_t hc65 h
    refine Run.no (wantS_not' rfl rfl hc65) rfl ?_
    refine Run.no (wantS_not' rfl rfl hc65) rfl ?_
    refine Run.opG wantS_none (ex_pickT' rfl hc65 rfl rfl) rfl ?_
    refine Run.opsEnd ?_
    exact Run.pick [0, 7, 12, 14, 16, 81] (law07_BankLinear_3_ok F v0 v7 true l52 l57 l62 s52 s57 s62 _ _ _ hH h)
  · have h := bif_f hc65 h
    refine Run.opG (wantS_yes' rfl rfl hc65) (ex_move rfl) rfl ?_
    refine Run.opG (wantS_yes' rfl rfl hc65) (ex_neq rfl rfl) rfl ?_
    refine Run.opG wantS_none (ex_pickF' rfl hc65 rfl rfl) rfl ?_
    refine Run.opsEnd ?_
    exact Run.pick [0, 7, 12, 14, 16, 81] (law07_BankLinear_3_ok F v0 v7 (!(v17 == (0 : Int))) l52 l57 l62 s52 s57 s62 _ _ _ hH h)

def law07_BankLinear_1 (F : Nat) : Nat → Int → Int → (List Int) → (List Int) → Int → S_api_Chirp → (List Int) → Option (Bool)
  | 0, _, _, _, _, _, _, _ => none
  | N + 1, v0, v7, v8, v9, v11, c26, l39 =>
    bif (decide (v11 < v7)) then
      bnd (idx v8 v11) fun x42 =>
      bnd (idx v9 v11) fun x43 =>
      bnd (apd 8 l39 ([(w64 (x42 + x43))] : List Int)) fun l46 =>
      (law07_BankLinear_1 F N) v0 v7 v8 v9 (w64 (v11 + (1 : Int))) c26 l46
    else
      bnd (bank_Filter F v0 c26 v8) fun r51 =>
      bnd (bank_Filter F v0 c26 v9) fun r56 =>
      bnd (bank_Filter F v0 c26 l39) fun r61 =>
      bif (!(r51.2 == (0 : Int))) then
        law07_BankLinear_2 F v0 v7 r61.2 true r51.1 r56.1 r61.1
      else
        law07_BankLinear_2 F v0 v7 r61.2 (!(r56.2 == (0 : Int))) r51.1 r56.1 r61.1

theorem law07_BankLinear_1_ok (F : Nat) : ∀ (N : Nat), ∀ (v0 : Int) (v7 : Int) (v8 : (List Int)) (v9 : (List Int)) (v11 : Int) (c26 : S_api_Chirp) (l39 : (List Int)) (sv8 : SV) (sv9 : SV) (b26 : Pos) (s39 : SV) (Fr : Rd) (M : Mem) (r : Bool) (hv8 : Slc Fr 1 (FlatR enc3) sv8 v8) (hv9 : Slc Fr 1 (FlatR enc3) sv9 v9) (hH : Has Fr M [.obj b26 (.row 53 .whole [(.int .i64 c26.P), (.int .i64 c26.Q)]), .vec 3 1 l39.length s39 (l39.flatMap enc3), tb0, tb1, tb2, tb3]), law07_BankLinear_1 F N v0 v7 v8 v9 v11 c26 l39 = some r → Run Tryz.prog ⟨⟨10, [], none⟩, []⟩ 126 (law07_BankLinear_post r) [(0, (.int .i64 v0)), (4, (.ptr b26 0)), (7, (.int .i64 v7)), (8, sv8), (9, sv9), (10, s39), (11, (.int .i64 v11))] [codeC Tryz.prog 10 [1, 1, 1, 1, 0, 1, 0, 0], loopC Tryz.prog 10 [1, 1, 1, 1, 0, 1, 0, 0], .inBlock 0, codeC Tryz.prog 10 [1, 1, 1, 1, 1]] M := by
  intro N
  induction N with
  | zero =>
    intro v0 v7 v8 v9 v11 c26 l39 sv8 sv9 b26 s39 Fr M r hv8 hv9 hH h
    simp [law07_BankLinear_1] at h
  | succ N ih =>
    intro v0 v7 v8 v9 v11 c26 l39 sv8 sv9 b26 s39 Fr M r hv8 hv9 hH h
    rw [law07_BankLinear_1] at h
    refine Run.seq (Run.seq (Run.region ?_))
    refine Run.opG wantS_none (ex_move rfl) rfl ?_
    refine Run.opG wantS_none (ex_move rfl) rfl ?_
    refine Run.opG wantS_none (ex_lss rfl rfl) rfl ?_
    refine Run.opsEnd ?_
    rcases btf ((decide (v11 < v7))) with hc41 | hc41
    · have h := bif_t hc41 h
      refine Run.condT' rfl hc41 ?_
      refine Run.skip (Run.seq (Run.block ?_))
      refine Run.drawG plan10_1_1_1_1_0_1_0_0_1_0_0 ?_
      refine DrawG.fl rfl (ev_ex wantS_none (ex_move rfl)) rfl ?_
      refine DrawG.fl rfl (ev_ex wantS_none (ex_move rfl)) rfl ?_
      refine DrawG.fl rfl (ev_ex wantS_none (ex_move rfl)) rfl ?_
      obtain ⟨x42, hx42, h⟩ := bnd_some h
      obtain ⟨p42, o42, _, hx42, hp42, rfl⟩ := sl_elem (P := Tryz.prog) (t := 33) (kk := .i64) hv8 hx42 els33
      refine DrawG.fl rfl (ev_ex wantS_none (ex_elX rfl rfl hx42)) rfl ?_
      refine DrawG.fl rfl (ev_ex wantS_none (ex_load1 rfl (hH.ptrF hp42) rdLe_rfl agg3)) rfl ?_
      refine DrawG.fl rfl (ev_ex wantS_none (ex_move rfl)) rfl ?_
      refine DrawG.fl rfl (ev_ex wantS_none (ex_move rfl)) rfl ?_
      obtain ⟨x43, hx43, h⟩ := bnd_some h
      obtain ⟨p43, o43, _, hx43, hp43, rfl⟩ := sl_elem (P := Tryz.prog) (t := 33) (kk := .i64) hv9 hx43 els33
      refine DrawG.fl rfl (ev_ex wantS_none (ex_elX rfl rfl hx43)) rfl ?_
      refine DrawG.fl rfl (ev_ex wantS_none (ex_load1 rfl (hH.ptrF hp43) rdLe_rfl agg3)) rfl ?_
      refine DrawG.fl rfl (ev_ex wantS_none (ex_add rfl rfl)) rfl ?_
      refine DrawG.opX rfl wantS_none rfl (ExG.built (enc := enc3) (l := ([(w64 (x42 + x43))] : List Int)) (z := 1) rfl elt33 rfl rfl rfl enc3_len hH) ?_
      rintro s44 M45 (hH45 : Has Fr M45 [.vec 3 1 ([(w64 (x42 + x43))] : List Int).length s44 (([(w64 (x42 + x43))] : List Int).flatMap enc3), .obj b26 (.row 53 .whole [(.int .i64 c26.P), (.int .i64 c26.Q)]), .vec 3 1 l39.length s39 (l39.flatMap enc3), tb0, tb1, tb2, tb3])
      refine ⟨(st_cons rfl (ev_ex wantS_none (ex_move rfl)) rfl rfl (blk_self hH45 (i := 2) rfl) st_nil), ?_⟩
      obtain ⟨l46, hl46, h⟩ := bnd_some h
      refine DrawG.opX rfl wantS_none rfl (ExG.append rfl rfl hH45 (i := 2) rfl enc3_len rfl enc3_ones appt33_33 rfl (len_slc (hH45.slc (i := 0) rfl enc3_len)) (first_slc (hH45.slc (i := 0) rfl enc3_len) (rdLe_rdRow _) enc3_len) hl46) ?_
      rintro s46 M48 (hH48 : Has Fr M48 [.vec 3 1 ([(w64 (x42 + x43))] : List Int).length s44 (([(w64 (x42 + x43))] : List Int).flatMap enc3), .obj b26 (.row 53 .whole [(.int .i64 c26.P), (.int .i64 c26.Q)]), .vec 3 1 l46.length s46 (l46.flatMap enc3), tb0, tb1, tb2, tb3])
      refine ⟨st_nil, ?_⟩
      refine DrawG.val rfl wantS_none (ex_assign rfl) rfl st_nil ?_
      refine DrawG.sync ?_
      refine DrawG.nil ?_
      refine Run.inBlock (Run.region ?_)
      refine Run.opG wantS_none (ex_move rfl) rfl ?_
      refine Run.opG wantS_none (ex_add rfl rfl) rfl ?_
      refine Run.opG wantS_none (ex_assign rfl) rfl ?_
      refine Run.opsEnd (Run.inLoop ?_)
      exact Run.pick [0, 4, 7, 8, 9, 10, 11] (ih v0 v7 v8 v9 (w64 (v11 + (1 : Int))) c26 l46 sv8 sv9 b26 s46 _ _ _ hv8 hv9 (hH48.pick [1, 2, 3, 4, 5, 6] rfl rfl) h)
    · have h := bif_f hc41 h
      refine Run.condF' rfl hc41 ?_
      refine Run.exit rfl (Run.seq (Run.region ?_))
      refine Run.opG wantS_none (ex_move rfl) rfl ?_
      refine Run.opG wantS_none (ex_loadA rfl (hH.cells (i := 0) rfl 0 rfl) rdLe_rfl agg53 rfl rfl rfl) rfl ?_
      refine Run.opG wantS_none (ex_move rfl) rfl ?_
      obtain ⟨r51, hr51, h⟩ := bnd_some h
      refine Run.callX wantS_none (ex_call rfl mkk34 cal34) rfl (bank_Filter_ok F v0 c26 v8 sv8 _ _ (hH.slcF hv8) (fixH hH (List.mem_of_getElem? (i := 2) rfl) (List.mem_of_getElem? (i := 3) rfl) (List.mem_of_getElem? (i := 4) rfl) (List.mem_of_getElem? (i := 5) rfl)) hr51) ?_
      rintro _ M53 ⟨s51_0, rfl, hN51⟩
      have hH53 : Has Fr M53 [.vec 3 1 r51.1.length s51_0 (r51.1.flatMap enc3), .obj b26 (.row 53 .whole [(.int .i64 c26.P), (.int .i64 c26.Q)]), .vec 3 1 l39.length s39 (l39.flatMap enc3), tb0, tb1, tb2, tb3] := hN51.1 _ _ hH
      refine Run.opG wantS_none (ex_move rfl) rfl ?_
      refine Run.opG wantS_none (ex_extract rfl rfl) rfl ?_
      refine Run.opG wantS_none (ex_extract rfl rfl) rfl ?_
      refine Run.opG wantS_none (ex_assign rfl) rfl ?_
      refine Run.opG wantS_none (ex_assign rfl) rfl ?_
      refine Run.opsEnd (Run.seq (Run.region ?_))
      refine Run.opG wantS_none (ex_move rfl) rfl ?_
      refine Run.opG wantS_none (ex_loadA rfl (hH53.cells (i := 1) rfl 0 rfl) rdLe_rfl agg53 rfl rfl rfl) rfl ?_
      refine Run.opG wantS_none (ex_move rfl) rfl ?_
      obtain ⟨r56, hr56, h⟩ := bnd_some h
      refine Run.callX wantS_none (ex_call rfl mkk34 cal34) rfl (bank_Filter_ok F v0 c26 v9 sv9 _ _ (hH53.slcF hv9) (fixH hH53 (List.mem_of_getElem? (i := 3) rfl) (List.mem_of_getElem? (i := 4) rfl) (List.mem_of_getElem? (i := 5) rfl) (List.mem_of_getElem? (i := 6) rfl)) hr56) ?_
      rintro _ M58 ⟨s56_0, rfl, hN56⟩
      have hH58 : Has Fr M58 [.vec 3 1 r56.1.length s56_0 (r56.1.flatMap enc3), .vec 3 1 r51.1.length s51_0 (r51.1.flatMap enc3), .obj b26 (.row 53 .whole [(.int .i64 c26.P), (.int .i64 c26.Q)]), .vec 3 1 l39.length s39 (l39.flatMap enc3), tb0, tb1, tb2, tb3] := hN56.1 _ _ hH53
      refine Run.opG wantS_none (ex_move rfl) rfl ?_
      refine Run.opG wantS_none (ex_extract rfl rfl) rfl ?_
      refine Run.opG wantS_none (ex_extract rfl rfl) rfl ?_
      refine Run.opG wantS_none (ex_assign rfl) rfl ?_
      refine Run.opG wantS_none (ex_assign rfl) rfl ?_
      refine Run.opsEnd (Run.seq (Run.region ?_))
      refine Run.opG wantS_none (ex_move rfl) rfl ?_
      refine Run.opG wantS_none (ex_loadA rfl (hH58.cells (i := 2) rfl 0 rfl) rdLe_rfl agg53 rfl rfl rfl) rfl ?_
      refine Run.opG wantS_none (ex_move rfl) rfl ?_
      obtain ⟨r61, hr61, h⟩ := bnd_some h
      refine Run.callX wantS_none (ex_call rfl mkk34 cal34) rfl (bank_Filter_ok F v0 c26 l39 s39 _ _ (hH58.slc (i := 3) rfl enc3_len) (fixH hH58 (List.mem_of_getElem? (i := 4) rfl) (List.mem_of_getElem? (i := 5) rfl) (List.mem_of_getElem? (i := 6) rfl) (List.mem_of_getElem? (i := 7) rfl)) hr61) ?_
      rintro _ M63 ⟨s61_0, rfl, hN61⟩
      have hH63 : Has Fr M63 [.vec 3 1 r61.1.length s61_0 (r61.1.flatMap enc3), .vec 3 1 r56.1.length s56_0 (r56.1.flatMap enc3), .vec 3 1 r51.1.length s51_0 (r51.1.flatMap enc3), .obj b26 (.row 53 .whole [(.int .i64 c26.P), (.int .i64 c26.Q)]), .vec 3 1 l39.length s39 (l39.flatMap enc3), tb0, tb1, tb2, tb3] := hN61.1 _ _ hH58
      refine Run.opG wantS_none (ex_move rfl) rfl ?_
      refine Run.opG wantS_none (ex_extract rfl rfl) rfl ?_
      refine Run.opG wantS_none (ex_extract rfl rfl) rfl ?_
      refine Run.opG wantS_none (ex_assign rfl) rfl ?_
      refine Run.opG wantS_none (ex_assign rfl) rfl ?_
      refine Run.opsEnd (Run.seq (Run.seq (Run.region ?_)))
      refine Run.opG wantS_none (ex_move rfl) rfl ?_
      refine Run.opG wantS_none (ex_neq rfl rfl) rfl ?_
      refine Run.opG wantS_none (ex_move rfl) rfl ?_
      rcases btf ((!(r51.2 == (0 : Int)))) with hc64 | hc64
      · have h := bif_t hc64 h
        refine Run.no (wantS_not' rfl rfl hc64) rfl ?_
        refine Run.no (wantS_not' rfl rfl hc64) rfl ?_
        refine Run.opG wantS_none (ex_pickT' rfl hc64 rfl rfl) rfl ?_
        exact Run.pick [0, 7, 12, 14, 16, 17, 77] (law07_BankLinear_2_ok F v0 v7 r61.2 true r51.1 r56.1 r61.1 s51_0 s56_0 s61_0 _ _ _ (hH63.pick [2, 1, 0, 5, 6, 7, 8] rfl rfl) h)
      · have h := bif_f hc64 h
        refine Run.opG (wantS_yes' rfl rfl hc64) (ex_move rfl) rfl ?_
        refine Run.opG (wantS_yes' rfl rfl hc64) (ex_neq rfl rfl) rfl ?_
        refine Run.opG wantS_none (ex_pickF' rfl hc64 rfl rfl) rfl ?_
        exact Run.pick [0, 7, 12, 14, 16, 17, 77] (law07_BankLinear_2_ok F v0 v7 r61.2 (!(r56.2 == (0 : Int))) r51.1 r56.1 r61.1 s51_0 s56_0 s61_0 _ _ _ (hH63.pick [2, 1, 0, 5, 6, 7, 8] rfl rfl) h)

def law07_BankLinear (F : Nat) (a0 : Int) (a1 : S_api_Chirp) (a2 : S__2_int) : Option (Bool) :=
  bnd (sub a2.e0 0 (min (a2.e0.length : Int) (a2.e1.length : Int))) fun l36 =>
  bnd (sub a2.e1 0 (min (a2.e0.length : Int) (a2.e1.length : Int))) fun l38 =>
  law07_BankLinear_1 F F a0 (min (a2.e0.length : Int) (a2.e1.length : Int)) l36 l38 (0 : Int) a1 ([] : List Int)

theorem law07_BankLinear_run (F : Nat) (a0 : Int) (a1 : S_api_Chirp) (a2 : S__2_int) (s0 s1 : SV) (r : Bool) (M : Mem) (hs0 : Slc (rd M) 1 (FlatR enc3) s0 a2.e0) (hs1 : Slc (rd M) 1 (FlatR enc3) s1 a2.e1) (hfx : FixIn M fixes) (h : law07_BankLinear F a0 a1 a2 = some r) : Run Tryz.prog (fx0 10) 126 (law07_BankLinear_post r) [(0, (.int .i64 a0)), (1, (.agg [(.int .i64 a1.P), (.int .i64 a1.Q)])), (2, (.agg [s0, s1]))] [codeC Tryz.prog 10 []] (frozen M) := by
  rw [law07_BankLinear] at h
  replace hs0 := hs0.mono (rdLe_frozen M) (fun _ _ h => h)
  replace hs1 := hs1.mono (rdLe_frozen M) (fun _ _ h => h)
  have hH : Has (ro (frozen M)) (frozen M) [tb0, tb1, tb2, tb3] := Has.ofFix hfx.frozen
  refine Run.seq (Run.region ?_)
  refine Run.opX wantS_none rfl (ExG.box rfl rfl hH) ?_
  rintro _ M27 ⟨b26, rfl, (hH27 : Has (ro (frozen M)) M27 [.obj b26 (.row 53 .whole [(.int .i64 a1.P), (.int .i64 a1.Q)]), tb0, tb1, tb2, tb3])⟩
  refine Run.opX wantS_none rfl (ExG.box rfl rfl hH27) ?_
  rintro _ M30 ⟨b29, rfl, (hH30 : Has (ro (frozen M)) M30 [.obj b29 (.row 69 .whole [s0, s1]), .obj b26 (.row 53 .whole [(.int .i64 a1.P), (.int .i64 a1.Q)]), tb0, tb1, tb2, tb3])⟩
  refine Run.opG wantS_none (ex_assign rfl) rfl ?_
  refine Run.opsEnd (Run.seq (Run.region ?_))
  refine Run.opG wantS_none (ex_elX rfl rfl (arr_place (j := 0) rfl els69)) rfl ?_
  refine Run.opG wantS_none (ex_load1 rfl (hH30.cells (i := 0) rfl 0 rfl) rdLe_rfl agg33) rfl ?_
  refine Run.opG wantS_none (ex_len' rfl hs0 lenk33) rfl ?_
  refine Run.opG wantS_none (ex_elX rfl rfl (arr_place (j := 1) rfl els69)) rfl ?_
  refine Run.opG wantS_none (ex_load1 rfl (hH30.cells (i := 0) rfl 1 rfl) rdLe_rfl agg33) rfl ?_
  refine Run.opG wantS_none (ex_len' rfl hs1 lenk33) rfl ?_
  refine Run.opG wantS_none (ex_min rfl rfl) rfl ?_
  refine Run.opG wantS_none (ex_assign rfl) rfl ?_
  refine Run.opsEnd (Run.seq ?_)
  refine Run.drawG plan10_1_1_0 ?_
  refine DrawG.fl rfl (ev_ex wantS_none (ex_elX rfl rfl (arr_place (j := 0) rfl els69))) rfl ?_
  refine DrawG.fl rfl (ev_ex wantS_none (ex_load1 rfl (hH30.cells (i := 0) rfl 0 rfl) rdLe_rfl agg33)) rfl ?_
  refine DrawG.fl rfl (ev_ex wantS_none (ex_move rfl)) rfl ?_
  obtain ⟨l36, hl36, h⟩ := bnd_some h
  obtain ⟨s36, hx36, hs36⟩ := sl_subH (P := Tryz.prog) (t := 33) (k0 := .i64) hs0 hl36 slk33
  refine DrawG.fl rfl (ev_ex wantS_none (ex_slX rfl (argO_none) (argO_some rfl) hx36)) rfl ?_
  refine DrawG.fl rfl (ev_ex wantS_none (ex_elX rfl rfl (arr_place (j := 1) rfl els69))) rfl ?_
  refine DrawG.fl rfl (ev_ex wantS_none (ex_load1 rfl (hH30.cells (i := 0) rfl 1 rfl) rdLe_rfl agg33)) rfl ?_
  refine DrawG.fl rfl (ev_ex wantS_none (ex_move rfl)) rfl ?_
  obtain ⟨l38, hl38, h⟩ := bnd_some h
  obtain ⟨s38, hx38, hs38⟩ := sl_subH (P := Tryz.prog) (t := 33) (k0 := .i64) hs1 hl38 slk33
  refine DrawG.fl rfl (ev_ex wantS_none (ex_slX rfl (argO_none) (argO_some rfl) hx38)) rfl ?_
  refine DrawG.fl rfl (ev_ex wantS_none (ex_assign rfl)) rfl ?_
  refine DrawG.fl rfl (ev_ex wantS_none (ex_assign rfl)) rfl ?_
  refine DrawG.sync ?_
  refine DrawG.nil ?_
  refine Run.seq (Run.region ?_)
  refine Run.opG wantS_none (ex_assign rfl) rfl ?_
  refine Run.opsEnd (Run.seq (Run.seq (Run.region ?_)))
  refine Run.opG wantS_none (ex_assign rfl) rfl ?_
  refine Run.opsEnd (Run.block (Run.loop ?_))
  have hH40 : Has (ro (frozen M)) M30 [.vec 3 1 ([] : List Int).length .nils (([] : List Int).flatMap enc3), .obj b29 (.row 69 .whole [s0, s1]), .obj b26 (.row 53 .whole [(.int .i64 a1.P), (.int .i64 a1.Q)]), tb0, tb1, tb2, tb3] := hH30.nils 3 1
  exact Run.pick [0, 4, 7, 8, 9, 10, 11] (law07_BankLinear_1_ok F F a0 (min (a2.e0.length : Int) (a2.e1.length : Int)) l36 l38 (0 : Int) a1 ([] : List Int) s36 s38 b26 .nils _ _ _ hs36 hs38 (hH40.pick [2, 0, 3, 4, 5, 6] rfl rfl) h)

end Go.Ev.BankLinear
