/- Plain functions that say what functions of the program come to, and proofs of it, written by a program of the verifier's own. -/
import Derived.Test.YtjddbfpinjjkkabGreatDoorSort
import Derived.Test.YtjddbfpinjjkkabGreatDoorEvL21
import Derived.Test.YtjddbfpinjjkkabGreatDoorWorks
import Derived.KernelRfl
namespace Go.Ev.SearchFilled
open Go Go.Ev Go.Proofs
set_option maxRecDepth 100000
set_option linter.unusedVariables false

noncomputable def fixes : List (Nat × List SV) := Go.Proofs.YtjddbfpinjjkkabGreatDoor.works.fixes
noncomputable def tb0 : Ent := fixE (0, intCells .i64 [0, 12, 25, 37, 49, 60, 71, 81, 90, 98, 106, 112, 117, 122, 125, 126, 127])
def works (_ : Nat) : Option Bool := some true
theorem fixH {Fr : Rd} {H : List Ent} {M : Mem} (hH : Has Fr M H) (h0 : tb0 ∈ H) : FixIn M fixes := by
  refine hH.fixIn fun x hx => ?_
  simp only [fixes, Go.Proofs.YtjddbfpinjjkkabGreatDoor.works.fixes, List.mem_cons, List.not_mem_nil, or_false] at hx
  rcases hx with rfl
  · exact h0

theorem works_ok (F : Nat) (r : Bool) {Fr : Rd} {H : List Ent} (M : Mem) (hH : Has Fr M H) (h0 : tb0 ∈ H) (h : works F = some r) : CallsM Tryz.prog 19 [] M fun s M' => s = .bool r ∧ M' = M := by
  cases h
  refine CallsM.closedFix (n := 600) (l := Go.Proofs.YtjddbfpinjjkkabGreatDoor.works.fixes) Go.Proofs.YtjddbfpinjjkkabGreatDoor.works.below Go.Proofs.YtjddbfpinjjkkabGreatDoor.works.plainF Go.Proofs.YtjddbfpinjjkkabGreatDoor.works.works_true (hH.fixIn fun x hx => ?_)
  simp only [Go.Proofs.YtjddbfpinjjkkabGreatDoor.works.fixes, List.mem_cons, List.not_mem_nil, or_false] at hx
  rcases hx with rfl
  · exact h0


structure S_api_Chirp where
  P : Int
  Q : Int

theorem agg27 : aggSize Tryz.prog 27 = some (some 2) := by kernel_rfl
def enc3 (a : Int) : List SV := [(.int .i64 a)]
theorem enc3_len (a : Int) : (enc3 a).length = 1 := rfl
theorem enc3_ones (a : Int) : ones (enc3 a) = true := rfl
abbrev bank_isFrom_post (r : Bool) : SV → Mem → Prop := fun s _ => s = (.bool r)

def bank_isFrom_1 (F : Nat) (v14 : Bool) : Option (Bool) :=
  some v14

theorem bank_isFrom_1_ok (F : Nat) : ∀ (v14 : Bool) (Fr : Rd) (M : Mem) (r : Bool) (hH : Has Fr M []), bank_isFrom_1 F v14 = some r → Run Tryz.prog ⟨⟨39, [], none⟩, []⟩ 15 (bank_isFrom_post r) [(14, (.bool v14))] [itemC Tryz.prog 39 [1, 0] 8, codeC Tryz.prog 39 [1, 1]] M := by
  intro v14 Fr M r hH h
  rw [bank_isFrom_1] at h
  refine Run.opG wantS_none (ex_assign rfl) rfl ?_
  refine Run.opsEnd ?_
  cases h
  exact Run.ret Tryz.func39 rfl (res_tmp rfl res_nil) rfl

def bank_isFrom (F : Nat) (a0 a1 a2 : Int) : Option (Bool) :=
  bif (decide (a0 ≤ a1)) then
    bank_isFrom_1 F (decide (a1 ≤ a2))
  else
    bank_isFrom_1 F false

theorem bank_isFrom_ok (F : Nat) (a0 a1 a2 : Int) (r : Bool) (M : Mem) (h : bank_isFrom F a0 a1 a2 = some r) : CallsM Tryz.prog 39 [(.int .i64 a0), (.int .i64 a1), (.int .i64 a2)] M (fun s M' => s = (.bool r) ∧ M' = M) := by
  refine CallsM.plain Tryz.func39 rfl rfl rfl (show Run _ _ _ (bank_isFrom_post r) _ _ _ from ?_)
  rw [bank_isFrom] at h
  have hH := Has.nil (frozen M)
  refine Run.seq (Run.region ?_)
  refine Run.opG wantS_none (ex_assign rfl) rfl ?_
  refine Run.opsEnd (Run.seq (Run.region ?_))
  refine Run.opG wantS_none (ex_move rfl) rfl ?_
  refine Run.opG wantS_none (ex_move rfl) rfl ?_
  refine Run.opG wantS_none (ex_leq rfl rfl) rfl ?_
  refine Run.opG wantS_none (ex_move rfl) rfl ?_
  rcases btf ((decide (a0 ≤ a1))) with hc21 | hc21
  · have h := bif_t hc21 h
    refine Run.opG (wantS_yes' rfl rfl hc21) (ex_move rfl) rfl ?_
    refine Run.opG (wantS_yes' rfl rfl hc21) (ex_move rfl) rfl ?_
    refine Run.opG (wantS_yes' rfl rfl hc21) (ex_leq rfl rfl) rfl ?_
    refine Run.opG wantS_none (ex_pickT' rfl hc21 rfl rfl) rfl ?_
    exact Run.pick [14] (bank_isFrom_1_ok F (decide (a1 ≤ a2)) _ _ _ hH h)
  · have h := bif_f hc21 h
    refine Run.no (wantS_not' rfl rfl hc21) rfl ?_
    refine Run.no (wantS_not' rfl rfl hc21) rfl ?_
    refine Run.no (wantS_not' rfl rfl hc21) rfl ?_
    refine Run.opG wantS_none (ex_pickF' rfl hc21 rfl rfl) rfl ?_
    exact Run.pick [14] (bank_isFrom_1_ok F false _ _ _ hH h)

theorem mkk39 : makeK Tryz.prog 39 = none := by kernel_rfl
theorem cal39 : callable Tryz.prog 39 = true := by kernel_rfl
abbrev bank_isLength_post (r : Bool) : SV → Mem → Prop := fun s _ => s = (.bool r)

def bank_isLength (F : Nat) (a0 : Int) : Option (Bool) :=
  bnd (bank_isFrom F (4 : Int) a0 (64 : Int)) fun r22 =>
  some r22

theorem bank_isLength_ok (F : Nat) (a0 : Int) (r : Bool) (M : Mem) (h : bank_isLength F a0 = some r) : CallsM Tryz.prog 36 [(.int .i64 a0)] M (fun s M' => s = (.bool r) ∧ M' = M) := by
  refine CallsM.plain Tryz.func36 rfl rfl rfl (show Run _ _ _ (bank_isLength_post r) _ _ _ from ?_)
  rw [bank_isLength] at h
  have hH := Has.nil (frozen M)
  refine Run.seq (Run.region ?_)
  refine Run.opG wantS_none (ex_assign rfl) rfl ?_
  refine Run.opsEnd (Run.seq (Run.region ?_))
  refine Run.opG wantS_none (ex_move rfl) rfl ?_
  obtain ⟨r22, hr22, h⟩ := bnd_some h
  refine Run.callP wantS_none (ex_call rfl mkk39 cal39) rfl (bank_isFrom_ok F (4 : Int) a0 (64 : Int) _ _ hr22) ?_
  refine Run.opG wantS_none (ex_assign rfl) rfl ?_
  refine Run.opsEnd ?_
  cases h
  exact Run.ret Tryz.func36 rfl (res_tmp rfl res_nil) rfl

theorem mkk36 : makeK Tryz.prog 36 = none := by kernel_rfl
theorem cal36 : callable Tryz.prog 36 = true := by kernel_rfl
theorem off27_0 : fieldOff Tryz.prog 27 0 = some 0 := by kernel_rfl
theorem agg3 : aggSize Tryz.prog 3 = some none := by kernel_rfl
abbrev bank_isPhase_post (r : Bool) : SV → Mem → Prop := fun s _ => s = (.bool r)

def bank_isPhase (F : Nat) (a0 : Int) : Option (Bool) :=
  bnd (bank_isFrom F (0 : Int) a0 (63 : Int)) fun r22 =>
  some r22

theorem bank_isPhase_ok (F : Nat) (a0 : Int) (r : Bool) (M : Mem) (h : bank_isPhase F a0 = some r) : CallsM Tryz.prog 117 [(.int .i64 a0)] M (fun s M' => s = (.bool r) ∧ M' = M) := by
  refine CallsM.plain Tryz.func117 rfl rfl rfl (show Run _ _ _ (bank_isPhase_post r) _ _ _ from ?_)
  rw [bank_isPhase] at h
  have hH := Has.nil (frozen M)
  refine Run.seq (Run.region ?_)
  refine Run.opG wantS_none (ex_assign rfl) rfl ?_
  refine Run.opsEnd (Run.seq (Run.region ?_))
  refine Run.opG wantS_none (ex_move rfl) rfl ?_
  obtain ⟨r22, hr22, h⟩ := bnd_some h
  refine Run.callP wantS_none (ex_call rfl mkk39 cal39) rfl (bank_isFrom_ok F (0 : Int) a0 (63 : Int) _ _ hr22) ?_
  refine Run.opG wantS_none (ex_assign rfl) rfl ?_
  refine Run.opsEnd ?_
  cases h
  exact Run.ret Tryz.func117 rfl (res_tmp rfl res_nil) rfl

theorem mkk117 : makeK Tryz.prog 117 = none := by kernel_rfl
theorem cal117 : callable Tryz.prog 117 = true := by kernel_rfl
theorem off27_1 : fieldOff Tryz.prog 27 1 = some 1 := by kernel_rfl
abbrev bank_isChirp_post (r : Bool) : SV → Mem → Prop := fun s _ => s = (.bool r)

def bank_isChirp_1 (F : Nat) (v10 : Bool) : Option (Bool) :=
  some v10

theorem bank_isChirp_1_ok (F : Nat) : ∀ (v10 : Bool) (Fr : Rd) (M : Mem) (r : Bool) (hH : Has Fr M []), bank_isChirp_1 F v10 = some r → Run Tryz.prog ⟨⟨71, [], none⟩, []⟩ 11 (bank_isChirp_post r) [(10, (.bool v10))] [itemC Tryz.prog 71 [1, 0] 8, codeC Tryz.prog 71 [1, 1]] M := by
  intro v10 Fr M r hH h
  rw [bank_isChirp_1] at h
  refine Run.opG wantS_none (ex_assign rfl) rfl ?_
  refine Run.opsEnd ?_
  cases h
  exact Run.ret Tryz.func71 rfl (res_tmp rfl res_nil) rfl

def bank_isChirp (F : Nat) (a0 : S_api_Chirp) : Option (Bool) :=
  bnd (bank_isPhase F a0.P) fun r25 =>
  bif r25 then
    bnd (bank_isPhase F a0.Q) fun r29 =>
    bank_isChirp_1 F r29
  else
    bank_isChirp_1 F false

theorem bank_isChirp_ok (F : Nat) (a0 : S_api_Chirp) (r : Bool) (M : Mem) (h : bank_isChirp F a0 = some r) : CallsM Tryz.prog 71 [(.agg [(.int .i64 a0.P), (.int .i64 a0.Q)])] M (fun s M' => s = (.bool r) ∧ M' = M) := by
  refine CallsM.plain Tryz.func71 rfl rfl rfl (show Run _ _ _ (bank_isChirp_post r) _ _ _ from ?_)
  rw [bank_isChirp] at h
  have hH := Has.nil (frozen M)
  refine Run.seq (Run.region ?_)
  refine Run.opX wantS_none rfl (ExG.box rfl rfl hH) ?_
  rintro _ M23 ⟨b22, rfl, hH23⟩
  refine Run.opG wantS_none (ex_assign rfl) rfl ?_
  refine Run.opsEnd (Run.seq (Run.region ?_))
  refine Run.opG wantS_none (ex_fieldAddr rfl off27_0) rfl ?_
  refine Run.opG wantS_none (ex_load1 rfl (hH23.cells (i := 0) rfl 0 rfl) rdLe_rfl agg3) rfl ?_
  obtain ⟨r25, hr25, h⟩ := bnd_some h
  refine Run.callP wantS_none (ex_call rfl mkk117 cal117) rfl (bank_isPhase_ok F a0.P _ _ hr25) ?_
  refine Run.opG wantS_none (ex_move rfl) rfl ?_
  rcases btf (r25) with hc27 | hc27
  · have h := bif_t hc27 h
    refine Run.opG (wantS_yes' rfl rfl hc27) (ex_fieldAddr rfl off27_1) rfl ?_
    refine Run.opG (wantS_yes' rfl rfl hc27) (ex_load1 rfl (hH23.cells (i := 0) rfl 1 rfl) rdLe_rfl agg3) rfl ?_
    obtain ⟨r29, hr29, h⟩ := bnd_some h
    refine Run.callP (wantS_yes' rfl rfl hc27) (ex_call rfl mkk117 cal117) rfl (bank_isPhase_ok F a0.Q _ _ hr29) ?_
    refine Run.opG wantS_none (ex_pickT' rfl hc27 rfl rfl) rfl ?_
    exact Run.pick [10] (bank_isChirp_1_ok F r29 _ _ _ (hH23.pick [] rfl rfl) h)
  · have h := bif_f hc27 h
    refine Run.no (wantS_not' rfl rfl hc27) rfl ?_
    refine Run.no (wantS_not' rfl rfl hc27) rfl ?_
    refine Run.no (wantS_not' rfl rfl hc27) rfl ?_
    refine Run.opG wantS_none (ex_pickF' rfl hc27 rfl rfl) rfl ?_
    exact Run.pick [10] (bank_isChirp_1_ok F false _ _ _ (hH23.pick [] rfl rfl) h)

theorem mkk71 : makeK Tryz.prog 71 = none := by kernel_rfl
theorem cal71 : callable Tryz.prog 71 = true := by kernel_rfl
abbrev bank_CheckChirp_post (r : Int) : SV → Mem → Prop := fun s _ => s = (.int .i64 r)

def bank_CheckChirp_1 (F : Nat) (v12 : Bool) : Option (Int) :=
  bif v12 then
    some (70 : Int)
  else
    some (0 : Int)

theorem bank_CheckChirp_1_ok (F : Nat) : ∀ (v12 : Bool) (Fr : Rd) (M : Mem) (r : Int) (hH : Has Fr M []), bank_CheckChirp_1 F v12 = some r → Run Tryz.prog ⟨⟨25, [], none⟩, []⟩ 13 (bank_CheckChirp_post r) [(12, (.bool v12))] [codeC Tryz.prog 25 [1, 0, 1], codeC Tryz.prog 25 [1, 1]] M := by
  intro v12 Fr M r hH h
  rw [bank_CheckChirp_1] at h
  rcases btf (v12) with hc28 | hc28
  · have h := bif_t hc28 h
    refine Run.condT' rfl hc28 ?_
    refine Run.seq (Run.region ?_)
    refine Run.opG wantS_none (ex_assign rfl) rfl ?_
    refine Run.opsEnd ?_
    cases h
    exact Run.ret Tryz.func25 rfl (res_tmp rfl res_nil) rfl
  · have h := bif_f hc28 h
    refine Run.condF' rfl hc28 ?_
    refine Run.skip (Run.seq (Run.region ?_))
    refine Run.opG wantS_none (ex_assign rfl) rfl ?_
    refine Run.opsEnd ?_
    cases h
    exact Run.ret Tryz.func25 rfl (res_tmp rfl res_nil) rfl

def bank_CheckChirp (F : Nat) (a0 : Int) (a1 : S_api_Chirp) : Option (Int) :=
  bnd (bank_isLength F a0) fun r25 =>
  bif (!r25) then
    bank_CheckChirp_1 F true
  else
    bnd (bank_isChirp F a1) fun r30 =>
    bank_CheckChirp_1 F (!r30)

theorem bank_CheckChirp_ok (F : Nat) (a0 : Int) (a1 : S_api_Chirp) (r : Int) (M : Mem) (h : bank_CheckChirp F a0 a1 = some r) : CallsM Tryz.prog 25 [(.int .i64 a0), (.agg [(.int .i64 a1.P), (.int .i64 a1.Q)])] M (fun s M' => s = (.int .i64 r) ∧ M' = M) := by
  refine CallsM.plain Tryz.func25 rfl rfl rfl (show Run _ _ _ (bank_CheckChirp_post r) _ _ _ from ?_)
  rw [bank_CheckChirp] at h
  have hH := Has.nil (frozen M)
  refine Run.seq (Run.region ?_)
  refine Run.opX wantS_none rfl (ExG.box rfl rfl hH) ?_
  rintro _ M23 ⟨b22, rfl, hH23⟩
  refine Run.opG wantS_none (ex_assign rfl) rfl ?_
  refine Run.opsEnd (Run.seq (Run.seq (Run.region ?_)))
  refine Run.opG wantS_none (ex_move rfl) rfl ?_
  obtain ⟨r25, hr25, h⟩ := bnd_some h
  refine Run.callP wantS_none (ex_call rfl mkk36 cal36) rfl (bank_isLength_ok F a0 _ _ hr25) ?_
  refine Run.opG wantS_none (ex_not rfl) rfl ?_
  refine Run.opG wantS_none (ex_move rfl) rfl ?_
  rcases btf ((!r25)) with hc27 | hc27
  · have h := bif_t hc27 h
    refine Run.no (wantS_not' rfl rfl hc27) rfl ?_
    refine Run.no (wantS_not' rfl rfl hc27) rfl ?_
    refine Run.no (wantS_not' rfl rfl hc27) rfl ?_
    refine Run.opG wantS_none (ex_pickT' rfl hc27 rfl rfl) rfl ?_
    refine Run.opsEnd ?_
    exact Run.pick [12] (bank_CheckChirp_1_ok F true _ _ _ (hH23.pick [] rfl rfl) h)
  · have h := bif_f hc27 h
    refine Run.opG (wantS_yes' rfl rfl hc27) (ex_loadA rfl (hH23.cells (i := 0) rfl 0 rfl) rdLe_rfl agg27 rfl rfl rfl) rfl ?_
    obtain ⟨r30, hr30, h⟩ := bnd_some h
    refine Run.callP (wantS_yes' rfl rfl hc27) (ex_call rfl mkk71 cal71) rfl (bank_isChirp_ok F a1 _ _ hr30) ?_
    refine Run.opG (wantS_yes' rfl rfl hc27) (ex_not rfl) rfl ?_
    refine Run.opG wantS_none (ex_pickF' rfl hc27 rfl rfl) rfl ?_
    refine Run.opsEnd ?_
    exact Run.pick [12] (bank_CheckChirp_1_ok F (!r30) _ _ _ (hH23.pick [] rfl rfl) h)

theorem mkk25 : makeK Tryz.prog 25 = none := by kernel_rfl
theorem cal25 : callable Tryz.prog 25 = true := by kernel_rfl
theorem mkk26 : makeK Tryz.prog 26 = none := by kernel_rfl
theorem cal26 : callable Tryz.prog 26 = true := by kernel_rfl
theorem zer105 : zerosOf Tryz.prog 105 = some [(.int .i64 0), (.int .i64 0), (.int .i64 0), (.int .i64 0), (.int .i64 0), (.int .i64 0), (.int .i64 0), (.int .i64 0), (.int .i64 0), (.int .i64 0), (.int .i64 0), (.int .i64 0), (.int .i64 0), (.int .i64 0), (.int .i64 0), (.int .i64 0), (.int .i64 0), (.int .i64 0), (.int .i64 0), (.int .i64 0), (.int .i64 0), (.int .i64 0), (.int .i64 0), (.int .i64 0), (.int .i64 0), (.int .i64 0), (.int .i64 0), (.int .i64 0), (.int .i64 0), (.int .i64 0), (.int .i64 0), (.int .i64 0), (.int .i64 0), (.int .i64 0), (.int .i64 0), (.int .i64 0), (.int .i64 0), (.int .i64 0), (.int .i64 0), (.int .i64 0), (.int .i64 0), (.int .i64 0), (.int .i64 0), (.int .i64 0), (.int .i64 0), (.int .i64 0), (.int .i64 0), (.int .i64 0), (.int .i64 0), (.int .i64 0), (.int .i64 0), (.int .i64 0), (.int .i64 0), (.int .i64 0), (.int .i64 0), (.int .i64 0), (.int .i64 0), (.int .i64 0), (.int .i64 0), (.int .i64 0), (.int .i64 0), (.int .i64 0), (.int .i64 0), (.int .i64 0), (.int .i64 0), (.int .i64 0)] := by kernel_rfl
theorem pls105 : placesOf Tryz.prog 105 = some (.st [(0, 64), (64, 1), (65, 1)]) := by kernel_rfl
theorem off105_0 : fieldOff Tryz.prog 105 0 = some 0 := by kernel_rfl
theorem mkk72 : makeK Tryz.prog 72 = none := by kernel_rfl
theorem cal72 : callable Tryz.prog 72 = true := by kernel_rfl
def tab0 : List Int := [0, 12, 25, 37, 49, 60, 71, 81, 90, 98, 106, 112, 117, 122, 125, 126, 127]
theorem els191 : elems Tryz.prog 191 = some (.arr 17 1) := by kernel_rfl
abbrev bank_table_post (r : Int) : SV → Mem → Prop := fun s _ => s = (.int .i64 r)

def bank_table : Nat → Int → Option (Int)
  | 0, _ => none
  | F + 1, a0 =>
    bif (decide ((32 : Int) ≤ a0)) then
      bnd ((bank_table F) (w64 (a0 - (32 : Int)))) fun r24 =>
      some (w64 (-r24))
    else
      bif (decide ((w64 (Int.tdiv (32 : Int) (2 : Int))) < a0)) then
        bnd (inA (w64 ((32 : Int) - a0)) 17) fun o28 =>
        bnd (tab0[o28]?) fun x28 =>
        some x28
      else
        bnd (inA a0 17) fun o30 =>
        bnd (tab0[o30]?) fun x30 =>
        some x30

theorem bank_table_ok : ∀ (F : Nat), ∀ (a0 r : Int) (M : Mem) (hfx : FixIn M fixes) (h : bank_table F a0 = some r), CallsM Tryz.prog 72 [(.int .i64 a0)] M (fun s M' => s = (.int .i64 r) ∧ M' = M) := by
  intro F
  induction F with
  | zero =>
    intro a0 r M hfx h
    simp [bank_table] at h
  | succ F ih =>
    intro a0 r M hfx h
    refine CallsM.plain Tryz.func72 rfl rfl rfl (show Run _ _ _ (bank_table_post r) _ _ _ from ?_)
    rw [bank_table] at h
    have hH : Has (ro (frozen M)) (frozen M) [tb0] := Has.ofFix hfx.frozen
    refine Run.seq (Run.region ?_)
    refine Run.opG wantS_none (ex_assign rfl) rfl ?_
    refine Run.opsEnd (Run.seq (Run.region ?_))
    refine Run.opG wantS_none (ex_assign rfl) rfl ?_
    refine Run.opsEnd (Run.seq (Run.block (Run.seq (Run.region ?_))))
    refine Run.opG wantS_none (ex_move rfl) rfl ?_
    refine Run.opG wantS_none (ex_move rfl) rfl ?_
    refine Run.opG wantS_none (ex_geq rfl rfl) rfl ?_
    refine Run.opG wantS_none (ex_assign rfl) rfl ?_
    refine Run.opsEnd ?_
    rcases btf ((decide ((32 : Int) ≤ a0))) with hc22 | hc22
    · have h := bif_t hc22 h
      refine Run.condT' rfl hc22 ?_
      refine Run.seq (Run.region ?_)
      refine Run.opG wantS_none (ex_move rfl) rfl ?_
      refine Run.opG wantS_none (ex_move rfl) rfl ?_
      refine Run.opG wantS_none (ex_sub rfl rfl) rfl ?_
      obtain ⟨r24, hr24, h⟩ := bnd_some h
      refine Run.callP wantS_none (ex_call rfl mkk72 cal72) rfl (ih (w64 (a0 - (32 : Int))) _ _ (fixH hH (List.mem_of_getElem? (i := 0) rfl)) hr24) ?_
      refine Run.opG wantS_none (ex_neg rfl) rfl ?_
      refine Run.opG wantS_none (ex_assign rfl) rfl ?_
      refine Run.opsEnd ?_
      cases h
      exact Run.ret Tryz.func72 rfl (res_tmp rfl res_nil) rfl
    · have h := bif_f hc22 h
      refine Run.condF' rfl hc22 ?_
      refine Run.seq (Run.region ?_)
      refine Run.opG wantS_none (ex_move rfl) rfl ?_
      refine Run.opG wantS_none (ex_move rfl) rfl ?_
      refine Run.opG wantS_none (ex_quo rfl rfl (by decide)) rfl ?_
      refine Run.opG wantS_none (ex_gtr rfl rfl) rfl ?_
      refine Run.opG wantS_none (ex_assign rfl) rfl ?_
      refine Run.opsEnd ?_
      rcases btf ((decide ((w64 (Int.tdiv (32 : Int) (2 : Int))) < a0))) with hc26 | hc26
      · have h := bif_t hc26 h
        refine Run.condT' rfl hc26 ?_
        refine Run.seq (Run.region ?_)
        refine Run.opG wantS_none (ex_move rfl) rfl ?_
        refine Run.opG wantS_none (ex_move rfl) rfl ?_
        refine Run.opG wantS_none (ex_sub rfl rfl) rfl ?_
        obtain ⟨o28, ho28, h⟩ := bnd_some h
        obtain ⟨x28, hx28, h⟩ := bnd_some h
        refine Run.opG wantS_none (ex_elG (c := intCells .i64 tab0) hH (i := 0) rfl rfl (inA_natIn ho28) els191) rfl ?_
        refine Run.opG wantS_none (ex_load1 rfl (fix_at (zs := tab0) hH (i := 0) rfl hx28) rdLe_rfl agg3) rfl ?_
        refine Run.opG wantS_none (ex_assign rfl) rfl ?_
        refine Run.opsEnd ?_
        cases h
        exact Run.ret Tryz.func72 rfl (res_tmp rfl res_nil) rfl
      · have h := bif_f hc26 h
        refine Run.condF' rfl hc26 ?_
        refine Run.skip (Run.inBlock (Run.seq (Run.region ?_)))
        refine Run.opG wantS_none (ex_move rfl) rfl ?_
        obtain ⟨o30, ho30, h⟩ := bnd_some h
        obtain ⟨x30, hx30, h⟩ := bnd_some h
        refine Run.opG wantS_none (ex_elG (c := intCells .i64 tab0) hH (i := 0) rfl rfl (inA_natIn ho30) els191) rfl ?_
        refine Run.opG wantS_none (ex_load1 rfl (fix_at (zs := tab0) hH (i := 0) rfl hx30) rdLe_rfl agg3) rfl ?_
        refine Run.opG wantS_none (ex_assign rfl) rfl ?_
        refine Run.opsEnd ?_
        cases h
        exact Run.ret Tryz.func72 rfl (res_tmp rfl res_nil) rfl

theorem els103 : elems Tryz.prog 103 = some (.arr 64 1) := by kernel_rfl
theorem sz3 : szOf Tryz.prog 3 = some 1 := by kernel_rfl
theorem plan26_1_1_0_1_0_0_1_1_0_0_1 : planOf Tryz.prog (opsC (atC Tryz.prog 26 [1, 1, 0, 1, 0, 0, 1, 1, 0, 0, 1])) = some [.fl 0, .fl 1, .fl 2, .fl 3, .fl 4, .fl 5, .fl 6, .fl 7, .fl 8, .fl 9, .fl 10, .fl 11, .fl 12, .fl 13, .fl 15, .fl 16, .an 14 [16, 15, 1, 0], .fl 17, .an 18 [], .sync] := by kernel_rfl
theorem off105_1 : fieldOff Tryz.prog 105 1 = some 64 := by kernel_rfl
theorem slk103 : slK Tryz.prog 103 = some (.arr 64 1) := by kernel_rfl
theorem plan27_1_0 : planOf Tryz.prog (opsC (atC Tryz.prog 27 [1, 0])) = some [.fl 0, .fl 1, .fl 2, .fl 3, .fl 4, .fl 5, .fl 6, .fl 7, .fl 8, .sync] := by kernel_rfl
abbrev bank_wave_samples_post (b : Pos) (r : List Int) : SV → Mem → Prop := fun s _ => s = .slice b 0 r.length 64

def bank_wave_samples (F : Nat) (l : List Int) : Option (List Int) :=
  bnd (l[(64 : Nat)]?) fun x21 =>
  bnd (cutA 64 l 0 x21) fun l22 =>
  some l22

theorem bank_wave_samples_ok (F : Nat) {l r : List Int} {b : Pos} {Fr : Rd} {H : List Ent} {i : Nat} {M : Mem} (hH0 : Has Fr M H) (hi : H[i]? = some (.obj b (.row 105 .whole (l.flatMap enc3)))) (h : bank_wave_samples F l = some r) : CallsM Tryz.prog 27 [.ptr b 0] M (fun s M' => s = .slice b 0 r.length 64 ∧ M' = M) := by
  have hl : ∀ {j : Nat} {a : Int}, l[j]? = some a → PtrTo (ro (frozen M)) (.ptr b j) (enc3 a) := fun h => (hH0.arrRd hi h enc3_len).mono (rdLe_frozen M)
  refine CallsM.sliceOf Tryz.func27 rfl rfl (hH0.get hi).1.lt (show Run _ _ _ (bank_wave_samples_post b r) _ _ _ from ?_)
  rw [bank_wave_samples] at h
  have hH := Has.nil (frozen M)
  refine Run.seq (Run.region ?_)
  refine Run.opG wantS_none (ex_assign rfl) rfl ?_
  refine Run.opsEnd (Run.seq ?_)
  refine Run.drawG plan27_1_0 ?_
  refine DrawG.fl rfl (ev_ex wantS_none (ex_move rfl)) rfl ?_
  refine DrawG.fl rfl (ev_ex wantS_none (ex_nilP rfl)) rfl ?_
  refine DrawG.fl rfl (ev_ex wantS_none (ex_fieldAddr rfl off105_0)) rfl ?_
  refine DrawG.fl rfl (ev_ex wantS_none (ex_move rfl)) rfl ?_
  refine DrawG.fl rfl (ev_ex wantS_none (ex_nilP rfl)) rfl ?_
  refine DrawG.fl rfl (ev_ex wantS_none (ex_fieldAddr rfl off105_1)) rfl ?_
  obtain ⟨x21, hx21, h⟩ := bnd_some h
  refine DrawG.fl rfl (ev_ex wantS_none (ex_load1 rfl (hH.ptrF (hl hx21)) rdLe_rfl agg3)) rfl ?_
  obtain ⟨l22, hl22, h⟩ := bnd_some h
  refine DrawG.fl rfl (ev_ex wantS_none (ex_slX rfl argO_none (argO_some rfl) (arr_cutV hl22 slk103))) rfl ?_
  refine DrawG.fl rfl (ev_ex wantS_none (ex_assign rfl)) rfl ?_
  refine DrawG.sync ?_
  refine DrawG.nil ?_
  cases h
  exact Run.ret Tryz.func27 rfl (res_tmp rfl res_nil) rfl

theorem bank_wave_samples_slc (F : Nat) {l r : List Int} {b : Pos} {Fr : Rd} {H : List Ent} {i : Nat} {M : Mem} (hH0 : Has Fr M H) (hi : H[i]? = some (.obj b (.row 105 .whole (l.flatMap enc3)))) (h : bank_wave_samples F l = some r) : Slc (rd M) 1 (FlatR enc3) (.slice b 0 r.length 64) r := by
  rw [bank_wave_samples] at h
  obtain ⟨_, _, h⟩ := bnd_some h
  obtain ⟨_, h1, h⟩ := bnd_some h
  cases h
  exact arr_slcH hH0 hi h1 enc3_len

theorem mkk27 : makeK Tryz.prog 27 = none := by kernel_rfl
theorem cal27 : callable Tryz.prog 27 = true := by kernel_rfl
theorem lenk25 : lenK Tryz.prog 25 = some .sl := by kernel_rfl
theorem slk25 : slK Tryz.prog 25 = some (.sl 1) := by kernel_rfl
theorem els25 : elems Tryz.prog 25 = some (.sl 1) := by kernel_rfl
theorem plan73_1_1_0 : planOf Tryz.prog (opsC (atC Tryz.prog 73 [1, 1, 0])) = some [.fl 0, .fl 1, .fl 2, .fl 3, .fl 4, .fl 5, .an 6 [5, 4, 3], .an 7 [], .sync] := by kernel_rfl
abbrev bank_product_post (r : Int) : SV → Mem → Prop := fun s _ => s = (.int .i64 r)

def bank_product_1 (F : Nat) : Nat → (List Int) → Int → (List Int) → Int → Int → Option (Int)
  | 0, _, _, _, _, _ => none
  | N + 1, v1, v6, v20, v21, v22 =>
    bif (decide (v22 < v21)) then
      bnd (idx v20 v22) fun x25 =>
      bnd (idx v1 v22) fun x27 =>
      (bank_product_1 F N) v1 (w64 (v6 + (w64 (x25 * x27)))) v20 v21 (w64 (v22 + (1 : Int)))
    else
      some v6

theorem bank_product_1_ok (F : Nat) : ∀ (N : Nat), ∀ (v1 : (List Int)) (v6 : Int) (v20 : (List Int)) (v21 v22 : Int) (sv1 sv20 : SV) (Fr : Rd) (M : Mem) (r : Int) (hv1 : Slc Fr 1 (FlatR enc3) sv1 v1) (hv20 : Slc Fr 1 (FlatR enc3) sv20 v20) (hH : Has Fr M []), bank_product_1 F N v1 v6 v20 v21 v22 = some r → Run Tryz.prog ⟨⟨73, [], none⟩, []⟩ 37 (bank_product_post r) [(1, sv1), (6, (.int .i64 v6)), (20, sv20), (21, (.int .i64 v21)), (22, (.int .i64 v22))] [codeC Tryz.prog 73 [1, 1, 1, 1, 0, 1, 0, 0], loopC Tryz.prog 73 [1, 1, 1, 1, 0, 1, 0, 0], .inBlock 0, codeC Tryz.prog 73 [1, 1, 1, 1, 1]] M := by
  intro N
  induction N with
  | zero =>
    intro v1 v6 v20 v21 v22 sv1 sv20 Fr M r hv1 hv20 hH h
    simp [bank_product_1] at h
  | succ N ih =>
    intro v1 v6 v20 v21 v22 sv1 sv20 Fr M r hv1 hv20 hH h
    rw [bank_product_1] at h
    refine Run.seq (Run.region ?_)
    refine Run.opG wantS_none (ex_lss rfl rfl) rfl ?_
    refine Run.opsEnd (Run.seq ?_)
    rcases btf ((decide (v22 < v21))) with hc23 | hc23
    · have h := bif_t hc23 h
      refine Run.condT' rfl hc23 ?_
      refine Run.skip (Run.seq (Run.block (Run.seq (Run.region ?_))))
      refine Run.opG wantS_none (ex_move rfl) rfl ?_
      obtain ⟨x25, hx25, h⟩ := bnd_some h
      obtain ⟨p25, o25, _, hx25, hp25, rfl⟩ := sl_elem (P := Tryz.prog) (t := 25) (kk := .i64) hv20 hx25 els25
      refine Run.opG wantS_none (ex_elX rfl rfl hx25) rfl ?_
      refine Run.opG wantS_none (ex_load1 rfl (hH.ptrF hp25) rdLe_rfl agg3) rfl ?_
      refine Run.opG wantS_none (ex_assign rfl) rfl ?_
      refine Run.opG wantS_none (ex_assign rfl) rfl ?_
      refine Run.opsEnd (Run.region ?_)
      refine Run.opG wantS_none (ex_move rfl) rfl ?_
      refine Run.opG wantS_none (ex_move rfl) rfl ?_
      refine Run.opG wantS_none (ex_move rfl) rfl ?_
      refine Run.opG wantS_none (ex_move rfl) rfl ?_
      obtain ⟨x27, hx27, h⟩ := bnd_some h
      obtain ⟨p27, o27, _, hx27, hp27, rfl⟩ := sl_elem (P := Tryz.prog) (t := 25) (kk := .i64) hv1 hx27 els25
      refine Run.opG wantS_none (ex_elX rfl rfl hx27) rfl ?_
      refine Run.opG wantS_none (ex_load1 rfl (hH.ptrF hp27) rdLe_rfl agg3) rfl ?_
      refine Run.opG wantS_none (ex_mul rfl rfl) rfl ?_
      refine Run.opG wantS_none (ex_add rfl rfl) rfl ?_
      refine Run.opG wantS_none (ex_assign rfl) rfl ?_
      refine Run.opsEnd (Run.inBlock (Run.region ?_))
      refine Run.opG wantS_none (ex_add rfl rfl) rfl ?_
      refine Run.opG wantS_none (ex_move rfl) rfl ?_
      refine Run.opsEnd (Run.inLoop ?_)
      exact Run.pick [1, 6, 20, 21, 22] (ih v1 (w64 (v6 + (w64 (x25 * x27)))) v20 v21 (w64 (v22 + (1 : Int))) sv1 sv20 _ _ _ hv1 hv20 hH h)
    · have h := bif_f hc23 h
      refine Run.condF' rfl hc23 ?_
      refine Run.exit rfl (Run.seq (Run.region ?_))
      refine Run.opG wantS_none (ex_move rfl) rfl ?_
      refine Run.opG wantS_none (ex_assign rfl) rfl ?_
      refine Run.opsEnd ?_
      cases h
      exact Run.ret Tryz.func73 rfl (res_tmp rfl res_nil) rfl

def bank_product (F : Nat) (a0 a1 : (List Int)) : Option (Int) :=
  bnd (sub a0 0 (min (a0.length : Int) (a1.length : Int))) fun l21 =>
  bnd (sub a1 0 (min (a0.length : Int) (a1.length : Int))) fun l22 =>
  bank_product_1 F F l22 (0 : Int) l21 (l21.length : Int) (0 : Int)

theorem bank_product_ok (F : Nat) (a0 a1 : (List Int)) (s0 s1 : SV) (r : Int) (M : Mem) (hs0 : Slc (rd M) 1 (FlatR enc3) s0 a0) (hs1 : Slc (rd M) 1 (FlatR enc3) s1 a1) (h : bank_product F a0 a1 = some r) : CallsM Tryz.prog 73 [s0, s1] M (fun s M' => s = (.int .i64 r) ∧ M' = M) := by
  refine CallsM.plain Tryz.func73 rfl rfl rfl (show Run _ _ _ (bank_product_post r) _ _ _ from ?_)
  rw [bank_product] at h
  replace hs0 := hs0.mono (rdLe_frozen M) (fun _ _ h => h)
  replace hs1 := hs1.mono (rdLe_frozen M) (fun _ _ h => h)
  have hH := Has.nil (frozen M)
  refine Run.seq (Run.region ?_)
  refine Run.opG wantS_none (ex_assign rfl) rfl ?_
  refine Run.opsEnd (Run.seq (Run.region ?_))
  refine Run.opG wantS_none (ex_move rfl) rfl ?_
  refine Run.opG wantS_none (ex_len' rfl hs0 lenk25) rfl ?_
  refine Run.opG wantS_none (ex_move rfl) rfl ?_
  refine Run.opG wantS_none (ex_len' rfl hs1 lenk25) rfl ?_
  refine Run.opG wantS_none (ex_min rfl rfl) rfl ?_
  refine Run.opG wantS_none (ex_assign rfl) rfl ?_
  refine Run.opsEnd (Run.seq ?_)
  refine Run.drawG plan73_1_1_0 ?_
  refine DrawG.fl rfl (ev_ex wantS_none (ex_move rfl)) rfl ?_
  refine DrawG.fl rfl (ev_ex wantS_none (ex_move rfl)) rfl ?_
  obtain ⟨l21, hl21, h⟩ := bnd_some h
  obtain ⟨s21, hx21, hs21⟩ := sl_subH (P := Tryz.prog) (t := 25) (k0 := .i64) hs0 hl21 slk25
  refine DrawG.fl rfl (ev_ex wantS_none (ex_slX rfl (argO_none) (argO_some rfl) hx21)) rfl ?_
  refine DrawG.fl rfl (ev_ex wantS_none (ex_move rfl)) rfl ?_
  refine DrawG.fl rfl (ev_ex wantS_none (ex_move rfl)) rfl ?_
  obtain ⟨l22, hl22, h⟩ := bnd_some h
  obtain ⟨s22, hx22, hs22⟩ := sl_subH (P := Tryz.prog) (t := 25) (k0 := .i64) hs1 hl22 slk25
  refine DrawG.fl rfl (ev_ex wantS_none (ex_slX rfl (argO_none) (argO_some rfl) hx22)) rfl ?_
  refine DrawG.val rfl wantS_none (ex_assign rfl) rfl (st_cons rfl (ev_ex wantS_none (ex_slX rfl (argO_none) (argO_some rfl) hx22)) rfl rfl (slc_self hs22) (st_cons rfl (ev_ex wantS_none (ex_move rfl)) rfl rfl rfl (st_cons rfl (ev_ex wantS_none (ex_move rfl)) rfl rfl (slc_self hs1) st_nil))) ?_
  refine DrawG.val rfl wantS_none (ex_assign rfl) rfl st_nil ?_
  refine DrawG.sync ?_
  refine DrawG.nil ?_
  refine Run.seq (Run.region ?_)
  refine Run.opG wantS_none (ex_assign rfl) rfl ?_
  refine Run.opsEnd (Run.seq (Run.seq (Run.region ?_)))
  refine Run.opG wantS_none (ex_move rfl) rfl ?_
  refine Run.opG wantS_none (ex_len' rfl hs21 lenk25) rfl ?_
  refine Run.opG wantS_none (ex_move rfl) rfl ?_
  refine Run.opsEnd (Run.block (Run.loop ?_))
  exact Run.pick [1, 6, 20, 21, 22] (bank_product_1_ok F F l22 (0 : Int) l21 (l21.length : Int) (0 : Int) s22 s21 _ _ _ hs22 hs21 hH h)

theorem mkk73 : makeK Tryz.prog 73 = none := by kernel_rfl
theorem cal73 : callable Tryz.prog 73 = true := by kernel_rfl
theorem off105_2 : fieldOff Tryz.prog 105 2 = some 65 := by kernel_rfl
theorem mkk7 : makeK Tryz.prog 7 = none := by kernel_rfl
theorem cal7 : callable Tryz.prog 7 = true := by kernel_rfl
abbrev bank_Norm_post (r : Int × Int) : SV → Mem → Prop := fun s _ => s = (.tuple [(.int .i64 r.1), (.int .i64 r.2)])

def bank_Norm_1 (F : Nat) : Nat → Int → Int → S_api_Chirp → (List Int) → Option (Int × Int)
  | 0, _, _, _, _ => none
  | N + 1, v10, v11, c30, l33 =>
    bif (decide (v11 < v10)) then
      bnd (bank_table F (Int.tmod (w64 ((w64 (c30.P * v11)) + (w64 ((w64 (c30.Q * v11)) * v11)))) (64 : Int))) fun r36 =>
      bnd (inA v11 64) fun o38 =>
      bnd (upd l33 (((0 + o38 * 1) : Nat) : Int) r36) fun l39 =>
      (bank_Norm_1 F N) v10 (w64 (v11 + (1 : Int))) c30 l39
    else
      bnd (bank_wave_samples F l33) fun l42 =>
      bnd (bank_wave_samples F l33) fun l45 =>
      bnd (bank_product F l42 l45) fun r48 =>
      bnd (upd l33 ((65 : Nat) : Int) r48) fun l51 =>
      bnd (l51[(65 : Nat)]?) fun x54 =>
      some (x54, (0 : Int))

theorem bank_Norm_1_ok (F : Nat) : ∀ (N : Nat), ∀ (v10 v11 : Int) (c30 : S_api_Chirp) (l33 : (List Int)) (b30 b33 : Pos) (Fr : Rd) (M : Mem) (r : Int × Int) (hH : Has Fr M [.obj b30 (.row 27 .whole [(.int .i64 c30.P), (.int .i64 c30.Q)]), .obj b33 (.row 105 .whole (l33.flatMap enc3)), tb0]), bank_Norm_1 F N v10 v11 c30 l33 = some r → Run Tryz.prog ⟨⟨26, [], none⟩, [.mk ⟨18, [], none⟩ 19 (treeOf []) [itemC Tryz.prog 18 [1, 1, 0] 2, codeC Tryz.prog 18 [1, 1, 1]]]⟩ 42 (bank_Norm_post r) [(3, (.ptr b30 0)), (5, (.ptr b33 0)), (10, (.int .i64 v10)), (11, (.int .i64 v11))] [codeC Tryz.prog 26 [1, 1, 0, 1, 0, 0], loopC Tryz.prog 26 [1, 1, 0, 1, 0, 0], .inBlock 0, codeC Tryz.prog 26 [1, 1, 1]] M := by
  intro N
  induction N with
  | zero =>
    intro v10 v11 c30 l33 b30 b33 Fr M r hH h
    simp [bank_Norm_1] at h
  | succ N ih =>
    intro v10 v11 c30 l33 b30 b33 Fr M r hH h
    rw [bank_Norm_1] at h
    refine Run.seq (Run.region ?_)
    refine Run.opG wantS_none (ex_lss rfl rfl) rfl ?_
    refine Run.opsEnd (Run.seq ?_)
    rcases btf ((decide (v11 < v10))) with hc35 | hc35
    · have h := bif_t hc35 h
      refine Run.condT' rfl hc35 ?_
      refine Run.skip (Run.seq (Run.block (Run.seq (Run.region ?_))))
      refine Run.opG wantS_none (ex_move rfl) rfl ?_
      refine Run.opG wantS_none (ex_assign rfl) rfl ?_
      refine Run.opsEnd ?_
      refine Run.drawG plan26_1_1_0_1_0_0_1_1_0_0_1 ?_
      refine DrawG.fl rfl (ev_ex wantS_none (ex_move rfl)) rfl ?_
      refine DrawG.fl rfl (ev_ex wantS_none (ex_move rfl)) rfl ?_
      refine DrawG.fl rfl (ev_ex wantS_none (ex_fieldAddr rfl off27_0)) rfl ?_
      refine DrawG.fl rfl (ev_ex wantS_none (ex_load1 rfl (hH.cells (i := 0) rfl 0 rfl) rdLe_rfl agg3)) rfl ?_
      refine DrawG.fl rfl (ev_ex wantS_none (ex_move rfl)) rfl ?_
      refine DrawG.fl rfl (ev_ex wantS_none (ex_mul rfl rfl)) rfl ?_
      refine DrawG.fl rfl (ev_ex wantS_none (ex_fieldAddr rfl off27_1)) rfl ?_
      refine DrawG.fl rfl (ev_ex wantS_none (ex_load1 rfl (hH.cells (i := 0) rfl 1 rfl) rdLe_rfl agg3)) rfl ?_
      refine DrawG.fl rfl (ev_ex wantS_none (ex_move rfl)) rfl ?_
      refine DrawG.fl rfl (ev_ex wantS_none (ex_mul rfl rfl)) rfl ?_
      refine DrawG.fl rfl (ev_ex wantS_none (ex_move rfl)) rfl ?_
      refine DrawG.fl rfl (ev_ex wantS_none (ex_mul rfl rfl)) rfl ?_
      refine DrawG.fl rfl (ev_ex wantS_none (ex_add rfl rfl)) rfl ?_
      refine DrawG.fl rfl (ev_ex wantS_none (ex_rem rfl rfl (by decide))) rfl ?_
      refine DrawG.fl rfl (ev_ex wantS_none (ex_nilP rfl)) rfl ?_
      refine DrawG.fl rfl (ev_ex wantS_none (ex_fieldAddr rfl off105_0)) rfl ?_
      obtain ⟨r36, hr36, h⟩ := bnd_some h
      refine DrawG.callP rfl wantS_none (ex_call rfl mkk72 cal72) rfl (bank_table_ok F (Int.tmod (w64 ((w64 (c30.P * v11)) + (w64 ((w64 (c30.Q * v11)) * v11)))) (64 : Int)) _ _ (fixH hH (List.mem_of_getElem? (i := 2) rfl)) hr36) (st_cons rfl (ev_ex wantS_none (ex_fieldAddr rfl off105_0)) rfl rfl rfl (st_cons rfl (ev_ex wantS_none (ex_nilP rfl)) rfl rfl rfl (st_cons rfl (ev_ex wantS_none (ex_move rfl)) rfl rfl rfl (st_cons rfl (ev_ex wantS_none (ex_move rfl)) rfl rfl rfl st_nil)))) ?_
      obtain ⟨o38, ho38, h⟩ := bnd_some h
      refine DrawG.fl rfl (ev_ex wantS_none (ex_elX rfl rfl (arr_place (inA_natIn ho38) els103))) rfl ?_
      obtain ⟨l39, hl39, h⟩ := bnd_some h
      refine DrawG.opX rfl wantS_none rfl (ExG.storeA rfl rfl hH (i := 1) rfl hl39 sz3 rfl enc3_len enc3_ones) ?_
      rintro _ M40 ⟨rfl, (hH40 : Has Fr M40 [.obj b30 (.row 27 .whole [(.int .i64 c30.P), (.int .i64 c30.Q)]), .obj b33 (.row 105 .whole (l39.flatMap enc3)), tb0])⟩
      refine ⟨st_nil, ?_⟩
      refine DrawG.sync ?_
      refine DrawG.nil ?_
      refine Run.inBlock (Run.region ?_)
      refine Run.opG wantS_none (ex_add rfl rfl) rfl ?_
      refine Run.opG wantS_none (ex_move rfl) rfl ?_
      refine Run.opsEnd (Run.inLoop ?_)
      exact Run.low (.cons (fle_pick [] rfl) .nil) (Run.pick [3, 5, 10, 11] (ih v10 (w64 (v11 + (1 : Int))) c30 l39 b30 b33 _ _ _ hH40 h))
    · have h := bif_f hc35 h
      refine Run.condF' rfl hc35 ?_
      refine Run.exit rfl (Run.seq (Run.region ?_))
      refine Run.opG wantS_none (ex_move rfl) rfl ?_
      refine Run.opG wantS_none (ex_move rfl) rfl ?_
      obtain ⟨l42, hl42, h⟩ := bnd_some h
      have hs42 := bank_wave_samples_slc F hH (i := 1) rfl hl42
      refine Run.callP wantS_none (ex_call rfl mkk27 cal27) rfl (bank_wave_samples_ok F hH (i := 1) rfl hl42) ?_
      refine Run.opG wantS_none (ex_move rfl) rfl ?_
      obtain ⟨l45, hl45, h⟩ := bnd_some h
      have hs45 := bank_wave_samples_slc F hH (i := 1) rfl hl45
      refine Run.callP wantS_none (ex_call rfl mkk27 cal27) rfl (bank_wave_samples_ok F hH (i := 1) rfl hl45) ?_
      obtain ⟨r48, hr48, h⟩ := bnd_some h
      refine Run.callP wantS_none (ex_call rfl mkk73 cal73) rfl (bank_product_ok F l42 l45 (.slice b33 0 l42.length 64) (.slice b33 0 l45.length 64) _ _ hs42 hs45 hr48) ?_
      refine Run.opG wantS_none (ex_nilP rfl) rfl ?_
      refine Run.opG wantS_none (ex_fieldAddr rfl off105_2) rfl ?_
      obtain ⟨l51, hl51, h⟩ := bnd_some h
      refine Run.opX wantS_none rfl (ExG.storeA rfl rfl hH (i := 1) rfl hl51 sz3 rfl enc3_len enc3_ones) ?_
      rintro _ M52 ⟨rfl, (hH52 : Has Fr M52 [.obj b30 (.row 27 .whole [(.int .i64 c30.P), (.int .i64 c30.Q)]), .obj b33 (.row 105 .whole (l51.flatMap enc3)), tb0])⟩
      refine Run.opsEnd (Run.seq (Run.region ?_))
      refine Run.opG wantS_none (ex_move rfl) rfl ?_
      refine Run.opG wantS_none (ex_assign rfl) rfl ?_
      refine Run.opsEnd ?_
      refine Run.retTo Tryz.func26 rfl (res_tmp rfl res_nil) rfl ?_
      refine Run.opG wantS_none (ex_nilP rfl) rfl ?_
      refine Run.opG wantS_none (ex_fieldAddr rfl off105_2) rfl ?_
      obtain ⟨x54, hx54, h⟩ := bnd_some h
      refine Run.opG wantS_none (ex_load1 rfl (hH52.arrAt (enc := enc3) (a := x54) (i := 1) rfl hx54 enc3_len) rdLe_rfl agg3) rfl ?_
      refine Run.opG wantS_none (ex_assign rfl) rfl ?_
      refine Run.opG wantS_none (ex_assign rfl) rfl ?_
      refine Run.opsEnd ?_
      cases h
      exact Run.ret Tryz.func18 rfl (res_tmp rfl (res_tmp rfl res_nil)) rfl

def bank_Norm (F : Nat) (a0 : Int) (a1 : S_api_Chirp) : Option (Int × Int) :=
  bnd (bank_CheckChirp F a0 a1) fun r26 =>
  bif (!(r26 == (0 : Int))) then
    some ((0 : Int), r26)
  else
    bank_Norm_1 F F a0 (0 : Int) a1 ([0, 0, 0, 0, 0, 0, 0, 0, 0, 0, 0, 0, 0, 0, 0, 0, 0, 0, 0, 0, 0, 0, 0, 0, 0, 0, 0, 0, 0, 0, 0, 0, 0, 0, 0, 0, 0, 0, 0, 0, 0, 0, 0, 0, 0, 0, 0, 0, 0, 0, 0, 0, 0, 0, 0, 0, 0, 0, 0, 0, 0, 0, 0, 0, a0, 0] : List Int)

theorem bank_Norm_ok (F : Nat) (a0 : Int) (a1 : S_api_Chirp) (r : Int × Int) (M : Mem) (hfx : FixIn M fixes) (h : bank_Norm F a0 a1 = some r) : CallsM Tryz.prog 18 [(.int .i64 a0), (.agg [(.int .i64 a1.P), (.int .i64 a1.Q)])] M (fun s M' => s = (.tuple [(.int .i64 r.1), (.int .i64 r.2)]) ∧ M' = M) := by
  refine CallsM.plain Tryz.func18 rfl rfl rfl (show Run _ _ _ (bank_Norm_post r) _ _ _ from ?_)
  rw [bank_Norm] at h
  have hH : Has (ro (frozen M)) (frozen M) [tb0] := Has.ofFix hfx.frozen
  refine Run.seq (Run.region ?_)
  refine Run.opX wantS_none rfl (ExG.box rfl rfl hH) ?_
  rintro _ M24 ⟨b23, rfl, hH24⟩
  refine Run.opG wantS_none (ex_assign rfl) rfl ?_
  refine Run.opG wantS_none (ex_assign rfl) rfl ?_
  refine Run.opsEnd (Run.seq (Run.seq (Run.region ?_)))
  refine Run.opG wantS_none (ex_move rfl) rfl ?_
  refine Run.opG wantS_none (ex_loadA rfl (hH24.cells (i := 0) rfl 0 rfl) rdLe_rfl agg27 rfl rfl rfl) rfl ?_
  obtain ⟨r26, hr26, h⟩ := bnd_some h
  refine Run.callP wantS_none (ex_call rfl mkk25 cal25) rfl (bank_CheckChirp_ok F a0 a1 _ _ hr26) ?_
  refine Run.opG wantS_none (ex_assign rfl) rfl ?_
  refine Run.opsEnd (Run.seq (Run.region ?_))
  refine Run.opG wantS_none (ex_move rfl) rfl ?_
  refine Run.opG wantS_none (ex_neq rfl rfl) rfl ?_
  refine Run.opsEnd ?_
  rcases btf ((!(r26 == (0 : Int)))) with hc28 | hc28
  · have h := bif_t hc28 h
    refine Run.condT' rfl hc28 ?_
    refine Run.seq (Run.region ?_)
    refine Run.opG wantS_none (ex_move rfl) rfl ?_
    refine Run.opG wantS_none (ex_assign rfl) rfl ?_
    refine Run.opG wantS_none (ex_assign rfl) rfl ?_
    refine Run.opsEnd ?_
    cases h
    exact Run.ret Tryz.func18 rfl (res_tmp rfl (res_tmp rfl res_nil)) rfl
  · have h := bif_f hc28 h
    refine Run.condF' rfl hc28 ?_
    refine Run.skip (Run.seq (Run.region ?_))
    refine Run.opG wantS_none (ex_move rfl) rfl ?_
    refine Run.opG wantS_none (ex_loadA rfl (hH24.cells (i := 0) rfl 0 rfl) rdLe_rfl agg27 rfl rfl rfl) rfl ?_
    refine Run.enter wantS_none (ex_call rfl mkk26 cal26) Tryz.func26 rfl rfl ?_
    refine Run.seq (Run.region ?_)
    refine Run.opX wantS_none rfl (ExG.box rfl rfl hH24) ?_
    rintro _ M31 ⟨b30, rfl, hH31⟩
    refine Run.opG wantS_none (ex_assign rfl) rfl ?_
    refine Run.opsEnd (Run.seq (Run.region ?_))
    refine Run.opG wantS_none (ex_move rfl) rfl ?_
    refine Run.opG wantS_none (ex_build (r := [(.int .i64 0), (.int .i64 0), (.int .i64 0), (.int .i64 0), (.int .i64 0), (.int .i64 0), (.int .i64 0), (.int .i64 0), (.int .i64 0), (.int .i64 0), (.int .i64 0), (.int .i64 0), (.int .i64 0), (.int .i64 0), (.int .i64 0), (.int .i64 0), (.int .i64 0), (.int .i64 0), (.int .i64 0), (.int .i64 0), (.int .i64 0), (.int .i64 0), (.int .i64 0), (.int .i64 0), (.int .i64 0), (.int .i64 0), (.int .i64 0), (.int .i64 0), (.int .i64 0), (.int .i64 0), (.int .i64 0), (.int .i64 0), (.int .i64 0), (.int .i64 0), (.int .i64 0), (.int .i64 0), (.int .i64 0), (.int .i64 0), (.int .i64 0), (.int .i64 0), (.int .i64 0), (.int .i64 0), (.int .i64 0), (.int .i64 0), (.int .i64 0), (.int .i64 0), (.int .i64 0), (.int .i64 0), (.int .i64 0), (.int .i64 0), (.int .i64 0), (.int .i64 0), (.int .i64 0), (.int .i64 0), (.int .i64 0), (.int .i64 0), (.int .i64 0), (.int .i64 0), (.int .i64 0), (.int .i64 0), (.int .i64 0), (.int .i64 0), (.int .i64 0), (.int .i64 0), (.int .i64 a0), (.int .i64 0)]) rfl zer105 pls105 rfl) rfl ?_
    refine Run.opX wantS_none rfl (ExG.box (c := ([0, 0, 0, 0, 0, 0, 0, 0, 0, 0, 0, 0, 0, 0, 0, 0, 0, 0, 0, 0, 0, 0, 0, 0, 0, 0, 0, 0, 0, 0, 0, 0, 0, 0, 0, 0, 0, 0, 0, 0, 0, 0, 0, 0, 0, 0, 0, 0, 0, 0, 0, 0, 0, 0, 0, 0, 0, 0, 0, 0, 0, 0, 0, 0, a0, 0] : List Int).flatMap enc3) rfl rfl hH31) ?_
    rintro _ M34 ⟨b33, rfl, hH34⟩
    refine Run.opG wantS_none (ex_assign rfl) rfl ?_
    refine Run.opsEnd (Run.seq (Run.seq (Run.region ?_)))
    refine Run.opG wantS_none (ex_move rfl) rfl ?_
    refine Run.opG wantS_none (ex_move rfl) rfl ?_
    refine Run.opsEnd (Run.block (Run.loop ?_))
    exact Run.low (.cons (fle_pick [] rfl) .nil) (Run.pick [3, 5, 10, 11] (bank_Norm_1_ok F F a0 (0 : Int) a1 ([0, 0, 0, 0, 0, 0, 0, 0, 0, 0, 0, 0, 0, 0, 0, 0, 0, 0, 0, 0, 0, 0, 0, 0, 0, 0, 0, 0, 0, 0, 0, 0, 0, 0, 0, 0, 0, 0, 0, 0, 0, 0, 0, 0, 0, 0, 0, 0, 0, 0, 0, 0, 0, 0, 0, 0, 0, 0, 0, 0, 0, 0, 0, 0, a0, 0] : List Int) b30 b33 _ _ _ (hH34.pick [1, 0, 3] rfl rfl) h))

theorem mkk18 : makeK Tryz.prog 18 = none := by kernel_rfl
theorem cal18 : callable Tryz.prog 18 = true := by kernel_rfl
theorem mkk19 : makeK Tryz.prog 19 = none := by kernel_rfl
theorem cal19 : callable Tryz.prog 19 = true := by kernel_rfl
abbrev ref00_Mod_post (r : Int) : SV → Mem → Prop := fun s _ => s = (.int .i64 r)

def ref00_Mod_1 (F : Nat) (v0 : Int) : Option (Int) :=
  some v0

theorem ref00_Mod_1_ok (F : Nat) : ∀ (v0 : Int) (Fr : Rd) (M : Mem) (r : Int) (hH : Has Fr M []), ref00_Mod_1 F v0 = some r → Run Tryz.prog ⟨⟨14, [], none⟩, []⟩ 16 (ref00_Mod_post r) [(0, (.int .i64 v0))] [itemC Tryz.prog 14 [1, 1, 1, 1, 0] 0, codeC Tryz.prog 14 [1, 1, 1, 1, 1]] M := by
  intro v0 Fr M r hH h
  rw [ref00_Mod_1] at h
  refine Run.opG wantS_none (ex_move rfl) rfl ?_
  refine Run.opG wantS_none (ex_assign rfl) rfl ?_
  refine Run.opsEnd ?_
  cases h
  exact Run.ret Tryz.func14 rfl (res_tmp rfl res_nil) rfl

def ref00_Mod (F : Nat) (a0 a1 : Int) : Option (Int) :=
  bif (decide (a1 < (1 : Int))) then
    some (0 : Int)
  else
    bnd (nz a1) fun z23 =>
    bif (decide ((Int.tmod a0 a1) < (0 : Int))) then
      ref00_Mod_1 F (w64 ((Int.tmod a0 a1) + a1))
    else
      ref00_Mod_1 F (Int.tmod a0 a1)

theorem ref00_Mod_ok (F : Nat) (a0 a1 r : Int) (M : Mem) (h : ref00_Mod F a0 a1 = some r) : CallsM Tryz.prog 14 [(.int .i64 a0), (.int .i64 a1)] M (fun s M' => s = (.int .i64 r) ∧ M' = M) := by
  refine CallsM.plain Tryz.func14 rfl rfl rfl (show Run _ _ _ (ref00_Mod_post r) _ _ _ from ?_)
  rw [ref00_Mod] at h
  have hH := Has.nil (frozen M)
  refine Run.seq (Run.region ?_)
  refine Run.opG wantS_none (ex_assign rfl) rfl ?_
  refine Run.opsEnd (Run.seq (Run.seq (Run.region ?_)))
  refine Run.opG wantS_none (ex_move rfl) rfl ?_
  refine Run.opG wantS_none (ex_lss rfl rfl) rfl ?_
  refine Run.opsEnd ?_
  rcases btf ((decide (a1 < (1 : Int)))) with hc21 | hc21
  · have h := bif_t hc21 h
    refine Run.condT' rfl hc21 ?_
    refine Run.seq (Run.region ?_)
    refine Run.opG wantS_none (ex_assign rfl) rfl ?_
    refine Run.opsEnd ?_
    cases h
    exact Run.ret Tryz.func14 rfl (res_tmp rfl res_nil) rfl
  · have h := bif_f hc21 h
    refine Run.condF' rfl hc21 ?_
    refine Run.skip (Run.seq (Run.region ?_))
    refine Run.opG wantS_none (ex_move rfl) rfl ?_
    refine Run.opG wantS_none (ex_move rfl) rfl ?_
    obtain ⟨z23, hz23, h⟩ := bnd_some h
    refine Run.opG wantS_none (ex_rem' rfl rfl hz23) rfl ?_
    refine Run.opG wantS_none (ex_assign rfl) rfl ?_
    refine Run.opsEnd (Run.seq (Run.seq (Run.region ?_)))
    refine Run.opG wantS_none (ex_move rfl) rfl ?_
    refine Run.opG wantS_none (ex_lss rfl rfl) rfl ?_
    refine Run.opsEnd ?_
    rcases btf ((decide ((Int.tmod a0 a1) < (0 : Int)))) with hc24 | hc24
    · have h := bif_t hc24 h
      refine Run.condT' rfl hc24 ?_
      refine Run.region ?_
      refine Run.opG wantS_none (ex_move rfl) rfl ?_
      refine Run.opG wantS_none (ex_move rfl) rfl ?_
      refine Run.opG wantS_none (ex_add rfl rfl) rfl ?_
      refine Run.opG wantS_none (ex_assign rfl) rfl ?_
      refine Run.opsEnd (Run.seq (Run.region ?_))
      exact Run.pick [0] (ref00_Mod_1_ok F (w64 ((Int.tmod a0 a1) + a1)) _ _ _ hH h)
    · have h := bif_f hc24 h
      refine Run.condF' rfl hc24 ?_
      refine Run.skip (Run.seq (Run.region ?_))
      exact Run.pick [0] (ref00_Mod_1_ok F (Int.tmod a0 a1) _ _ _ hH h)

theorem mkk14 : makeK Tryz.prog 14 = none := by kernel_rfl
theorem cal14 : callable Tryz.prog 14 = true := by kernel_rfl
theorem zer58 : zerosOf Tryz.prog 58 = some [(.int .i64 0), (.int .i64 0), .nils] := by kernel_rfl
theorem pls58 : placesOf Tryz.prog 58 = some (.st [(0, 1), (1, 1), (2, 1)]) := by kernel_rfl
structure S_api_Wave where
  At : Int
  Gain : Int
  Samples : (List Int)

def rep58 (f : Rd) (cs : List SV) (a : S_api_Wave) : Prop := ∃ q1, cs = [(.int .i64 a.At), (.int .i64 a.Gain), q1] ∧ Slc f 1 (FlatR enc3) q1 a.Samples
theorem rep58_mo {f g : Rd} (h : RdLe f g) {cs : List SV} {a : S_api_Wave} : rep58 f cs a → rep58 g cs a := by
  rintro ⟨q1, rfl, h0⟩
  exact ⟨q1, rfl, h0.mono h (fun _ _ h => h)⟩
theorem rep58_len {f : Rd} {cs : List SV} {a : S_api_Wave} : rep58 f cs a → cs.length = 3 := by
  rintro ⟨_, rfl, h0⟩
  rfl
theorem rep58_ones {f : Rd} {cs : List SV} {a : S_api_Wave} : rep58 f cs a → ones cs = true := by
  rintro ⟨_, rfl, h0⟩
  exact (ones_cons rfl (ones_cons rfl (ones_cons (slc_one h0) ones_nil)))
theorem elt59 : sliceElt Tryz.prog 59 = some (⟨3, 40, [(.int .i64 0), (.int .i64 0), .nils], 58⟩ : Elt) := by kernel_rfl
theorem elt25 : sliceElt Tryz.prog 25 = some (⟨1, 8, [(.int .i64 0)], 3⟩ : Elt) := by kernel_rfl
theorem mkk84 : makeK Tryz.prog 84 = none := by kernel_rfl
theorem cal84 : callable Tryz.prog 84 = true := by kernel_rfl
theorem mkk129 : makeK Tryz.prog 129 = none := by kernel_rfl
theorem cal129 : callable Tryz.prog 129 = true := by kernel_rfl
theorem mkk179 : makeK Tryz.prog 179 = none := by kernel_rfl
theorem cal179 : callable Tryz.prog 179 = true := by kernel_rfl
abbrev search_isFrom_post (r : Bool) : SV → Mem → Prop := fun s _ => s = (.bool r)

def search_isFrom_1 (F : Nat) (v14 : Bool) : Option (Bool) :=
  some v14

theorem search_isFrom_1_ok (F : Nat) : ∀ (v14 : Bool) (Fr : Rd) (M : Mem) (r : Bool) (hH : Has Fr M []), search_isFrom_1 F v14 = some r → Run Tryz.prog ⟨⟨65, [], none⟩, []⟩ 15 (search_isFrom_post r) [(14, (.bool v14))] [itemC Tryz.prog 65 [1, 0] 8, codeC Tryz.prog 65 [1, 1]] M := by
  intro v14 Fr M r hH h
  rw [search_isFrom_1] at h
  refine Run.opG wantS_none (ex_assign rfl) rfl ?_
  refine Run.opsEnd ?_
  cases h
  exact Run.ret Tryz.func65 rfl (res_tmp rfl res_nil) rfl

def search_isFrom (F : Nat) (a0 a1 a2 : Int) : Option (Bool) :=
  bif (decide (a0 ≤ a1)) then
    search_isFrom_1 F (decide (a1 ≤ a2))
  else
    search_isFrom_1 F false

theorem search_isFrom_ok (F : Nat) (a0 a1 a2 : Int) (r : Bool) (M : Mem) (h : search_isFrom F a0 a1 a2 = some r) : CallsM Tryz.prog 65 [(.int .i64 a0), (.int .i64 a1), (.int .i64 a2)] M (fun s M' => s = (.bool r) ∧ M' = M) := by
  refine CallsM.plain Tryz.func65 rfl rfl rfl (show Run _ _ _ (search_isFrom_post r) _ _ _ from ?_)
  rw [search_isFrom] at h
  have hH := Has.nil (frozen M)
  refine Run.seq (Run.region ?_)
  refine Run.opG wantS_none (ex_assign rfl) rfl ?_
  refine Run.opsEnd (Run.seq (Run.region ?_))
  refine Run.opG wantS_none (ex_move rfl) rfl ?_
  refine Run.opG wantS_none (ex_move rfl) rfl ?_
  refine Run.opG wantS_none (ex_leq rfl rfl) rfl ?_
  refine Run.opG wantS_none (ex_move rfl) rfl ?_
  rcases btf ((decide (a0 ≤ a1))) with hc21 | hc21
  · have h := bif_t hc21 h
    refine Run.opG (wantS_yes' rfl rfl hc21) (ex_move rfl) rfl ?_
    refine Run.opG (wantS_yes' rfl rfl hc21) (ex_move rfl) rfl ?_
    refine Run.opG (wantS_yes' rfl rfl hc21) (ex_leq rfl rfl) rfl ?_
    refine Run.opG wantS_none (ex_pickT' rfl hc21 rfl rfl) rfl ?_
    exact Run.pick [14] (search_isFrom_1_ok F (decide (a1 ≤ a2)) _ _ _ hH h)
  · have h := bif_f hc21 h
    refine Run.no (wantS_not' rfl rfl hc21) rfl ?_
    refine Run.no (wantS_not' rfl rfl hc21) rfl ?_
    refine Run.no (wantS_not' rfl rfl hc21) rfl ?_
    refine Run.opG wantS_none (ex_pickF' rfl hc21 rfl rfl) rfl ?_
    exact Run.pick [14] (search_isFrom_1_ok F false _ _ _ hH h)

theorem mkk65 : makeK Tryz.prog 65 = none := by kernel_rfl
theorem cal65 : callable Tryz.prog 65 = true := by kernel_rfl
abbrev search_areFrom_post (r : Bool) : SV → Mem → Prop := fun s _ => s = (.bool r)

def search_areFrom_1 (F : Nat) : Nat → (List Int) → Int → Int → Int → Option (Bool)
  | 0, _, _, _, _ => none
  | N + 1, v0, v7, v8, c22_0 =>
    bif (decide (v8 < v7)) then
      bnd (idx v0 v8) fun x26 =>
      bnd (search_isFrom F (w64 (-c22_0)) x26 c22_0) fun r28 =>
      bif (!r28) then
        some (!(decide ((0 : Int) ≤ v8)))
      else
        (search_areFrom_1 F N) v0 v7 (w64 (v8 + (1 : Int))) c22_0
    else
      some (!(decide ((0 : Int) ≤ ((-1) : Int))))

theorem search_areFrom_1_ok (F : Nat) : ∀ (N : Nat), ∀ (v0 : (List Int)) (v7 v8 c22_0 : Int) (sv0 : SV) (b22 : Pos) (Fr : Rd) (M : Mem) (r : Bool) (hv0 : Slc Fr 1 (FlatR enc3) sv0 v0) (hH : Has Fr M [.obj b22 (.row 3 .whole [(.int .i64 c22_0)])]), search_areFrom_1 F N v0 v7 v8 c22_0 = some r → Run Tryz.prog ⟨⟨129, [], none⟩, [.mk ⟨84, [], none⟩ 9 (treeOf []) [itemC Tryz.prog 84 [1, 0] 2, codeC Tryz.prog 84 [1, 1]], .mk ⟨155, [], none⟩ 11 (treeOf []) [itemC Tryz.prog 155 [1, 1, 0] 2, codeC Tryz.prog 155 [1, 1, 1]]]⟩ 19 (search_areFrom_post r) [(0, sv0), (1, (.fn (.func 179) [] [(.ptr b22 0)])), (7, (.int .i64 v7)), (8, (.int .i64 v8))] [codeC Tryz.prog 129 [1, 0, 1, 0, 0], loopC Tryz.prog 129 [1, 0, 1, 0, 0], .inBlock 0, codeC Tryz.prog 129 [1, 1]] M := by
  intro N
  induction N with
  | zero =>
    intro v0 v7 v8 c22_0 sv0 b22 Fr M r hv0 hH h
    simp [search_areFrom_1] at h
  | succ N ih =>
    intro v0 v7 v8 c22_0 sv0 b22 Fr M r hv0 hH h
    rw [search_areFrom_1] at h
    refine Run.seq (Run.region ?_)
    refine Run.opG wantS_none (ex_lss rfl rfl) rfl ?_
    refine Run.opsEnd (Run.seq ?_)
    rcases btf ((decide (v8 < v7))) with hc24 | hc24
    · have h := bif_t hc24 h
      refine Run.condT' rfl hc24 ?_
      refine Run.skip (Run.seq (Run.block (Run.seq (Run.region ?_))))
      refine Run.opG wantS_none (ex_move rfl) rfl ?_
      refine Run.opG wantS_none (ex_assign rfl) rfl ?_
      refine Run.opsEnd (Run.seq (Run.region ?_))
      refine Run.opG wantS_none (ex_move rfl) rfl ?_
      refine Run.opG wantS_none (ex_move rfl) rfl ?_
      refine Run.opG wantS_none (ex_move rfl) rfl ?_
      obtain ⟨x26, hx26, h⟩ := bnd_some h
      obtain ⟨p26, o26, _, hx26, hp26, rfl⟩ := sl_elem (P := Tryz.prog) (t := 25) (kk := .i64) hv0 hx26 els25
      refine Run.opG wantS_none (ex_elX rfl rfl hx26) rfl ?_
      refine Run.opG wantS_none (ex_load1 rfl (hH.ptrF hp26) rdLe_rfl agg3) rfl ?_
      refine Run.enter wantS_none (ex_closure rfl rfl mkk179 cal179) Tryz.func179 rfl rfl ?_
      refine Run.seq (Run.region ?_)
      refine Run.opG wantS_none (ex_assign rfl) rfl ?_
      refine Run.opsEnd (Run.seq (Run.region ?_))
      refine Run.opG wantS_none (ex_load1 rfl (hH.cells (i := 0) rfl 0 rfl) rdLe_rfl agg3) rfl ?_
      refine Run.opG wantS_none (ex_neg rfl) rfl ?_
      refine Run.opG wantS_none (ex_move rfl) rfl ?_
      refine Run.opG wantS_none (ex_load1 rfl (hH.cells (i := 0) rfl 0 rfl) rdLe_rfl agg3) rfl ?_
      obtain ⟨r28, hr28, h⟩ := bnd_some h
      refine Run.callP wantS_none (ex_call rfl mkk65 cal65) rfl (search_isFrom_ok F (w64 (-c22_0)) x26 c22_0 _ _ hr28) ?_
      refine Run.opG wantS_none (ex_not rfl) rfl ?_
      refine Run.opG wantS_none (ex_assign rfl) rfl ?_
      refine Run.opsEnd ?_
      refine Run.retTo Tryz.func179 rfl (res_tmp rfl res_nil) rfl ?_
      refine Run.opsEnd ?_
      rcases btf ((!r28)) with hc30 | hc30
      · have h := bif_t hc30 h
        refine Run.condT' rfl hc30 ?_
        refine Run.seq (Run.region ?_)
        refine Run.opG wantS_none (ex_move rfl) rfl ?_
        refine Run.opG wantS_none (ex_assign rfl) rfl ?_
        refine Run.opsEnd ?_
        refine Run.retTo Tryz.func129 rfl (res_tmp rfl res_nil) rfl ?_
        refine Run.opG wantS_none (ex_geq rfl rfl) rfl ?_
        refine Run.opG wantS_none (ex_assign rfl) rfl ?_
        refine Run.opsEnd ?_
        refine Run.retTo Tryz.func84 rfl (res_tmp rfl res_nil) rfl ?_
        refine Run.opG wantS_none (ex_not rfl) rfl ?_
        refine Run.opG wantS_none (ex_assign rfl) rfl ?_
        refine Run.opsEnd ?_
        cases h
        exact Run.ret Tryz.func155 rfl (res_tmp rfl res_nil) rfl
      · have h := bif_f hc30 h
        refine Run.condF' rfl hc30 ?_
        refine Run.skip (Run.inBlock (Run.region ?_))
        refine Run.opG wantS_none (ex_add rfl rfl) rfl ?_
        refine Run.opG wantS_none (ex_move rfl) rfl ?_
        refine Run.opsEnd (Run.inLoop ?_)
        exact Run.low (.cons (fle_pick [] rfl) (.cons (fle_pick [] rfl) .nil)) (Run.pick [0, 1, 7, 8] (ih v0 v7 (w64 (v8 + (1 : Int))) c22_0 sv0 b22 _ _ _ hv0 hH h))
    · have h := bif_f hc24 h
      refine Run.condF' rfl hc24 ?_
      refine Run.exit rfl (Run.seq (Run.region ?_))
      refine Run.opG wantS_none (ex_assign rfl) rfl ?_
      refine Run.opsEnd ?_
      refine Run.retTo Tryz.func129 rfl (res_tmp rfl res_nil) rfl ?_
      refine Run.opG wantS_none (ex_geq rfl rfl) rfl ?_
      refine Run.opG wantS_none (ex_assign rfl) rfl ?_
      refine Run.opsEnd ?_
      refine Run.retTo Tryz.func84 rfl (res_tmp rfl res_nil) rfl ?_
      refine Run.opG wantS_none (ex_not rfl) rfl ?_
      refine Run.opG wantS_none (ex_assign rfl) rfl ?_
      refine Run.opsEnd ?_
      cases h
      exact Run.ret Tryz.func155 rfl (res_tmp rfl res_nil) rfl

def search_areFrom (F : Nat) (a0 : (List Int)) (a1 : Int) : Option (Bool) :=
  search_areFrom_1 F F a0 (a0.length : Int) (0 : Int) a1

theorem search_areFrom_ok (F : Nat) (a0 : (List Int)) (a1 : Int) (s0 : SV) (r : Bool) (M : Mem) (hs0 : Slc (rd M) 1 (FlatR enc3) s0 a0) (h : search_areFrom F a0 a1 = some r) : CallsM Tryz.prog 155 [s0, (.int .i64 a1)] M (fun s M' => s = (.bool r) ∧ M' = M) := by
  refine CallsM.plain Tryz.func155 rfl rfl rfl (show Run _ _ _ (search_areFrom_post r) _ _ _ from ?_)
  rw [search_areFrom] at h
  replace hs0 := hs0.mono (rdLe_frozen M) (fun _ _ h => h)
  have hH := Has.nil (frozen M)
  refine Run.seq (Run.region ?_)
  refine Run.opX wantS_none rfl (ExG.box rfl rfl hH) ?_
  rintro _ M23 ⟨b22, rfl, hH23⟩
  refine Run.opG wantS_none (ex_assign rfl) rfl ?_
  refine Run.opsEnd (Run.seq (Run.region ?_))
  refine Run.opG wantS_none (ex_makeFunc rfl rfl) rfl ?_
  refine Run.opG wantS_none (ex_assign rfl) rfl ?_
  refine Run.opsEnd (Run.seq (Run.region ?_))
  refine Run.opG wantS_none (ex_move rfl) rfl ?_
  refine Run.opG wantS_none (ex_move rfl) rfl ?_
  refine Run.enter wantS_none (ex_call rfl mkk84 cal84) Tryz.func84 rfl rfl ?_
  refine Run.seq (Run.region ?_)
  refine Run.opG wantS_none (ex_assign rfl) rfl ?_
  refine Run.opsEnd (Run.seq (Run.region ?_))
  refine Run.opG wantS_none (ex_move rfl) rfl ?_
  refine Run.opG wantS_none (ex_move rfl) rfl ?_
  refine Run.enter wantS_none (ex_call rfl mkk129 cal129) Tryz.func129 rfl rfl ?_
  refine Run.seq (Run.region ?_)
  refine Run.opG wantS_none (ex_assign rfl) rfl ?_
  refine Run.opsEnd (Run.seq (Run.seq (Run.region ?_)))
  refine Run.opG wantS_none (ex_move rfl) rfl ?_
  refine Run.opG wantS_none (ex_len' rfl hs0 lenk25) rfl ?_
  refine Run.opG wantS_none (ex_move rfl) rfl ?_
  refine Run.opsEnd (Run.block (Run.loop ?_))
  exact Run.low (.cons (fle_pick [] rfl) (.cons (fle_pick [] rfl) .nil)) (Run.pick [0, 1, 7, 8] (search_areFrom_1_ok F F a0 (a0.length : Int) (0 : Int) a1 s0 b22 _ _ _ hs0 hH23 h))

theorem mkk155 : makeK Tryz.prog 155 = none := by kernel_rfl
theorem cal155 : callable Tryz.prog 155 = true := by kernel_rfl
abbrev search_isRecord_post (r : Bool) : SV → Mem → Prop := fun s _ => s = (.bool r)

def search_isRecord_1 (F : Nat) (v9 : Bool) : Option (Bool) :=
  some v9

theorem search_isRecord_1_ok (F : Nat) : ∀ (v9 : Bool) (Fr : Rd) (M : Mem) (r : Bool) (hH : Has Fr M []), search_isRecord_1 F v9 = some r → Run Tryz.prog ⟨⟨108, [], none⟩, []⟩ 10 (search_isRecord_post r) [(9, (.bool v9))] [itemC Tryz.prog 108 [1, 0] 7, codeC Tryz.prog 108 [1, 1]] M := by
  intro v9 Fr M r hH h
  rw [search_isRecord_1] at h
  refine Run.opG wantS_none (ex_assign rfl) rfl ?_
  refine Run.opsEnd ?_
  cases h
  exact Run.ret Tryz.func108 rfl (res_tmp rfl res_nil) rfl

def search_isRecord (F : Nat) (a0 : (List Int)) : Option (Bool) :=
  bif (decide ((a0.length : Int) ≤ (1024 : Int))) then
    bnd (search_areFrom F a0 (16384 : Int)) fun r23 =>
    search_isRecord_1 F r23
  else
    search_isRecord_1 F false

theorem search_isRecord_ok (F : Nat) (a0 : (List Int)) (s0 : SV) (r : Bool) (M : Mem) (hs0 : Slc (rd M) 1 (FlatR enc3) s0 a0) (h : search_isRecord F a0 = some r) : CallsM Tryz.prog 108 [s0] M (fun s M' => s = (.bool r) ∧ M' = M) := by
  refine CallsM.plain Tryz.func108 rfl rfl rfl (show Run _ _ _ (search_isRecord_post r) _ _ _ from ?_)
  rw [search_isRecord] at h
  replace hs0 := hs0.mono (rdLe_frozen M) (fun _ _ h => h)
  have hH := Has.nil (frozen M)
  refine Run.seq (Run.region ?_)
  refine Run.opG wantS_none (ex_assign rfl) rfl ?_
  refine Run.opsEnd (Run.seq (Run.region ?_))
  refine Run.opG wantS_none (ex_move rfl) rfl ?_
  refine Run.opG wantS_none (ex_len' rfl hs0 lenk25) rfl ?_
  refine Run.opG wantS_none (ex_leq rfl rfl) rfl ?_
  refine Run.opG wantS_none (ex_move rfl) rfl ?_
  rcases btf ((decide ((a0.length : Int) ≤ (1024 : Int)))) with hc21 | hc21
  · have h := bif_t hc21 h
    refine Run.opG (wantS_yes' rfl rfl hc21) (ex_move rfl) rfl ?_
    obtain ⟨r23, hr23, h⟩ := bnd_some h
    refine Run.callP (wantS_yes' rfl rfl hc21) (ex_call rfl mkk155 cal155) rfl (search_areFrom_ok F a0 (16384 : Int) s0 _ _ (hH.slcF hs0) hr23) ?_
    refine Run.opG wantS_none (ex_pickT' rfl hc21 rfl rfl) rfl ?_
    exact Run.pick [9] (search_isRecord_1_ok F r23 _ _ _ hH h)
  · have h := bif_f hc21 h
    refine Run.no (wantS_not' rfl rfl hc21) rfl ?_
    refine Run.no (wantS_not' rfl rfl hc21) rfl ?_
    refine Run.opG wantS_none (ex_pickF' rfl hc21 rfl rfl) rfl ?_
    exact Run.pick [9] (search_isRecord_1_ok F false _ _ _ hH h)

theorem mkk108 : makeK Tryz.prog 108 = none := by kernel_rfl
theorem cal108 : callable Tryz.prog 108 = true := by kernel_rfl
theorem lenk59 : lenK Tryz.prog 59 = some .sl := by kernel_rfl
theorem els59 : elems Tryz.prog 59 = some (.sl 3) := by kernel_rfl
theorem agg58 : aggSize Tryz.prog 58 = some (some 3) := by kernel_rfl
theorem sz58 : szOf Tryz.prog 58 = some 3 := by kernel_rfl
theorem off58_1 : fieldOff Tryz.prog 58 1 = some 1 := by kernel_rfl
theorem off58_2 : fieldOff Tryz.prog 58 2 = some 2 := by kernel_rfl
theorem agg25 : aggSize Tryz.prog 25 = some none := by kernel_rfl
abbrev search_isWave_post (r : Bool) : SV → Mem → Prop := fun s _ => s = (.bool r)

def search_isWave_2 (F : Nat) (v16 : Bool) : Option (Bool) :=
  some v16

theorem search_isWave_2_ok (F : Nat) : ∀ (v16 : Bool) (Fr : Rd) (M : Mem) (r : Bool) (hH : Has Fr M []), search_isWave_2 F v16 = some r → Run Tryz.prog ⟨⟨115, [], none⟩, []⟩ 17 (search_isWave_post r) [(16, (.bool v16))] [itemC Tryz.prog 115 [1, 0] 14, codeC Tryz.prog 115 [1, 1]] M := by
  intro v16 Fr M r hH h
  rw [search_isWave_2] at h
  refine Run.opG wantS_none (ex_assign rfl) rfl ?_
  refine Run.opsEnd ?_
  cases h
  exact Run.ret Tryz.func115 rfl (res_tmp rfl res_nil) rfl

def search_isWave_1 (F : Nat) (v11 : Bool) (c22_0 c22_1 : Int) (c22_2 : (List Int)) : Option (Bool) :=
  bif v11 then
    bnd (search_areFrom F c22_2 (256 : Int)) fun r33 =>
    search_isWave_2 F r33
  else
    search_isWave_2 F false

theorem search_isWave_1_ok (F : Nat) : ∀ (v11 : Bool) (c22_0 c22_1 : Int) (c22_2 : (List Int)) (sc22_2 : SV) (b22 : Pos) (Fr : Rd) (M : Mem) (r : Bool) (hc22_2 : Slc Fr 1 (FlatR enc3) sc22_2 c22_2) (hH : Has Fr M [.obj b22 (.row 58 .whole [(.int .i64 c22_0), (.int .i64 c22_1), sc22_2])]), search_isWave_1 F v11 c22_0 c22_1 c22_2 = some r → Run Tryz.prog ⟨⟨115, [], none⟩, []⟩ 17 (search_isWave_post r) [(1, (.ptr b22 0)), (11, (.bool v11))] [itemC Tryz.prog 115 [1, 0] 9, codeC Tryz.prog 115 [1, 1]] M := by
  intro v11 c22_0 c22_1 c22_2 sc22_2 b22 Fr M r hc22_2 hH h
  rw [search_isWave_1] at h
  refine Run.opG wantS_none (ex_move rfl) rfl ?_
  rcases btf (v11) with hc31 | hc31
  · have h := bif_t hc31 h
    refine Run.opG (wantS_yes' rfl rfl hc31) (ex_fieldAddr rfl off58_2) rfl ?_
    refine Run.opG (wantS_yes' rfl rfl hc31) (ex_load1 rfl (hH.cells (i := 0) rfl 2 rfl) rdLe_rfl agg25) rfl ?_
    obtain ⟨r33, hr33, h⟩ := bnd_some h
    refine Run.callP (wantS_yes' rfl rfl hc31) (ex_call rfl mkk155 cal155) rfl (search_areFrom_ok F c22_2 (256 : Int) sc22_2 _ _ (hH.slcF hc22_2) hr33) ?_
    refine Run.opG wantS_none (ex_pickT' rfl hc31 rfl rfl) rfl ?_
    exact Run.pick [16] (search_isWave_2_ok F r33 _ _ _ (hH.pick [] rfl rfl) h)
  · have h := bif_f hc31 h
    refine Run.no (wantS_not' rfl rfl hc31) rfl ?_
    refine Run.no (wantS_not' rfl rfl hc31) rfl ?_
    refine Run.no (wantS_not' rfl rfl hc31) rfl ?_
    refine Run.opG wantS_none (ex_pickF' rfl hc31 rfl rfl) rfl ?_
    exact Run.pick [16] (search_isWave_2_ok F false _ _ _ (hH.pick [] rfl rfl) h)

def search_isWave (F : Nat) (a0 : S_api_Wave) : Option (Bool) :=
  bnd (search_isFrom F ((-64) : Int) a0.Gain (64 : Int)) fun r25 =>
  bif r25 then
    bnd (search_isFrom F (1 : Int) (a0.Samples.length : Int) (64 : Int)) fun r29 =>
    search_isWave_1 F r29 a0.At a0.Gain a0.Samples
  else
    search_isWave_1 F false a0.At a0.Gain a0.Samples

theorem search_isWave_ok (F : Nat) (a0 : S_api_Wave) (s0 : SV) (r : Bool) (M : Mem) (hs0 : Slc (rd M) 1 (FlatR enc3) s0 a0.Samples) (h : search_isWave F a0 = some r) : CallsM Tryz.prog 115 [(.agg [(.int .i64 a0.At), (.int .i64 a0.Gain), s0])] M (fun s M' => s = (.bool r) ∧ M' = M) := by
  refine CallsM.plain Tryz.func115 rfl rfl rfl (show Run _ _ _ (search_isWave_post r) _ _ _ from ?_)
  rw [search_isWave] at h
  replace hs0 := hs0.mono (rdLe_frozen M) (fun _ _ h => h)
  have hH := Has.nil (frozen M)
  refine Run.seq (Run.region ?_)
  refine Run.opX wantS_none rfl (ExG.box rfl rfl hH) ?_
  rintro _ M23 ⟨b22, rfl, hH23⟩
  refine Run.opG wantS_none (ex_assign rfl) rfl ?_
  refine Run.opsEnd (Run.seq (Run.region ?_))
  refine Run.opG wantS_none (ex_fieldAddr rfl off58_1) rfl ?_
  refine Run.opG wantS_none (ex_load1 rfl (hH23.cells (i := 0) rfl 1 rfl) rdLe_rfl agg3) rfl ?_
  obtain ⟨r25, hr25, h⟩ := bnd_some h
  refine Run.callP wantS_none (ex_call rfl mkk65 cal65) rfl (search_isFrom_ok F ((-64) : Int) a0.Gain (64 : Int) _ _ hr25) ?_
  refine Run.opG wantS_none (ex_move rfl) rfl ?_
  rcases btf (r25) with hc27 | hc27
  · have h := bif_t hc27 h
    refine Run.opG (wantS_yes' rfl rfl hc27) (ex_fieldAddr rfl off58_2) rfl ?_
    refine Run.opG (wantS_yes' rfl rfl hc27) (ex_load1 rfl (hH23.cells (i := 0) rfl 2 rfl) rdLe_rfl agg25) rfl ?_
    refine Run.opG (wantS_yes' rfl rfl hc27) (ex_len' rfl hs0 lenk25) rfl ?_
    obtain ⟨r29, hr29, h⟩ := bnd_some h
    refine Run.callP (wantS_yes' rfl rfl hc27) (ex_call rfl mkk65 cal65) rfl (search_isFrom_ok F (1 : Int) (a0.Samples.length : Int) (64 : Int) _ _ hr29) ?_
    refine Run.opG wantS_none (ex_pickT' rfl hc27 rfl rfl) rfl ?_
    exact Run.pick [1, 11] (search_isWave_1_ok F r29 a0.At a0.Gain a0.Samples s0 b22 _ _ _ hs0 hH23 h)
  · have h := bif_f hc27 h
    refine Run.no (wantS_not' rfl rfl hc27) rfl ?_
    refine Run.no (wantS_not' rfl rfl hc27) rfl ?_
    refine Run.no (wantS_not' rfl rfl hc27) rfl ?_
    refine Run.no (wantS_not' rfl rfl hc27) rfl ?_
    refine Run.opG wantS_none (ex_pickF' rfl hc27 rfl rfl) rfl ?_
    exact Run.pick [1, 11] (search_isWave_1_ok F false a0.At a0.Gain a0.Samples s0 b22 _ _ _ hs0 hH23 h)

theorem mkk115 : makeK Tryz.prog 115 = none := by kernel_rfl
theorem cal115 : callable Tryz.prog 115 = true := by kernel_rfl
theorem off58_0 : fieldOff Tryz.prog 58 0 = some 0 := by kernel_rfl
abbrev search_areWaves_post (r : Bool) : SV → Mem → Prop := fun s _ => s = (.bool r)

def search_areWaves_2 (F : Nat) (hd1 : Int → Int → (List S_api_Wave) → Int → Int → Option (Bool)) (v1 : Int) (v11 : (List S_api_Wave)) (v12 v13 : Int) (v32 : Bool) (c26_0 c26_1 : Int) (c26_2 : (List Int)) : Option (Bool) :=
  bif v32 then
    some false
  else
    hd1 v1 c26_0 v11 v12 (w64 (v13 + (1 : Int)))

theorem search_areWaves_2_ok (F : Nat) (hd1 : Int → Int → (List S_api_Wave) → Int → Int → Option (Bool)) (hhd1 : ∀ (v1 v5 : Int) (v11 : (List S_api_Wave)) (v12 v13 : Int) (sv11 : SV) (Fr : Rd) (M : Mem) (r : Bool) (hv11 : Slc Fr 3 (rep58 Fr) sv11 v11) (hH : Has Fr M []), hd1 v1 v5 v11 v12 v13 = some r → Run Tryz.prog ⟨⟨66, [], none⟩, []⟩ 36 (search_areWaves_post r) [(1, (.int .i64 v1)), (5, (.int .i64 v5)), (11, sv11), (12, (.int .i64 v12)), (13, (.int .i64 v13))] [codeC Tryz.prog 66 [1, 1, 1, 0, 1, 0, 0], loopC Tryz.prog 66 [1, 1, 1, 0, 1, 0, 0], .inBlock 0, codeC Tryz.prog 66 [1, 1, 1, 1]] M) : ∀ (v1 : Int) (v11 : (List S_api_Wave)) (v12 v13 : Int) (v32 : Bool) (c26_0 c26_1 : Int) (c26_2 : (List Int)) (sv11 sc26_2 : SV) (b26 : Pos) (Fr : Rd) (M : Mem) (r : Bool) (hv11 : Slc Fr 3 (rep58 Fr) sv11 v11) (hc26_2 : Slc Fr 1 (FlatR enc3) sc26_2 c26_2) (hH : Has Fr M [.obj b26 (.row 58 .whole [(.int .i64 c26_0), (.int .i64 c26_1), sc26_2])]), search_areWaves_2 F hd1 v1 v11 v12 v13 v32 c26_0 c26_1 c26_2 = some r → Run Tryz.prog ⟨⟨66, [], none⟩, []⟩ 36 (search_areWaves_post r) [(1, (.int .i64 v1)), (7, (.ptr b26 0)), (11, sv11), (12, (.int .i64 v12)), (13, (.int .i64 v13)), (32, (.bool v32))] [codeC Tryz.prog 66 [1, 1, 1, 0, 1, 0, 0, 1, 1, 0, 0, 1, 0, 1], codeC Tryz.prog 66 [1, 1, 1, 0, 1, 0, 0, 1, 1, 0, 0, 1, 1], .inBlock 1, codeC Tryz.prog 66 [1, 1, 1, 0, 1, 0, 0, 1, 1, 1], loopC Tryz.prog 66 [1, 1, 1, 0, 1, 0, 0], .inBlock 0, codeC Tryz.prog 66 [1, 1, 1, 1]] M := by
  intro v1 v11 v12 v13 v32 c26_0 c26_1 c26_2 sv11 sc26_2 b26 Fr M r hv11 hc26_2 hH h
  rw [search_areWaves_2] at h
  rcases btf (v32) with hc33 | hc33
  · have h := bif_t hc33 h
    refine Run.condT' rfl hc33 ?_
    refine Run.seq (Run.region ?_)
    refine Run.opG wantS_none (ex_assign rfl) rfl ?_
    refine Run.opsEnd ?_
    cases h
    exact Run.ret Tryz.func66 rfl (res_tmp rfl res_nil) rfl
  · have h := bif_f hc33 h
    refine Run.condF' rfl hc33 ?_
    refine Run.skip (Run.region ?_)
    refine Run.opG wantS_none (ex_fieldAddr rfl off58_0) rfl ?_
    refine Run.opG wantS_none (ex_load1 rfl (hH.cells (i := 0) rfl 0 rfl) rdLe_rfl agg3) rfl ?_
    refine Run.opG wantS_none (ex_assign rfl) rfl ?_
    refine Run.opsEnd (Run.inBlock (Run.region ?_))
    refine Run.opG wantS_none (ex_add rfl rfl) rfl ?_
    refine Run.opG wantS_none (ex_move rfl) rfl ?_
    refine Run.opsEnd (Run.inLoop ?_)
    exact Run.pick [1, 5, 11, 12, 13] (hhd1 v1 c26_0 v11 v12 (w64 (v13 + (1 : Int))) sv11 _ _ _ hv11 (hH.pick [] rfl rfl) h)

def search_areWaves_1 (F : Nat) : Nat → Int → Int → (List S_api_Wave) → Int → Int → Option (Bool)
  | 0, _, _, _, _, _ => none
  | N + 1, v1, v5, v11, v12, v13 =>
    bif (decide (v13 < v12)) then
      bnd (idx v11 v13) fun x24 =>
      bnd (search_isWave F x24) fun r30 =>
      bif (!r30) then
        search_areWaves_2 F (search_areWaves_1 F N) v1 v11 v12 v13 true x24.At x24.Gain x24.Samples
      else
        bnd (search_isFrom F (w64 (v5 + (1 : Int))) x24.At (w64 (v1 - (x24.Samples.length : Int)))) fun r35 =>
        search_areWaves_2 F (search_areWaves_1 F N) v1 v11 v12 v13 (!r35) x24.At x24.Gain x24.Samples
    else
      some true

theorem search_areWaves_1_ok (F : Nat) : ∀ (N : Nat), ∀ (v1 v5 : Int) (v11 : (List S_api_Wave)) (v12 v13 : Int) (sv11 : SV) (Fr : Rd) (M : Mem) (r : Bool) (hv11 : Slc Fr 3 (rep58 Fr) sv11 v11) (hH : Has Fr M []), search_areWaves_1 F N v1 v5 v11 v12 v13 = some r → Run Tryz.prog ⟨⟨66, [], none⟩, []⟩ 36 (search_areWaves_post r) [(1, (.int .i64 v1)), (5, (.int .i64 v5)), (11, sv11), (12, (.int .i64 v12)), (13, (.int .i64 v13))] [codeC Tryz.prog 66 [1, 1, 1, 0, 1, 0, 0], loopC Tryz.prog 66 [1, 1, 1, 0, 1, 0, 0], .inBlock 0, codeC Tryz.prog 66 [1, 1, 1, 1]] M := by
  intro N
  induction N with
  | zero =>
    intro v1 v5 v11 v12 v13 sv11 Fr M r hv11 hH h
    simp [search_areWaves_1] at h
  | succ N ih =>
    intro v1 v5 v11 v12 v13 sv11 Fr M r hv11 hH h
    rw [search_areWaves_1] at h
    refine Run.seq (Run.region ?_)
    refine Run.opG wantS_none (ex_lss rfl rfl) rfl ?_
    refine Run.opsEnd (Run.seq ?_)
    rcases btf ((decide (v13 < v12))) with hc22 | hc22
    · have h := bif_t hc22 h
      refine Run.condT' rfl hc22 ?_
      refine Run.skip (Run.seq (Run.block (Run.seq (Run.region ?_))))
      obtain ⟨x24, hx24, h⟩ := bnd_some h
      obtain ⟨p24, o24, _, hx24, hp24, ⟨q24_0, rfl, hq24_0⟩⟩ := sl_elem (P := Tryz.prog) (t := 59) (kk := .i64) hv11 hx24 els59
      refine Run.opG wantS_none (ex_elX rfl rfl hx24) rfl ?_
      refine Run.opG wantS_none (ex_loadA rfl (hH.ptrF hp24) rdLe_rfl agg58 rfl rfl rfl) rfl ?_
      refine Run.opX wantS_none rfl (ExG.new (v := fun b => .ptr b 0) (ex_alloc zer58) hH) ?_
      rintro _ M27 ⟨b26, rfl, hH27⟩
      refine Run.opX wantS_none rfl (ExG.storeC (c' := [(.int .i64 x24.At), (.int .i64 x24.Gain), q24_0]) rfl rfl rfl hH27 (i := 0) rfl sz58 rfl rfl rfl (ones_cons rfl (ones_cons rfl (ones_cons (slc_one hq24_0) ones_nil))) rfl) ?_
      rintro _ M28 ⟨rfl, (hH28 : Has Fr M28 [.obj b26 (.row 58 .whole [(.int .i64 x24.At), (.int .i64 x24.Gain), q24_0])])⟩
      refine Run.opsEnd (Run.seq (Run.seq (Run.region ?_)))
      refine Run.opG wantS_none (ex_loadA rfl (hH28.cells (i := 0) rfl 0 rfl) rdLe_rfl agg58 rfl rfl rfl) rfl ?_
      obtain ⟨r30, hr30, h⟩ := bnd_some h
      refine Run.callP wantS_none (ex_call rfl mkk115 cal115) rfl (search_isWave_ok F x24 q24_0 _ _ (hH28.slcF hq24_0) hr30) ?_
      refine Run.opG wantS_none (ex_not rfl) rfl ?_
      refine Run.opG wantS_none (ex_move rfl) rfl ?_
      rcases btf ((!r30)) with hc32 | hc32
      · have h := bif_t hc32 h
        refine Run.no (wantS_not' rfl rfl hc32) rfl ?_
        refine Run.no (wantS_not' rfl rfl hc32) rfl ?_
        refine Run.no (wantS_not' rfl rfl hc32) rfl ?_
        refine Run.no (wantS_not' rfl rfl hc32) rfl ?_
        refine Run.no (wantS_not' rfl rfl hc32) rfl ?_
        refine Run.no (wantS_not' rfl rfl hc32) rfl ?_
        refine Run.no (wantS_not' rfl rfl hc32) rfl ?_
        refine Run.no (wantS_not' rfl rfl hc32) rfl ?_
        refine Run.no (wantS_not' rfl rfl hc32) rfl ?_
        refine Run.no (wantS_not' rfl rfl hc32) rfl ?_
        refine Run.no (wantS_not' rfl rfl hc32) rfl ?_
        refine Run.opG wantS_none (ex_pickT' rfl hc32 rfl rfl) rfl ?_
        refine Run.opsEnd ?_
        exact Run.pick [1, 7, 11, 12, 13, 32] (search_areWaves_2_ok F (search_areWaves_1 F N) ih v1 v11 v12 v13 true x24.At x24.Gain x24.Samples sv11 q24_0 b26 _ _ _ hv11 hq24_0 hH28 h)
      · have h := bif_f hc32 h
        refine Run.opG (wantS_yes' rfl rfl hc32) (ex_move rfl) rfl ?_
        refine Run.opG (wantS_yes' rfl rfl hc32) (ex_add rfl rfl) rfl ?_
        refine Run.opG (wantS_yes' rfl rfl hc32) (ex_fieldAddr rfl off58_0) rfl ?_
        refine Run.opG (wantS_yes' rfl rfl hc32) (ex_load1 rfl (hH28.cells (i := 0) rfl 0 rfl) rdLe_rfl agg3) rfl ?_
        refine Run.opG (wantS_yes' rfl rfl hc32) (ex_move rfl) rfl ?_
        refine Run.opG (wantS_yes' rfl rfl hc32) (ex_fieldAddr rfl off58_2) rfl ?_
        refine Run.opG (wantS_yes' rfl rfl hc32) (ex_load1 rfl (hH28.cells (i := 0) rfl 2 rfl) rdLe_rfl agg25) rfl ?_
        refine Run.opG (wantS_yes' rfl rfl hc32) (ex_len' rfl hq24_0 lenk25) rfl ?_
        refine Run.opG (wantS_yes' rfl rfl hc32) (ex_sub rfl rfl) rfl ?_
        obtain ⟨r35, hr35, h⟩ := bnd_some h
        refine Run.callP (wantS_yes' rfl rfl hc32) (ex_call rfl mkk65 cal65) rfl (search_isFrom_ok F (w64 (v5 + (1 : Int))) x24.At (w64 (v1 - (x24.Samples.length : Int))) _ _ hr35) ?_
        refine Run.opG (wantS_yes' rfl rfl hc32) (ex_not rfl) rfl ?_
        refine Run.opG wantS_none (ex_pickF' rfl hc32 rfl rfl) rfl ?_
        refine Run.opsEnd ?_
        exact Run.pick [1, 7, 11, 12, 13, 32] (search_areWaves_2_ok F (search_areWaves_1 F N) ih v1 v11 v12 v13 (!r35) x24.At x24.Gain x24.Samples sv11 q24_0 b26 _ _ _ hv11 hq24_0 hH28 h)
    · have h := bif_f hc22 h
      refine Run.condF' rfl hc22 ?_
      refine Run.exit rfl (Run.seq (Run.region ?_))
      refine Run.opG wantS_none (ex_assign rfl) rfl ?_
      refine Run.opsEnd ?_
      cases h
      exact Run.ret Tryz.func66 rfl (res_tmp rfl res_nil) rfl

def search_areWaves (F : Nat) (a0 : (List S_api_Wave)) (a1 : Int) : Option (Bool) :=
  bif (decide ((64 : Int) < (a0.length : Int))) then
    some false
  else
    search_areWaves_1 F F a1 ((-1) : Int) a0 (a0.length : Int) (0 : Int)

theorem search_areWaves_ok (F : Nat) (a0 : (List S_api_Wave)) (a1 : Int) (s0 : SV) (r : Bool) (M : Mem) (hs0 : Slc (rd M) 3 (rep58 (rd M)) s0 a0) (h : search_areWaves F a0 a1 = some r) : CallsM Tryz.prog 66 [s0, (.int .i64 a1)] M (fun s M' => s = (.bool r) ∧ M' = M) := by
  refine CallsM.plain Tryz.func66 rfl rfl rfl (show Run _ _ _ (search_areWaves_post r) _ _ _ from ?_)
  rw [search_areWaves] at h
  replace hs0 := hs0.mono (rdLe_frozen M) (fun _ _ => rep58_mo (rdLe_frozen M))
  have hH := Has.nil (frozen M)
  refine Run.seq (Run.region ?_)
  refine Run.opG wantS_none (ex_assign rfl) rfl ?_
  refine Run.opsEnd (Run.seq (Run.seq (Run.region ?_)))
  refine Run.opG wantS_none (ex_move rfl) rfl ?_
  refine Run.opG wantS_none (ex_len' rfl hs0 lenk59) rfl ?_
  refine Run.opG wantS_none (ex_gtr rfl rfl) rfl ?_
  refine Run.opsEnd ?_
  rcases btf ((decide ((64 : Int) < (a0.length : Int)))) with hc21 | hc21
  · have h := bif_t hc21 h
    refine Run.condT' rfl hc21 ?_
    refine Run.seq (Run.region ?_)
    refine Run.opG wantS_none (ex_assign rfl) rfl ?_
    refine Run.opsEnd ?_
    cases h
    exact Run.ret Tryz.func66 rfl (res_tmp rfl res_nil) rfl
  · have h := bif_f hc21 h
    refine Run.condF' rfl hc21 ?_
    refine Run.skip (Run.seq (Run.region ?_))
    refine Run.opG wantS_none (ex_assign rfl) rfl ?_
    refine Run.opsEnd (Run.seq (Run.seq (Run.region ?_)))
    refine Run.opG wantS_none (ex_move rfl) rfl ?_
    refine Run.opG wantS_none (ex_len' rfl hs0 lenk59) rfl ?_
    refine Run.opG wantS_none (ex_move rfl) rfl ?_
    refine Run.opsEnd (Run.block (Run.loop ?_))
    exact Run.pick [1, 5, 11, 12, 13] (search_areWaves_1_ok F F a1 ((-1) : Int) a0 (a0.length : Int) (0 : Int) s0 _ _ _ hs0 hH h)

theorem mkk66 : makeK Tryz.prog 66 = none := by kernel_rfl
theorem cal66 : callable Tryz.prog 66 = true := by kernel_rfl
abbrev search_checkWaves_post (r : Int) : SV → Mem → Prop := fun s _ => s = (.int .i64 r)

def search_checkWaves (F : Nat) (a0 : (List Int)) (a1 : (List S_api_Wave)) : Option (Int) :=
  bnd (search_isRecord F a0) fun r22 =>
  bif (!r22) then
    some (82 : Int)
  else
    bnd (search_areWaves F a1 (a0.length : Int)) fun r26 =>
    bif (!r26) then
      some (83 : Int)
    else
      some (0 : Int)

theorem search_checkWaves_ok (F : Nat) (a0 : (List Int)) (a1 : (List S_api_Wave)) (s0 s1 : SV) (r : Int) (M : Mem) (hs0 : Slc (rd M) 1 (FlatR enc3) s0 a0) (hs1 : Slc (rd M) 3 (rep58 (rd M)) s1 a1) (h : search_checkWaves F a0 a1 = some r) : CallsM Tryz.prog 61 [s0, s1] M (fun s M' => s = (.int .i64 r) ∧ M' = M) := by
  refine CallsM.plain Tryz.func61 rfl rfl rfl (show Run _ _ _ (search_checkWaves_post r) _ _ _ from ?_)
  rw [search_checkWaves] at h
  replace hs0 := hs0.mono (rdLe_frozen M) (fun _ _ h => h)
  replace hs1 := hs1.mono (rdLe_frozen M) (fun _ _ => rep58_mo (rdLe_frozen M))
  have hH := Has.nil (frozen M)
  refine Run.seq (Run.region ?_)
  refine Run.opG wantS_none (ex_assign rfl) rfl ?_
  refine Run.opsEnd (Run.seq (Run.block (Run.seq (Run.region ?_))))
  refine Run.opG wantS_none (ex_move rfl) rfl ?_
  obtain ⟨r22, hr22, h⟩ := bnd_some h
  refine Run.callP wantS_none (ex_call rfl mkk108 cal108) rfl (search_isRecord_ok F a0 s0 _ _ (hH.slcF hs0) hr22) ?_
  refine Run.opG wantS_none (ex_not rfl) rfl ?_
  refine Run.opG wantS_none (ex_assign rfl) rfl ?_
  refine Run.opsEnd ?_
  rcases btf ((!r22)) with hc24 | hc24
  · have h := bif_t hc24 h
    refine Run.condT' rfl hc24 ?_
    refine Run.seq (Run.region ?_)
    refine Run.opG wantS_none (ex_assign rfl) rfl ?_
    refine Run.opsEnd ?_
    cases h
    exact Run.ret Tryz.func61 rfl (res_tmp rfl res_nil) rfl
  · have h := bif_f hc24 h
    refine Run.condF' rfl hc24 ?_
    refine Run.seq (Run.region ?_)
    refine Run.opG wantS_none (ex_move rfl) rfl ?_
    refine Run.opG wantS_none (ex_move rfl) rfl ?_
    refine Run.opG wantS_none (ex_len' rfl hs0 lenk25) rfl ?_
    obtain ⟨r26, hr26, h⟩ := bnd_some h
    refine Run.callP wantS_none (ex_call rfl mkk66 cal66) rfl (search_areWaves_ok F a1 (a0.length : Int) s1 _ _ ((hs1).mono hH.le (fun _ _ => rep58_mo hH.le)) hr26) ?_
    refine Run.opG wantS_none (ex_not rfl) rfl ?_
    refine Run.opG wantS_none (ex_assign rfl) rfl ?_
    refine Run.opsEnd ?_
    rcases btf ((!r26)) with hc28 | hc28
    · have h := bif_t hc28 h
      refine Run.condT' rfl hc28 ?_
      refine Run.seq (Run.region ?_)
      refine Run.opG wantS_none (ex_assign rfl) rfl ?_
      refine Run.opsEnd ?_
      cases h
      exact Run.ret Tryz.func61 rfl (res_tmp rfl res_nil) rfl
    · have h := bif_f hc28 h
      refine Run.condF' rfl hc28 ?_
      refine Run.skip (Run.inBlock (Run.seq (Run.region ?_)))
      refine Run.opG wantS_none (ex_assign rfl) rfl ?_
      refine Run.opsEnd ?_
      cases h
      exact Run.ret Tryz.func61 rfl (res_tmp rfl res_nil) rfl

theorem mkk61 : makeK Tryz.prog 61 = none := by kernel_rfl
theorem cal61 : callable Tryz.prog 61 = true := by kernel_rfl
theorem eqk25 : eqK Tryz.prog 25 = some .slice := by kernel_rfl
theorem appt25_25 : appT Tryz.prog 25 25 = some (⟨1, 8, [(.int .i64 0)], 3⟩ : Elt) := by kernel_rfl
abbrev slices_Clone_post (r : (List Int)) : SV → Mem → Prop := fun s Me => ∃ q1, s = q1 ∧ Has (fun _ => none) Me [.vec 3 1 r.length q1 (r.flatMap enc3)]

def slices_Clone (F : Nat) (a0 : (List Int)) : Option ((List Int)) :=
  bnd (apd 8 ([] : List Int) a0) fun l29 =>
  some l29

theorem slices_Clone_ok (F : Nat) (a0 : (List Int)) (s0 : SV) (r : (List Int)) (M : Mem) (hs0 : Slc (rd M) 1 (FlatR enc3) s0 a0) (h : slices_Clone F a0 = some r) : CallsM Tryz.prog 113 [s0] M (fun s M' => ∃ q1, s = q1 ∧ New M M' [.vec 3 1 r.length q1 (r.flatMap enc3)]) := by
  refine CallsM.fresh (Q := slices_Clone_post r) Tryz.func113 rfl rfl ?_ (by rintro s Me ⟨q1, rfl, hx⟩ ha hw; exact ⟨_, rfl, New.of rfl hx ha hw⟩)
  rw [slices_Clone] at h
  replace hs0 := hs0.mono (rdLe_frozen M) (fun _ _ h => h)
  have hH := Has.nil (frozen M)
  refine Run.seq (Run.region ?_)
  refine Run.opG wantS_none (ex_assign rfl) rfl ?_
  refine Run.opsEnd (Run.seq (Run.seq (Run.region ?_)))
  refine Run.opG wantS_none (ex_move rfl) rfl ?_
  rcases slc_or hs0 with ⟨rfl, rfl⟩ | hn21
  · have h : (
      some ([] : List Int)
      ) = some r := h
    refine Run.opG wantS_none (ex_nilT rfl rfl eqk25) rfl ?_
    refine Run.opsEnd ?_
    refine Run.condT' rfl rfl ?_
    refine Run.seq (Run.region ?_)
    refine Run.opG wantS_none (ex_assign rfl) rfl ?_
    refine Run.opsEnd ?_
    have hH23 : Has (ro (frozen M)) (frozen M) [.vec 3 1 ([] : List Int).length .nils (([] : List Int).flatMap enc3)] := hH.nils 3 1
    cases h
    exact Run.ret Tryz.func113 rfl (res_tmp rfl res_nil) ⟨_, rfl, (hH23.pick [0] rfl rfl).upF (none_le _)⟩
  · refine Run.opG wantS_none (ex_nilF rfl hn21 rfl eqk25) rfl ?_
    refine Run.opsEnd ?_
    refine Run.condF' rfl rfl ?_
    refine Run.skip (Run.seq (Run.region ?_))
    refine Run.opX wantS_none rfl (ExG.built (enc := enc3) (l := ([] : List Int)) (z := 1) rfl elt25 rfl rfl rfl enc3_len hH) ?_
    rintro s25 M26 (hH26 : Has (ro (frozen M)) M26 [.vec 3 1 ([] : List Int).length s25 (([] : List Int).flatMap enc3)])
    refine Run.opG wantS_none (ex_move rfl) rfl ?_
    obtain ⟨l29, hl29, h⟩ := bnd_some h
    refine Run.opX wantS_none rfl (ExG.append rfl rfl hH26 (i := 0) rfl enc3_len rfl enc3_ones appt25_25 rfl (len_slc hs0) (first_slc hs0 (rdLe_roF hH26) enc3_len) hl29) ?_
    rintro s29 M31 (hH31 : Has (ro (frozen M)) M31 [.vec 3 1 l29.length s29 (l29.flatMap enc3)])
    refine Run.opG wantS_none (ex_assign rfl) rfl ?_
    refine Run.opsEnd ?_
    cases h
    exact Run.ret Tryz.func113 rfl (res_tmp rfl res_nil) ⟨_, rfl, (hH31.pick [0] rfl rfl).upF (none_le _)⟩

theorem mkk113 : makeK Tryz.prog 113 = none := by kernel_rfl
theorem cal113 : callable Tryz.prog 113 = true := by kernel_rfl
theorem plan63_1_1_0_1_0_0_1_1_0_0_1_1_0_0_1_1_0_0_1 : planOf Tryz.prog (opsC (atC Tryz.prog 63 [1, 1, 0, 1, 0, 0, 1, 1, 0, 0, 1, 1, 0, 0, 1, 1, 0, 0, 1])) = some [.fl 0, .fl 1, .fl 2, .fl 3, .fl 4, .fl 5, .fl 6, .fl 7, .fl 8, .fl 9, .fl 10, .fl 11, .fl 12, .fl 13, .fl 14, .an 15 [], .sync] := by kernel_rfl
abbrev search_added_post (r : (List Int)) : SV → Mem → Prop := fun s Me => ∃ q1, s = q1 ∧ Has (fun _ => none) Me [.vec 3 1 r.length q1 (r.flatMap enc3)]

def search_added_2 (F : Nat) (hd1 : Int → (List S_api_Wave) → Int → Int → (List Int) → Option ((List Int))) : Nat → Int → (List S_api_Wave) → Int → Int → (List Int) → Int → Int → Int → Int → (List Int) → (List Int) → Option ((List Int))
  | 0, _, _, _, _, _, _, _, _, _, _, _ => none
  | N + 1, v2, v14, v15, v16, v21, v22, v23, c30_0, c30_1, c30_2, l24 =>
    bif (decide (v23 < v22)) then
      bnd (idx v21 v23) fun x35 =>
      bnd (idx l24 (w64 (c30_0 + v23))) fun x36 =>
      bnd (inn l24 (w64 (c30_0 + v23))) fun o37 =>
      bnd (upd l24 o37 (w64 (x36 + (w64 ((w64 (v2 * c30_1)) * x35))))) fun l38 =>
      (search_added_2 F hd1 N) v2 v14 v15 v16 v21 v22 (w64 (v23 + (1 : Int))) c30_0 c30_1 c30_2 l38
    else
      hd1 v2 v14 v15 (w64 (v16 + (1 : Int))) l24

theorem search_added_2_ok (F : Nat) (hd1 : Int → (List S_api_Wave) → Int → Int → (List Int) → Option ((List Int))) (hhd1 : ∀ (v2 : Int) (v14 : (List S_api_Wave)) (v15 v16 : Int) (l24 : (List Int)) (sv14 s24 : SV) (Fr : Rd) (M : Mem) (r : (List Int)) (hv14 : Slc Fr 3 (rep58 Fr) sv14 v14) (hH : Has Fr M [.vec 3 1 l24.length s24 (l24.flatMap enc3)]), hd1 v2 v14 v15 v16 l24 = some r → Run Tryz.prog ⟨⟨63, [], none⟩, []⟩ 46 (search_added_post r) [(2, (.int .i64 v2)), (7, s24), (14, sv14), (15, (.int .i64 v15)), (16, (.int .i64 v16))] [codeC Tryz.prog 63 [1, 1, 0, 1, 0, 0], loopC Tryz.prog 63 [1, 1, 0, 1, 0, 0], .inBlock 0, codeC Tryz.prog 63 [1, 1, 1]] M) : ∀ (N : Nat), ∀ (v2 : Int) (v14 : (List S_api_Wave)) (v15 v16 : Int) (v21 : (List Int)) (v22 v23 c30_0 c30_1 : Int) (c30_2 l24 : (List Int)) (sv14 sv21 sc30_2 s24 : SV) (b30 : Pos) (Fr : Rd) (M : Mem) (r : (List Int)) (hv14 : Slc Fr 3 (rep58 Fr) sv14 v14) (hv21 : Slc Fr 1 (FlatR enc3) sv21 v21) (hc30_2 : Slc Fr 1 (FlatR enc3) sc30_2 c30_2) (hH : Has Fr M [.vec 3 1 l24.length s24 (l24.flatMap enc3), .obj b30 (.row 58 .whole [(.int .i64 c30_0), (.int .i64 c30_1), sc30_2])]), search_added_2 F hd1 N v2 v14 v15 v16 v21 v22 v23 c30_0 c30_1 c30_2 l24 = some r → Run Tryz.prog ⟨⟨63, [], none⟩, []⟩ 46 (search_added_post r) [(2, (.int .i64 v2)), (7, s24), (9, (.ptr b30 0)), (14, sv14), (15, (.int .i64 v15)), (16, (.int .i64 v16)), (21, sv21), (22, (.int .i64 v22)), (23, (.int .i64 v23))] [codeC Tryz.prog 63 [1, 1, 0, 1, 0, 0, 1, 1, 0, 0, 1, 1, 0, 0], loopC Tryz.prog 63 [1, 1, 0, 1, 0, 0, 1, 1, 0, 0, 1, 1, 0, 0], .inBlock 2, .inBlock 1, codeC Tryz.prog 63 [1, 1, 0, 1, 0, 0, 1, 1, 1], loopC Tryz.prog 63 [1, 1, 0, 1, 0, 0], .inBlock 0, codeC Tryz.prog 63 [1, 1, 1]] M := by
  intro N
  induction N with
  | zero =>
    intro v2 v14 v15 v16 v21 v22 v23 c30_0 c30_1 c30_2 l24 sv14 sv21 sc30_2 s24 b30 Fr M r hv14 hv21 hc30_2 hH h
    simp [search_added_2] at h
  | succ N ih =>
    intro v2 v14 v15 v16 v21 v22 v23 c30_0 c30_1 c30_2 l24 sv14 sv21 sc30_2 s24 b30 Fr M r hv14 hv21 hc30_2 hH h
    rw [search_added_2] at h
    refine Run.seq (Run.region ?_)
    refine Run.opG wantS_none (ex_lss rfl rfl) rfl ?_
    refine Run.opsEnd (Run.seq ?_)
    rcases btf ((decide (v23 < v22))) with hc33 | hc33
    · have h := bif_t hc33 h
      refine Run.condT' rfl hc33 ?_
      refine Run.skip (Run.seq (Run.block (Run.seq (Run.region ?_))))
      refine Run.opG wantS_none (ex_move rfl) rfl ?_
      obtain ⟨x35, hx35, h⟩ := bnd_some h
      obtain ⟨p35, o35, _, hx35, hp35, rfl⟩ := sl_elem (P := Tryz.prog) (t := 25) (kk := .i64) hv21 hx35 els25
      refine Run.opG wantS_none (ex_elX rfl rfl hx35) rfl ?_
      refine Run.opG wantS_none (ex_load1 rfl (hH.ptrF hp35) rdLe_rfl agg3) rfl ?_
      refine Run.opG wantS_none (ex_assign rfl) rfl ?_
      refine Run.opG wantS_none (ex_assign rfl) rfl ?_
      refine Run.opsEnd ?_
      refine Run.drawG plan63_1_1_0_1_0_0_1_1_0_0_1_1_0_0_1_1_0_0_1 ?_
      refine DrawG.fl rfl (ev_ex wantS_none (ex_move rfl)) rfl ?_
      refine DrawG.fl rfl (ev_ex wantS_none (ex_fieldAddr rfl off58_0)) rfl ?_
      refine DrawG.fl rfl (ev_ex wantS_none (ex_load1 rfl (hH.cells (i := 1) rfl 0 rfl) rdLe_rfl agg3)) rfl ?_
      refine DrawG.fl rfl (ev_ex wantS_none (ex_move rfl)) rfl ?_
      refine DrawG.fl rfl (ev_ex wantS_none (ex_add rfl rfl)) rfl ?_
      obtain ⟨x36, hx36, h⟩ := bnd_some h
      obtain ⟨p36, o36, hb36, hx36, he36⟩ := vec_elem (P := Tryz.prog) (t := 25) (kk := .i64) hH (i := 0) rfl hx36 els25
      refine DrawG.fl rfl (ev_ex wantS_none (ex_elX rfl rfl hx36)) rfl ?_
      refine DrawG.fl rfl (ev_ex wantS_none (ex_load1 rfl (hH.at (enc := enc3) (a := x36) (i := 0) rfl hb36 he36 enc3_len) rdLe_rfl agg3)) rfl ?_
      refine DrawG.fl rfl (ev_ex wantS_none (ex_move rfl)) rfl ?_
      refine DrawG.fl rfl (ev_ex wantS_none (ex_fieldAddr rfl off58_1)) rfl ?_
      refine DrawG.fl rfl (ev_ex wantS_none (ex_load1 rfl (hH.cells (i := 1) rfl 1 rfl) rdLe_rfl agg3)) rfl ?_
      refine DrawG.fl rfl (ev_ex wantS_none (ex_mul rfl rfl)) rfl ?_
      refine DrawG.fl rfl (ev_ex wantS_none (ex_move rfl)) rfl ?_
      refine DrawG.fl rfl (ev_ex wantS_none (ex_mul rfl rfl)) rfl ?_
      refine DrawG.fl rfl (ev_ex wantS_none (ex_add rfl rfl)) rfl ?_
      obtain ⟨o37, ho37, h⟩ := bnd_some h
      obtain ⟨p37, hb37, hx37⟩ := vec_place (P := Tryz.prog) (t := 25) (kk := .i64) hH (i := 0) rfl ho37 els25
      refine DrawG.fl rfl (ev_ex wantS_none (ex_elX rfl rfl hx37)) rfl ?_
      obtain ⟨l38, hl38, h⟩ := bnd_some h
      refine DrawG.opX rfl wantS_none rfl (ExG.storeEl rfl rfl hH (i := 0) rfl hb37 hl38 sz3 rfl enc3_len enc3_ones) ?_
      rintro _ M39 ⟨rfl, (hH39 : Has Fr M39 [.vec 3 1 l38.length s24 (l38.flatMap enc3), .obj b30 (.row 58 .whole [(.int .i64 c30_0), (.int .i64 c30_1), sc30_2])])⟩
      refine ⟨st_nil, ?_⟩
      refine DrawG.sync ?_
      refine DrawG.nil ?_
      refine Run.inBlock (Run.region ?_)
      refine Run.opG wantS_none (ex_add rfl rfl) rfl ?_
      refine Run.opG wantS_none (ex_move rfl) rfl ?_
      refine Run.opsEnd (Run.inLoop ?_)
      exact Run.pick [2, 7, 9, 14, 15, 16, 21, 22, 23] (ih v2 v14 v15 v16 v21 v22 (w64 (v23 + (1 : Int))) c30_0 c30_1 c30_2 l38 sv14 sv21 sc30_2 s24 b30 _ _ _ hv14 hv21 hc30_2 hH39 h)
    · have h := bif_f hc33 h
      refine Run.condF' rfl hc33 ?_
      refine Run.exit rfl (Run.inBlock (Run.region ?_))
      refine Run.opG wantS_none (ex_add rfl rfl) rfl ?_
      refine Run.opG wantS_none (ex_move rfl) rfl ?_
      refine Run.opsEnd (Run.inLoop ?_)
      exact Run.pick [2, 7, 14, 15, 16] (hhd1 v2 v14 v15 (w64 (v16 + (1 : Int))) l24 sv14 s24 _ _ _ hv14 (hH.pick [0] rfl rfl) h)

def search_added_1 (F : Nat) : Nat → Int → (List S_api_Wave) → Int → Int → (List Int) → Option ((List Int))
  | 0, _, _, _, _, _ => none
  | N + 1, v2, v14, v15, v16, l24 =>
    bif (decide (v16 < v15)) then
      bnd (idx v14 v16) fun x28 =>
      search_added_2 F (search_added_1 F N) F v2 v14 v15 v16 x28.Samples (x28.Samples.length : Int) (0 : Int) x28.At x28.Gain x28.Samples l24
    else
      some l24

theorem search_added_1_ok (F : Nat) : ∀ (N : Nat), ∀ (v2 : Int) (v14 : (List S_api_Wave)) (v15 v16 : Int) (l24 : (List Int)) (sv14 s24 : SV) (Fr : Rd) (M : Mem) (r : (List Int)) (hv14 : Slc Fr 3 (rep58 Fr) sv14 v14) (hH : Has Fr M [.vec 3 1 l24.length s24 (l24.flatMap enc3)]), search_added_1 F N v2 v14 v15 v16 l24 = some r → Run Tryz.prog ⟨⟨63, [], none⟩, []⟩ 46 (search_added_post r) [(2, (.int .i64 v2)), (7, s24), (14, sv14), (15, (.int .i64 v15)), (16, (.int .i64 v16))] [codeC Tryz.prog 63 [1, 1, 0, 1, 0, 0], loopC Tryz.prog 63 [1, 1, 0, 1, 0, 0], .inBlock 0, codeC Tryz.prog 63 [1, 1, 1]] M := by
  intro N
  induction N with
  | zero =>
    intro v2 v14 v15 v16 l24 sv14 s24 Fr M r hv14 hH h
    simp [search_added_1] at h
  | succ N ih =>
    intro v2 v14 v15 v16 l24 sv14 s24 Fr M r hv14 hH h
    rw [search_added_1] at h
    refine Run.seq (Run.region ?_)
    refine Run.opG wantS_none (ex_lss rfl rfl) rfl ?_
    refine Run.opsEnd (Run.seq ?_)
    rcases btf ((decide (v16 < v15))) with hc26 | hc26
    · have h := bif_t hc26 h
      refine Run.condT' rfl hc26 ?_
      refine Run.skip (Run.seq (Run.block (Run.seq (Run.region ?_))))
      obtain ⟨x28, hx28, h⟩ := bnd_some h
      obtain ⟨p28, o28, _, hx28, hp28, ⟨q28_0, rfl, hq28_0⟩⟩ := sl_elem (P := Tryz.prog) (t := 59) (kk := .i64) hv14 hx28 els59
      refine Run.opG wantS_none (ex_elX rfl rfl hx28) rfl ?_
      refine Run.opG wantS_none (ex_loadA rfl (hH.ptrF hp28) rdLe_rfl agg58 rfl rfl rfl) rfl ?_
      refine Run.opX wantS_none rfl (ExG.new (v := fun b => .ptr b 0) (ex_alloc zer58) hH) ?_
      rintro _ M31 ⟨b30, rfl, hH31⟩
      refine Run.opX wantS_none rfl (ExG.storeC (c' := [(.int .i64 x28.At), (.int .i64 x28.Gain), q28_0]) rfl rfl rfl hH31 (i := 0) rfl sz58 rfl rfl rfl (ones_cons rfl (ones_cons rfl (ones_cons (slc_one hq28_0) ones_nil))) rfl) ?_
      rintro _ M32 ⟨rfl, (hH32 : Has Fr M32 [.obj b30 (.row 58 .whole [(.int .i64 x28.At), (.int .i64 x28.Gain), q28_0]), .vec 3 1 l24.length s24 (l24.flatMap enc3)])⟩
      refine Run.opsEnd (Run.seq (Run.region ?_))
      refine Run.opG wantS_none (ex_fieldAddr rfl off58_2) rfl ?_
      refine Run.opG wantS_none (ex_load1 rfl (hH32.cells (i := 0) rfl 2 rfl) rdLe_rfl agg25) rfl ?_
      refine Run.opG wantS_none (ex_len' rfl hq28_0 lenk25) rfl ?_
      refine Run.opG wantS_none (ex_move rfl) rfl ?_
      refine Run.opsEnd (Run.block (Run.loop ?_))
      exact Run.pick [2, 7, 9, 14, 15, 16, 21, 22, 23] (search_added_2_ok F (search_added_1 F N) ih F v2 v14 v15 v16 x28.Samples (x28.Samples.length : Int) (0 : Int) x28.At x28.Gain x28.Samples l24 sv14 q28_0 q28_0 s24 b30 _ _ _ hv14 hq28_0 hq28_0 (hH32.pick [1, 0] rfl rfl) h)
    · have h := bif_f hc26 h
      refine Run.condF' rfl hc26 ?_
      refine Run.exit rfl (Run.seq (Run.region ?_))
      refine Run.opG wantS_none (ex_move rfl) rfl ?_
      refine Run.opG wantS_none (ex_assign rfl) rfl ?_
      refine Run.opsEnd ?_
      cases h
      exact Run.ret Tryz.func63 rfl (res_tmp rfl res_nil) ⟨_, rfl, (hH.pick [0] rfl rfl).upF (none_le _)⟩

def search_added (F : Nat) (a0 : (List Int)) (a1 : (List S_api_Wave)) (a2 : Int) : Option ((List Int)) :=
  bnd (slices_Clone F a0) fun r23 =>
  search_added_1 F F a2 a1 (a1.length : Int) (0 : Int) r23

theorem search_added_ok (F : Nat) (a0 : (List Int)) (a1 : (List S_api_Wave)) (a2 : Int) (s0 s1 : SV) (r : (List Int)) (M : Mem) (hs0 : Slc (rd M) 1 (FlatR enc3) s0 a0) (hs1 : Slc (rd M) 3 (rep58 (rd M)) s1 a1) (h : search_added F a0 a1 a2 = some r) : CallsM Tryz.prog 63 [s0, s1, (.int .i64 a2)] M (fun s M' => ∃ q1, s = q1 ∧ New M M' [.vec 3 1 r.length q1 (r.flatMap enc3)]) := by
  refine CallsM.fresh (Q := search_added_post r) Tryz.func63 rfl rfl ?_ (by rintro s Me ⟨q1, rfl, hx⟩ ha hw; exact ⟨_, rfl, New.of rfl hx ha hw⟩)
  rw [search_added] at h
  replace hs0 := hs0.mono (rdLe_frozen M) (fun _ _ h => h)
  replace hs1 := hs1.mono (rdLe_frozen M) (fun _ _ => rep58_mo (rdLe_frozen M))
  have hH := Has.nil (frozen M)
  refine Run.seq (Run.region ?_)
  refine Run.opG wantS_none (ex_assign rfl) rfl ?_
  refine Run.opsEnd (Run.seq (Run.region ?_))
  refine Run.opG wantS_none (ex_move rfl) rfl ?_
  obtain ⟨r23, hr23, h⟩ := bnd_some h
  refine Run.callX wantS_none (ex_call rfl mkk113 cal113) rfl (slices_Clone_ok F a0 s0 _ _ (hH.slcF hs0) hr23) ?_
  rintro s23_0 M25 ⟨_, rfl, hN23⟩
  have hH25 : Has (ro (frozen M)) M25 [.vec 3 1 r23.length s23_0 (r23.flatMap enc3)] := hN23.1 _ _ hH
  refine Run.opG wantS_none (ex_assign rfl) rfl ?_
  refine Run.opsEnd (Run.seq (Run.seq (Run.region ?_)))
  refine Run.opG wantS_none (ex_move rfl) rfl ?_
  refine Run.opG wantS_none (ex_len' rfl hs1 lenk59) rfl ?_
  refine Run.opG wantS_none (ex_move rfl) rfl ?_
  refine Run.opsEnd (Run.block (Run.loop ?_))
  exact Run.pick [2, 7, 14, 15, 16] (search_added_1_ok F F a2 a1 (a1.length : Int) (0 : Int) r23 s1 s23_0 _ _ _ hs1 hH25 h)

theorem mkk63 : makeK Tryz.prog 63 = none := by kernel_rfl
theorem cal63 : callable Tryz.prog 63 = true := by kernel_rfl
theorem mkk62 : makeK Tryz.prog 62 = none := by kernel_rfl
theorem cal62 : callable Tryz.prog 62 = true := by kernel_rfl
abbrev search_Inject_post (r : (List Int) × Int) : SV → Mem → Prop := fun s Me => ∃ q1, s = (.tuple [q1, (.int .i64 r.2)]) ∧ Has (fun _ => none) Me [.vec 3 1 r.1.length q1 (r.1.flatMap enc3)]

def search_Inject (F : Nat) (a0 : (List Int)) (a1 : (List S_api_Wave)) : Option ((List Int) × Int) :=
  bnd (search_checkWaves F a0 a1) fun r22 =>
  bif (!(r22 == (0 : Int))) then
    some (([] : List Int), r22)
  else
    bnd (search_added F a0 a1 (1 : Int)) fun r29 =>
    bnd (search_isRecord F r29) fun r33 =>
    bif (!r33) then
      some (([] : List Int), (8 : Int))
    else
      some (r29, (0 : Int))

theorem search_Inject_ok (F : Nat) (a0 : (List Int)) (a1 : (List S_api_Wave)) (s0 s1 : SV) (r : (List Int) × Int) (M : Mem) (hs0 : Slc (rd M) 1 (FlatR enc3) s0 a0) (hs1 : Slc (rd M) 3 (rep58 (rd M)) s1 a1) (h : search_Inject F a0 a1 = some r) : CallsM Tryz.prog 20 [s0, s1] M (fun s M' => ∃ q1, s = (.tuple [q1, (.int .i64 r.2)]) ∧ New M M' [.vec 3 1 r.1.length q1 (r.1.flatMap enc3)]) := by
  refine CallsM.fresh (Q := search_Inject_post r) Tryz.func20 rfl rfl ?_ (by rintro s Me ⟨q1, rfl, hx⟩ ha hw; exact ⟨_, rfl, New.of rfl hx ha hw⟩)
  rw [search_Inject] at h
  replace hs0 := hs0.mono (rdLe_frozen M) (fun _ _ h => h)
  replace hs1 := hs1.mono (rdLe_frozen M) (fun _ _ => rep58_mo (rdLe_frozen M))
  have hH := Has.nil (frozen M)
  refine Run.seq (Run.region ?_)
  refine Run.opG wantS_none (ex_assign rfl) rfl ?_
  refine Run.opG wantS_none (ex_assign rfl) rfl ?_
  refine Run.opsEnd (Run.seq (Run.seq (Run.region ?_)))
  refine Run.opG wantS_none (ex_move rfl) rfl ?_
  refine Run.opG wantS_none (ex_move rfl) rfl ?_
  obtain ⟨r22, hr22, h⟩ := bnd_some h
  refine Run.callP wantS_none (ex_call rfl mkk61 cal61) rfl (search_checkWaves_ok F a0 a1 s0 s1 _ _ (hH.slcF hs0) ((hs1).mono hH.le (fun _ _ => rep58_mo hH.le)) hr22) ?_
  refine Run.opG wantS_none (ex_assign rfl) rfl ?_
  refine Run.opsEnd (Run.seq (Run.region ?_))
  refine Run.opG wantS_none (ex_move rfl) rfl ?_
  refine Run.opG wantS_none (ex_neq rfl rfl) rfl ?_
  refine Run.opsEnd ?_
  rcases btf ((!(r22 == (0 : Int)))) with hc24 | hc24
  · have h := bif_t hc24 h
    refine Run.condT' rfl hc24 ?_
    refine Run.seq (Run.region ?_)
    refine Run.opG wantS_none (ex_move rfl) rfl ?_
    refine Run.opG wantS_none (ex_assign rfl) rfl ?_
    refine Run.opG wantS_none (ex_assign rfl) rfl ?_
    refine Run.opsEnd ?_
    have hH26 : Has (ro (frozen M)) (frozen M) [.vec 3 1 ([] : List Int).length .nils (([] : List Int).flatMap enc3)] := hH.nils 3 1
    cases h
    exact Run.ret Tryz.func20 rfl (res_tmp rfl (res_tmp rfl res_nil)) ⟨_, rfl, (hH26.pick [0] rfl rfl).upF (none_le _)⟩
  · have h := bif_f hc24 h
    refine Run.condF' rfl hc24 ?_
    refine Run.skip (Run.seq (Run.region ?_))
    refine Run.opG wantS_none (ex_move rfl) rfl ?_
    refine Run.opG wantS_none (ex_move rfl) rfl ?_
    obtain ⟨r29, hr29, h⟩ := bnd_some h
    refine Run.callX wantS_none (ex_call rfl mkk63 cal63) rfl (search_added_ok F a0 a1 (1 : Int) s0 s1 _ _ (hH.slcF hs0) ((hs1).mono hH.le (fun _ _ => rep58_mo hH.le)) hr29) ?_
    rintro s29_0 M31 ⟨_, rfl, hN29⟩
    have hH31 : Has (ro (frozen M)) M31 [.vec 3 1 r29.length s29_0 (r29.flatMap enc3)] := hN29.1 _ _ hH
    refine Run.enter wantS_none (ex_call rfl mkk62 cal62) Tryz.func62 rfl rfl ?_
    refine Run.seq (Run.region ?_)
    refine Run.opG wantS_none (ex_assign rfl) rfl ?_
    refine Run.opG wantS_none (ex_assign rfl) rfl ?_
    refine Run.opsEnd (Run.seq (Run.seq (Run.region ?_)))
    refine Run.opG wantS_none (ex_move rfl) rfl ?_
    obtain ⟨r33, hr33, h⟩ := bnd_some h
    refine Run.callP wantS_none (ex_call rfl mkk108 cal108) rfl (search_isRecord_ok F r29 s29_0 _ _ (hH31.slc (i := 0) rfl enc3_len) hr33) ?_
    refine Run.opG wantS_none (ex_not rfl) rfl ?_
    refine Run.opsEnd ?_
    rcases btf ((!r33)) with hc35 | hc35
    · have h := bif_t hc35 h
      refine Run.condT' rfl hc35 ?_
      refine Run.seq (Run.region ?_)
      refine Run.opG wantS_none (ex_assign rfl) rfl ?_
      refine Run.opG wantS_none (ex_assign rfl) rfl ?_
      refine Run.opsEnd ?_
      refine Run.retTo Tryz.func62 rfl (res_tmp rfl (res_tmp rfl res_nil)) rfl ?_
      refine Run.opG wantS_none (ex_extract rfl rfl) rfl ?_
      refine Run.opG wantS_none (ex_extract rfl rfl) rfl ?_
      refine Run.opG wantS_none (ex_assign rfl) rfl ?_
      refine Run.opG wantS_none (ex_assign rfl) rfl ?_
      refine Run.opsEnd ?_
      have hH37 : Has (ro (frozen M)) M31 [.vec 3 1 ([] : List Int).length .nils (([] : List Int).flatMap enc3), .vec 3 1 r29.length s29_0 (r29.flatMap enc3)] := hH31.nils 3 1
      cases h
      exact Run.ret Tryz.func20 rfl (res_tmp rfl (res_tmp rfl res_nil)) ⟨_, rfl, (hH37.pick [0] rfl rfl).upF (none_le _)⟩
    · have h := bif_f hc35 h
      refine Run.condF' rfl hc35 ?_
      refine Run.skip (Run.seq (Run.region ?_))
      refine Run.opG wantS_none (ex_move rfl) rfl ?_
      refine Run.opG wantS_none (ex_assign rfl) rfl ?_
      refine Run.opG wantS_none (ex_assign rfl) rfl ?_
      refine Run.opsEnd ?_
      refine Run.retTo Tryz.func62 rfl (res_tmp rfl (res_tmp rfl res_nil)) rfl ?_
      refine Run.opG wantS_none (ex_extract rfl rfl) rfl ?_
      refine Run.opG wantS_none (ex_extract rfl rfl) rfl ?_
      refine Run.opG wantS_none (ex_assign rfl) rfl ?_
      refine Run.opG wantS_none (ex_assign rfl) rfl ?_
      refine Run.opsEnd ?_
      cases h
      exact Run.ret Tryz.func20 rfl (res_tmp rfl (res_tmp rfl res_nil)) ⟨_, rfl, (hH31.pick [0] rfl rfl).upF (none_le _)⟩

theorem mkk20 : makeK Tryz.prog 20 = none := by kernel_rfl
theorem cal20 : callable Tryz.prog 20 = true := by kernel_rfl
theorem mkk83 : makeK Tryz.prog 83 = none := by kernel_rfl
theorem cal83 : callable Tryz.prog 83 = true := by kernel_rfl
abbrev bank_areData_f1_post (r : Bool) : SV → Mem → Prop := fun s _ => s = (.bool r)

def bank_areData_f1 (F : Nat) (a0 : Int) : Option (Bool) :=
  bnd (bank_isFrom F ((-32768) : Int) a0 (32768 : Int)) fun r22 =>
  some (!r22)

theorem bank_areData_f1_ok (F : Nat) (a0 : Int) (r : Bool) (M : Mem) (h : bank_areData_f1 F a0 = some r) : CallsM Tryz.prog 83 [(.int .i64 a0)] M (fun s M' => s = (.bool r) ∧ M' = M) := by
  refine CallsM.plain Tryz.func83 rfl rfl rfl (show Run _ _ _ (bank_areData_f1_post r) _ _ _ from ?_)
  rw [bank_areData_f1] at h
  have hH := Has.nil (frozen M)
  refine Run.seq (Run.region ?_)
  refine Run.opG wantS_none (ex_assign rfl) rfl ?_
  refine Run.opsEnd (Run.seq (Run.region ?_))
  refine Run.opG wantS_none (ex_move rfl) rfl ?_
  obtain ⟨r22, hr22, h⟩ := bnd_some h
  refine Run.callP wantS_none (ex_call rfl mkk39 cal39) rfl (bank_isFrom_ok F ((-32768) : Int) a0 (32768 : Int) _ _ hr22) ?_
  refine Run.opG wantS_none (ex_not rfl) rfl ?_
  refine Run.opG wantS_none (ex_assign rfl) rfl ?_
  refine Run.opsEnd ?_
  cases h
  exact Run.ret Tryz.func83 rfl (res_tmp rfl res_nil) rfl

abbrev bank_areData_post (r : Bool) : SV → Mem → Prop := fun s _ => s = (.bool r)

def bank_areData_2 (F : Nat) (v12 : Bool) : Option (Bool) :=
  some v12

theorem bank_areData_2_ok (F : Nat) : ∀ (v12 : Bool) (Fr : Rd) (M : Mem) (r : Bool) (hH : Has Fr M []), bank_areData_2 F v12 = some r → Run Tryz.prog ⟨⟨34, [], none⟩, []⟩ 13 (bank_areData_post r) [(12, (.bool v12))] [itemC Tryz.prog 34 [1, 1, 0] 9, codeC Tryz.prog 34 [1, 1, 1]] M := by
  intro v12 Fr M r hH h
  rw [bank_areData_2] at h
  refine Run.opG wantS_none (ex_assign rfl) rfl ?_
  refine Run.opsEnd ?_
  cases h
  exact Run.ret Tryz.func34 rfl (res_tmp rfl res_nil) rfl

def bank_areData_1 (F : Nat) : Nat → (List Int) → Int → Int → Bool → Option (Bool)
  | 0, _, _, _, _ => none
  | N + 1, v0, v7, v8, v7_f2 =>
    bif (decide (v8 < v7)) then
      bnd (idx v0 v8) fun x24 =>
      bnd (bank_areData_f1 F x24) fun r26 =>
      bif r26 then
        bif v7_f2 then
          bank_areData_2 F (!(decide ((0 : Int) ≤ v8)))
        else
          bank_areData_2 F false
      else
        (bank_areData_1 F N) v0 v7 (w64 (v8 + (1 : Int))) v7_f2
    else
      bif v7_f2 then
        bank_areData_2 F (!(decide ((0 : Int) ≤ ((-1) : Int))))
      else
        bank_areData_2 F false

theorem bank_areData_1_ok (F : Nat) : ∀ (N : Nat), ∀ (v0 : (List Int)) (v7 v8 : Int) (v7_f2 : Bool) (sv0 : SV) (Fr : Rd) (M : Mem) (r : Bool) (hv0 : Slc Fr 1 (FlatR enc3) sv0 v0) (hH : Has Fr M []), bank_areData_1 F N v0 v7 v8 v7_f2 = some r → Run Tryz.prog ⟨⟨129, [], none⟩, [.mk ⟨84, [], none⟩ 9 (treeOf []) [itemC Tryz.prog 84 [1, 0] 2, codeC Tryz.prog 84 [1, 1]], .mk ⟨34, [], none⟩ 13 (treeOf [(7, (.bool v7_f2))]) [itemC Tryz.prog 34 [1, 1, 0] 6, codeC Tryz.prog 34 [1, 1, 1]]]⟩ 19 (bank_areData_post r) [(0, sv0), (1, (.fn (.func 83) [] [])), (7, (.int .i64 v7)), (8, (.int .i64 v8))] [codeC Tryz.prog 129 [1, 0, 1, 0, 0], loopC Tryz.prog 129 [1, 0, 1, 0, 0], .inBlock 0, codeC Tryz.prog 129 [1, 1]] M := by
  intro N
  induction N with
  | zero =>
    intro v0 v7 v8 v7_f2 sv0 Fr M r hv0 hH h
    simp [bank_areData_1] at h
  | succ N ih =>
    intro v0 v7 v8 v7_f2 sv0 Fr M r hv0 hH h
    rw [bank_areData_1] at h
    refine Run.seq (Run.region ?_)
    refine Run.opG wantS_none (ex_lss rfl rfl) rfl ?_
    refine Run.opsEnd (Run.seq ?_)
    rcases btf ((decide (v8 < v7))) with hc22 | hc22
    · have h := bif_t hc22 h
      refine Run.condT' rfl hc22 ?_
      refine Run.skip (Run.seq (Run.block (Run.seq (Run.region ?_))))
      refine Run.opG wantS_none (ex_move rfl) rfl ?_
      refine Run.opG wantS_none (ex_assign rfl) rfl ?_
      refine Run.opsEnd (Run.seq (Run.region ?_))
      refine Run.opG wantS_none (ex_move rfl) rfl ?_
      refine Run.opG wantS_none (ex_move rfl) rfl ?_
      refine Run.opG wantS_none (ex_move rfl) rfl ?_
      obtain ⟨x24, hx24, h⟩ := bnd_some h
      obtain ⟨p24, o24, _, hx24, hp24, rfl⟩ := sl_elem (P := Tryz.prog) (t := 25) (kk := .i64) hv0 hx24 els25
      refine Run.opG wantS_none (ex_elX rfl rfl hx24) rfl ?_
      refine Run.opG wantS_none (ex_load1 rfl (hH.ptrF hp24) rdLe_rfl agg3) rfl ?_
      obtain ⟨r26, hr26, h⟩ := bnd_some h
      refine Run.callP wantS_none (ex_closure rfl rfl mkk83 cal83) rfl (bank_areData_f1_ok F x24 _ _ hr26) ?_
      refine Run.opsEnd ?_
      rcases btf (r26) with hc28 | hc28
      · have h := bif_t hc28 h
        refine Run.condT' rfl hc28 ?_
        refine Run.seq (Run.region ?_)
        refine Run.opG wantS_none (ex_move rfl) rfl ?_
        refine Run.opG wantS_none (ex_assign rfl) rfl ?_
        refine Run.opsEnd ?_
        refine Run.retTo Tryz.func129 rfl (res_tmp rfl res_nil) rfl ?_
        refine Run.opG wantS_none (ex_geq rfl rfl) rfl ?_
        refine Run.opG wantS_none (ex_assign rfl) rfl ?_
        refine Run.opsEnd ?_
        refine Run.retTo Tryz.func84 rfl (res_tmp rfl res_nil) rfl ?_
        rcases btf (v7_f2) with hc29 | hc29
        · have h := bif_t hc29 h
          refine Run.opG (wantS_yes' rfl rfl hc29) (ex_not rfl) rfl ?_
          refine Run.opG wantS_none (ex_pickT' rfl hc29 rfl rfl) rfl ?_
          exact Run.pick [12] (bank_areData_2_ok F (!(decide ((0 : Int) ≤ v8))) _ _ _ hH h)
        · have h := bif_f hc29 h
          refine Run.no (wantS_not' rfl rfl hc29) rfl ?_
          refine Run.opG wantS_none (ex_pickF' rfl hc29 rfl rfl) rfl ?_
          exact Run.pick [12] (bank_areData_2_ok F false _ _ _ hH h)
      · have h := bif_f hc28 h
        refine Run.condF' rfl hc28 ?_
        refine Run.skip (Run.inBlock (Run.region ?_))
        refine Run.opG wantS_none (ex_add rfl rfl) rfl ?_
        refine Run.opG wantS_none (ex_move rfl) rfl ?_
        refine Run.opsEnd (Run.inLoop ?_)
        exact Run.low (.cons (fle_pick [] rfl) (.cons (fle_pick [7] rfl) .nil)) (Run.pick [0, 1, 7, 8] (ih v0 v7 (w64 (v8 + (1 : Int))) v7_f2 sv0 _ _ _ hv0 hH h))
    · have h := bif_f hc22 h
      refine Run.condF' rfl hc22 ?_
      refine Run.exit rfl (Run.seq (Run.region ?_))
      refine Run.opG wantS_none (ex_assign rfl) rfl ?_
      refine Run.opsEnd ?_
      refine Run.retTo Tryz.func129 rfl (res_tmp rfl res_nil) rfl ?_
      refine Run.opG wantS_none (ex_geq rfl rfl) rfl ?_
      refine Run.opG wantS_none (ex_assign rfl) rfl ?_
      refine Run.opsEnd ?_
      refine Run.retTo Tryz.func84 rfl (res_tmp rfl res_nil) rfl ?_
      rcases btf (v7_f2) with hc30 | hc30
      · have h := bif_t hc30 h
        refine Run.opG (wantS_yes' rfl rfl hc30) (ex_not rfl) rfl ?_
        refine Run.opG wantS_none (ex_pickT' rfl hc30 rfl rfl) rfl ?_
        exact Run.pick [12] (bank_areData_2_ok F (!(decide ((0 : Int) ≤ ((-1) : Int)))) _ _ _ hH h)
      · have h := bif_f hc30 h
        refine Run.no (wantS_not' rfl rfl hc30) rfl ?_
        refine Run.opG wantS_none (ex_pickF' rfl hc30 rfl rfl) rfl ?_
        exact Run.pick [12] (bank_areData_2_ok F false _ _ _ hH h)

def bank_areData (F : Nat) (a0 : (List Int)) : Option (Bool) :=
  bif (decide ((a0.length : Int) ≤ (512 : Int))) then
    bank_areData_1 F F a0 (a0.length : Int) (0 : Int) (decide ((a0.length : Int) ≤ (512 : Int)))
  else
    bank_areData_2 F false

theorem bank_areData_ok (F : Nat) (a0 : (List Int)) (s0 : SV) (r : Bool) (M : Mem) (hs0 : Slc (rd M) 1 (FlatR enc3) s0 a0) (h : bank_areData F a0 = some r) : CallsM Tryz.prog 34 [s0] M (fun s M' => s = (.bool r) ∧ M' = M) := by
  refine CallsM.plain Tryz.func34 rfl rfl rfl (show Run _ _ _ (bank_areData_post r) _ _ _ from ?_)
  rw [bank_areData] at h
  replace hs0 := hs0.mono (rdLe_frozen M) (fun _ _ h => h)
  have hH := Has.nil (frozen M)
  refine Run.seq (Run.region ?_)
  refine Run.opG wantS_none (ex_assign rfl) rfl ?_
  refine Run.opsEnd (Run.seq (Run.region ?_))
  refine Run.opG wantS_none (ex_assign rfl) rfl ?_
  refine Run.opsEnd (Run.seq (Run.region ?_))
  refine Run.opG wantS_none (ex_move rfl) rfl ?_
  refine Run.opG wantS_none (ex_len' rfl hs0 lenk25) rfl ?_
  refine Run.opG wantS_none (ex_leq rfl rfl) rfl ?_
  refine Run.opG wantS_none (ex_move rfl) rfl ?_
  rcases btf ((decide ((a0.length : Int) ≤ (512 : Int)))) with hc21 | hc21
  · have h := bif_t hc21 h
    refine Run.opG (wantS_yes' rfl rfl hc21) (ex_move rfl) rfl ?_
    refine Run.opG (wantS_yes' rfl rfl hc21) (ex_move rfl) rfl ?_
    refine Run.enter (wantS_yes' rfl rfl hc21) (ex_call rfl mkk84 cal84) Tryz.func84 rfl rfl ?_
    refine Run.seq (Run.region ?_)
    refine Run.opG wantS_none (ex_assign rfl) rfl ?_
    refine Run.opsEnd (Run.seq (Run.region ?_))
    refine Run.opG wantS_none (ex_move rfl) rfl ?_
    refine Run.opG wantS_none (ex_move rfl) rfl ?_
    refine Run.enter wantS_none (ex_call rfl mkk129 cal129) Tryz.func129 rfl rfl ?_
    refine Run.seq (Run.region ?_)
    refine Run.opG wantS_none (ex_assign rfl) rfl ?_
    refine Run.opsEnd (Run.seq (Run.seq (Run.region ?_)))
    refine Run.opG wantS_none (ex_move rfl) rfl ?_
    refine Run.opG wantS_none (ex_len' rfl hs0 lenk25) rfl ?_
    refine Run.opG wantS_none (ex_move rfl) rfl ?_
    refine Run.opsEnd (Run.block (Run.loop ?_))
    exact Run.low (.cons (fle_pick [] rfl) (.cons (fle_pick [7] rfl) .nil)) (Run.pick [0, 1, 7, 8] (bank_areData_1_ok F F a0 (a0.length : Int) (0 : Int) (decide ((a0.length : Int) ≤ (512 : Int))) s0 _ _ _ hs0 hH h))
  · have h := bif_f hc21 h
    refine Run.no (wantS_not' rfl rfl hc21) rfl ?_
    refine Run.no (wantS_not' rfl rfl hc21) rfl ?_
    refine Run.no (wantS_not' rfl rfl hc21) rfl ?_
    refine Run.no (wantS_not' rfl rfl hc21) rfl ?_
    refine Run.opG wantS_none (ex_pickF' rfl hc21 rfl rfl) rfl ?_
    exact Run.pick [12] (bank_areData_2_ok F false _ _ _ hH h)

theorem mkk34 : makeK Tryz.prog 34 = none := by kernel_rfl
theorem cal34 : callable Tryz.prog 34 = true := by kernel_rfl
theorem zer25 : zerosOf Tryz.prog 25 = some [.nils] := by kernel_rfl
theorem mkk35 : makeK Tryz.prog 35 = none := by kernel_rfl
theorem cal35 : callable Tryz.prog 35 = true := by kernel_rfl
theorem cal85 : callable Tryz.prog 85 = true := by kernel_rfl
theorem agg72 : aggSize Tryz.prog 72 = some none := by kernel_rfl
abbrev bank_isTime_post (r : Bool) : SV → Mem → Prop := fun s _ => s = (.bool r)

def bank_isTime (F : Nat) (a0 : Int) (a1 : (List Int)) (a2 : Int) : Option (Bool) :=
  bnd (bank_isFrom F (0 : Int) a2 (w64 ((a1.length : Int) - a0))) fun r22 =>
  some r22

theorem bank_isTime_ok (F : Nat) (a0 : Int) (a1 : (List Int)) (a2 : Int) (s0 : SV) (r : Bool) (M : Mem) (hs0 : Slc (rd M) 1 (FlatR enc3) s0 a1) (h : bank_isTime F a0 a1 a2 = some r) : CallsM Tryz.prog 81 [(.int .i64 a0), s0, (.int .i64 a2)] M (fun s M' => s = (.bool r) ∧ M' = M) := by
  refine CallsM.plain Tryz.func81 rfl rfl rfl (show Run _ _ _ (bank_isTime_post r) _ _ _ from ?_)
  rw [bank_isTime] at h
  replace hs0 := hs0.mono (rdLe_frozen M) (fun _ _ h => h)
  have hH := Has.nil (frozen M)
  refine Run.seq (Run.region ?_)
  refine Run.opG wantS_none (ex_assign rfl) rfl ?_
  refine Run.opsEnd (Run.seq (Run.region ?_))
  refine Run.opG wantS_none (ex_move rfl) rfl ?_
  refine Run.opG wantS_none (ex_move rfl) rfl ?_
  refine Run.opG wantS_none (ex_len' rfl hs0 lenk25) rfl ?_
  refine Run.opG wantS_none (ex_move rfl) rfl ?_
  refine Run.opG wantS_none (ex_sub rfl rfl) rfl ?_
  obtain ⟨r22, hr22, h⟩ := bnd_some h
  refine Run.callP wantS_none (ex_call rfl mkk39 cal39) rfl (bank_isFrom_ok F (0 : Int) a2 (w64 ((a1.length : Int) - a0)) _ _ hr22) ?_
  refine Run.opG wantS_none (ex_assign rfl) rfl ?_
  refine Run.opsEnd ?_
  cases h
  exact Run.ret Tryz.func81 rfl (res_tmp rfl res_nil) rfl

theorem mkk81 : makeK Tryz.prog 81 = none := by kernel_rfl
theorem cal81 : callable Tryz.prog 81 = true := by kernel_rfl
abbrev bank_wave_samples_h1_post (e_v0 : (List Int)) (se_v0 : SV) (Fr0 : Rd) (Hr : List Ent) (r : (List Int)) : SV → Mem → Prop := fun s Me => ∃ q1, s = q1 ∧ ∃ F9 : Rd, RdLe Fr0 F9 ∧ Slc F9 1 (FlatR enc3) q1 r ∧ Has F9 Me (([] : List Ent) ++ Hr)

def bank_wave_samples_h1 (F : Nat) (e_v0 : (List Int)) : Option ((List Int)) :=
  bnd (e_v0[(64 : Nat)]?) fun x23 =>
  bnd (subP 64 0 x23) fun r24 =>
  bnd (parL e_v0 (0 + r24.1) r24.2) fun l24 =>
  some l24

theorem bank_wave_samples_h1_ok (F : Nat) : ∀ (e_v0 : (List Int)) (se_v0 : SV) (Fr0 : Rd) (Hr : List Ent) (M : Mem) (r : (List Int)) (he_v0 : RopTo Fr0 se_v0 (e_v0.flatMap enc3)) (hH : Has Fr0 M (([] : List Ent) ++ Hr)) (h : bank_wave_samples_h1 F e_v0 = some r), CallsM Tryz.prog 27 [se_v0] M (bank_wave_samples_h1_post e_v0 se_v0 Fr0 Hr r) := by
  intro e_v0 se_v0 Fr0 Hr M r he_v0 hH h
  refine CallsM.run Tryz.func27 rfl rfl (show Run _ _ _ (bank_wave_samples_h1_post e_v0 se_v0 Fr0 Hr r) _ _ _ from ?_)
  rw [bank_wave_samples_h1] at h
  refine Run.seq (Run.region ?_)
  refine Run.opG wantS_none (ex_assign rfl) rfl ?_
  refine Run.opsEnd (Run.seq ?_)
  refine Run.drawG plan27_1_0 ?_
  refine DrawG.fl rfl (ev_ex wantS_none (ex_move rfl)) rfl ?_
  obtain ⟨b21, hq21, hr21⟩ := rop_open he_v0
  refine DrawG.fl rfl (ev_ex wantS_none (ex_nilR rfl hq21)) rfl ?_
  refine DrawG.fl rfl (ev_ex wantS_none (ex_fieldAddr rfl off105_0)) rfl ?_
  refine DrawG.fl rfl (ev_ex wantS_none (ex_move rfl)) rfl ?_
  obtain ⟨b22, hq22, hr22⟩ := rop_open he_v0
  refine DrawG.fl rfl (ev_ex wantS_none (ex_nilR rfl hq22)) rfl ?_
  refine DrawG.fl rfl (ev_ex wantS_none (ex_fieldAddr rfl off105_1)) rfl ?_
  obtain ⟨x23, hx23, h⟩ := bnd_some h
  refine DrawG.fl rfl (ev_ex wantS_none (ex_load1 rfl (hH.ptrF (rop_at (enc := enc3) (a := x23) hr22 enc3_len hx23)) rdLe_rfl agg3)) rfl ?_
  obtain ⟨r24, hr24, h⟩ := bnd_some h
  obtain ⟨l24, hl24, h⟩ := bnd_some h
  obtain ⟨s24, hx24, hs24⟩ := rop_cutH (P := Tryz.prog) (t := 103) (off := 0) (k0 := .i64) hr21 enc3_len hr24 slk103 hl24
  refine DrawG.fl rfl (ev_ex wantS_none (ex_slX rfl (argO_none) (argO_some rfl) hx24)) rfl ?_
  refine DrawG.fl rfl (ev_ex wantS_none (ex_assign rfl)) rfl ?_
  refine DrawG.sync ?_
  refine DrawG.nil ?_
  cases h
  exact Run.ret Tryz.func27 rfl (res_tmp rfl res_nil) ⟨_, rfl, Fr0, (fun b c hb => hb), hs24, hH.pickT [] rfl rfl⟩

theorem plan86_1_0 : planOf Tryz.prog (opsC (atC Tryz.prog 86 [1, 0])) = some [.fl 0, .fl 2, .fl 3, .fl 4, .an 1 [4, 3, 2], .an 5 [], .fl 6, .sync] := by kernel_rfl
abbrev bank_output_post (r : Int) : SV → Mem → Prop := fun s _ => s = (.int .i64 r)

def bank_output (F : Nat) (a0 a1 : (List Int)) (a2 : Int) : Option (Int) :=
  bnd (sub a1 a2 (a1.length : Int)) fun l21 =>
  bnd (bank_wave_samples_h1 F a0) fun r22 =>
  bnd (bank_product F r22 l21) fun r24 =>
  some r24

theorem bank_output_ok (F : Nat) (a0 a1 : (List Int)) (a2 : Int) (s0 s1 : SV) (r : Int) (M : Mem) (hs0 : RopTo (rd M) s0 (a0.flatMap enc3)) (hs1 : Slc (rd M) 1 (FlatR enc3) s1 a1) (h : bank_output F a0 a1 a2 = some r) : CallsM Tryz.prog 86 [s0, s1, (.int .i64 a2)] M (fun s M' => s = (.int .i64 r) ∧ M' = M) := by
  refine CallsM.plain Tryz.func86 rfl rfl rfl (show Run _ _ _ (bank_output_post r) _ _ _ from ?_)
  rw [bank_output] at h
  replace hs0 := hs0.mono (rdLe_frozen M)
  replace hs1 := hs1.mono (rdLe_frozen M) (fun _ _ h => h)
  have hH := Has.nil (frozen M)
  refine Run.seq (Run.region ?_)
  refine Run.opG wantS_none (ex_assign rfl) rfl ?_
  refine Run.opsEnd (Run.seq ?_)
  refine Run.drawG plan86_1_0 ?_
  refine DrawG.fl rfl (ev_ex wantS_none (ex_move rfl)) rfl ?_
  refine DrawG.fl rfl (ev_ex wantS_none (ex_move rfl)) rfl ?_
  refine DrawG.fl rfl (ev_ex wantS_none (ex_move rfl)) rfl ?_
  obtain ⟨l21, hl21, h⟩ := bnd_some h
  obtain ⟨s21, hx21, hs21⟩ := sl_subL (P := Tryz.prog) (t := 25) (k0 := .i64) hs1 hl21 slk25
  refine DrawG.fl rfl (ev_ex wantS_none (ex_slX rfl (argO_some rfl) (argO_none) hx21)) rfl ?_
  obtain ⟨r22, hr22, h⟩ := bnd_some h
  refine DrawG.call rfl wantS_none (ex_call rfl mkk27 cal27) rfl (bank_wave_samples_h1_ok F a0 s0 (ro (frozen M)) [] _ _ hs0 hH hr22) ?_
  rintro s22_0 M23 ⟨_, rfl, F22, hle22, hq22_0, (hH23 : Has F22 M23 [])⟩
  replace hs0 := hs0.mono hle22
  replace hs1 := hs1.mono hle22 (fun _ _ h => h)
  replace hs21 := hs21.mono hle22 (fun _ _ h => h)
  refine ⟨(st_cons rfl (ev_ex wantS_none (ex_slX rfl (argO_some rfl) (argO_none) hx21)) rfl rfl (slc_self hs21) (st_cons rfl (ev_ex wantS_none (ex_move rfl)) rfl rfl rfl (st_cons rfl (ev_ex wantS_none (ex_move rfl)) rfl rfl (slc_self hs1) st_nil))), ?_⟩
  obtain ⟨r24, hr24, h⟩ := bnd_some h
  refine DrawG.callP rfl wantS_none (ex_call rfl mkk73 cal73) rfl (bank_product_ok F r22 l21 s22_0 s21 _ _ (hH23.slcF hq22_0) (hH23.slcF hs21) hr24) st_nil ?_
  refine DrawG.fl rfl (ev_ex wantS_none (ex_assign rfl)) rfl ?_
  refine DrawG.sync ?_
  refine DrawG.nil ?_
  cases h
  exact Run.ret Tryz.func86 rfl (res_tmp rfl res_nil) rfl

theorem mkk86 : makeK Tryz.prog 86 = none := by kernel_rfl
theorem cal86 : callable Tryz.prog 86 = true := by kernel_rfl
theorem sz25 : szOf Tryz.prog 25 = some 1 := by kernel_rfl
theorem plan85_1_0_0_0_0 : planOf Tryz.prog (opsC (atC Tryz.prog 85 [1, 0, 0, 0, 0])) = some [.fl 0, .fl 1, .fl 2, .fl 3, .fl 4, .fl 5, .an 6 [], .sync] := by kernel_rfl
abbrev bank_Filter_post (r : (List Int) × Int) : SV → Mem → Prop := fun s Me => ∃ q1, s = (.tuple [q1, (.int .i64 r.2)]) ∧ Has (fun _ => none) Me [.vec 3 1 r.1.length q1 (r.1.flatMap enc3)]

def bank_Filter_2 (F : Nat) : Nat → Int → Int → (List Int) → (List Int) → (List Int) → Option ((List Int) × Int)
  | 0, _, _, _, _, _ => none
  | N + 1, v4, v7_g70, c68_0, l72, l44 =>
    bnd (l44[(64 : Nat)]?) fun x74 =>
    bnd (bank_isTime F x74 c68_0 v4) fun r75 =>
    bif r75 then
      bnd (bank_output F l44 c68_0 v4) fun r79 =>
      bnd (apd 8 l72 ([r79] : List Int)) fun l87 =>
      (bank_Filter_2 F N) (w64 (v4 + (1 : Int))) v7_g70 c68_0 l87 l44
    else
      some (l72, (0 : Int))

theorem bank_Filter_2_ok (F : Nat) : ∀ (N : Nat), ∀ (v4 v7_g70 : Int) (c68_0 l72 l44 : (List Int)) (sc68_0 : SV) (b70 b38 : Pos) (s72 : SV) (b65 b44 b68 b71 : Pos) (Fr : Rd) (M : Mem) (r : (List Int) × Int) (hc68_0 : Slc Fr 1 (FlatR enc3) sc68_0 c68_0) (hH : Has Fr M [.obj b70 (.loop ⟨.ready, none, 11, 35, treeOf [(6, .nils), (7, (.int .i64 v7_g70)), (9, (.ptr b38 0)), (27, (.fn (.func 85) [] [(.ptr b65 0), (.ptr b68 0)]))], [28, 29], (atC Tryz.prog 11 [1, 1, 1, 0, 1, 0, 0]), (atC Tryz.prog 11 [1, 1, 1, 0, 1, 0, 1]), b71⟩), .obj b38 (.row 25 .whole [s72]), .vec 3 1 l72.length s72 (l72.flatMap enc3), .obj b65 (.row 72 .whole [(.ptr b44 0)]), .obj b44 (.row 105 .whole (l44.flatMap enc3)), .obj b68 (.row 25 .whole [sc68_0]), .obj b71 .defd, tb0]), bank_Filter_2 F N v4 v7_g70 c68_0 l72 l44 = some r → Run Tryz.prog ⟨⟨85, [], none⟩, [.mk ⟨11, [b71], none⟩ 35 (treeOf [(9, (.ptr b38 0))]) [.inRange b70, .inBlock 1, codeC Tryz.prog 11 [1, 1, 1, 1]]]⟩ 22 (bank_Filter_post r) [(0, (.yield b70)), (1, (.ptr b65 0)), (2, (.ptr b68 0)), (4, (.int .i64 v4))] [codeC Tryz.prog 85 [1, 0, 0], loopC Tryz.prog 85 [1, 0, 0], .inBlock 0] M := by
  intro N
  induction N with
  | zero =>
    intro v4 v7_g70 c68_0 l72 l44 sc68_0 b70 b38 s72 b65 b44 b68 b71 Fr M r hc68_0 hH h
    simp [bank_Filter_2] at h
  | succ N ih =>
    intro v4 v7_g70 c68_0 l72 l44 sc68_0 b70 b38 s72 b65 b44 b68 b71 Fr M r hc68_0 hH h
    rw [bank_Filter_2] at h
    refine Run.seq (Run.seq ?_)
    refine Run.drawG plan85_1_0_0_0_0 ?_
    refine DrawG.fl rfl (ev_ex wantS_none (ex_load1 rfl (hH.cells (i := 3) rfl 0 rfl) rdLe_rfl agg72)) rfl ?_
    refine DrawG.fl rfl (ev_ex wantS_none (ex_nilP rfl)) rfl ?_
    refine DrawG.fl rfl (ev_ex wantS_none (ex_fieldAddr rfl off105_1)) rfl ?_
    obtain ⟨x74, hx74, h⟩ := bnd_some h
    refine DrawG.fl rfl (ev_ex wantS_none (ex_load1 rfl (hH.arrAt (enc := enc3) (a := x74) (i := 4) rfl hx74 enc3_len) rdLe_rfl agg3)) rfl ?_
    refine DrawG.fl rfl (ev_ex wantS_none (ex_load1 rfl (hH.cells (i := 5) rfl 0 rfl) rdLe_rfl agg25)) rfl ?_
    refine DrawG.fl rfl (ev_ex wantS_none (ex_move rfl)) rfl ?_
    obtain ⟨r75, hr75, h⟩ := bnd_some h
    refine DrawG.callP rfl wantS_none (ex_call rfl mkk81 cal81) rfl (bank_isTime_ok F x74 c68_0 v4 sc68_0 _ _ (hH.slcF hc68_0) hr75) st_nil ?_
    refine DrawG.sync ?_
    refine DrawG.nil ?_
    rcases btf (r75) with hc77 | hc77
    · have h := bif_t hc77 h
      refine Run.condT' rfl hc77 ?_
      refine Run.skip (Run.seq (Run.block (Run.seq (Run.region ?_))))
      refine Run.opG wantS_none (ex_move rfl) rfl ?_
      refine Run.opG wantS_none (ex_move rfl) rfl ?_
      refine Run.opG wantS_none (ex_load1 rfl (hH.cells (i := 3) rfl 0 rfl) rdLe_rfl agg72) rfl ?_
      refine Run.opG wantS_none (ex_load1 rfl (hH.cells (i := 5) rfl 0 rfl) rdLe_rfl agg25) rfl ?_
      refine Run.opG wantS_none (ex_move rfl) rfl ?_
      obtain ⟨r79, hr79, h⟩ := bnd_some h
      refine Run.callP wantS_none (ex_call rfl mkk86 cal86) rfl (bank_output_ok F l44 c68_0 v4 (.ptr b44 0) sc68_0 _ _ (hH.ropO (i := 4) rfl) (hH.slcF hc68_0) hr79) ?_
      refine Run.round (e' := [(29, (.int .i64 r79)), (28, (.int .i64 v4)), (6, .nils), (7, (.int .i64 v7_g70)), (9, (.ptr b38 0)), (27, (.fn (.func 85) [] [(.ptr b65 0), (.ptr b68 0)]))]) wantS_none (ex_yield hH (i := 0) rfl rfl rfl rfl) (hH.loopOf (i := 0) rfl) rfl ?_
      refine Run.region ?_
      refine Run.opG wantS_none (ex_assign rfl) rfl ?_
      refine Run.opsEnd ?_
      refine Run.beginX hH (i := 0) rfl rfl ?_
      intro M81 (hH81 : Has Fr M81 [.obj b70 (.loop ⟨.busy, none, 11, 35, treeOf [(6, .nils), (7, (.int .i64 v7_g70)), (9, (.ptr b38 0)), (27, (.fn (.func 85) [] [(.ptr b65 0), (.ptr b68 0)]))], [28, 29], (atC Tryz.prog 11 [1, 1, 1, 0, 1, 0, 0]), (atC Tryz.prog 11 [1, 1, 1, 0, 1, 0, 1]), b71⟩), .obj b38 (.row 25 .whole [s72]), .vec 3 1 l72.length s72 (l72.flatMap enc3), .obj b65 (.row 72 .whole [(.ptr b44 0)]), .obj b44 (.row 105 .whole (l44.flatMap enc3)), .obj b68 (.row 25 .whole [sc68_0]), .obj b71 .defd, tb0])
      refine Run.block (Run.region ?_)
      refine Run.opG wantS_none (ex_load1 rfl (hH81.cells (i := 1) rfl 0 rfl) rdLe_rfl agg25) rfl ?_
      refine Run.opG wantS_none (ex_move rfl) rfl ?_
      refine Run.opX wantS_none rfl (ExG.built (enc := enc3) (l := ([r79] : List Int)) (z := 1) rfl elt25 rfl rfl rfl enc3_len hH81) ?_
      rintro s83 M84 (hH84 : Has Fr M84 [.vec 3 1 ([r79] : List Int).length s83 (([r79] : List Int).flatMap enc3), .obj b70 (.loop ⟨.busy, none, 11, 35, treeOf [(6, .nils), (7, (.int .i64 v7_g70)), (9, (.ptr b38 0)), (27, (.fn (.func 85) [] [(.ptr b65 0), (.ptr b68 0)]))], [28, 29], (atC Tryz.prog 11 [1, 1, 1, 0, 1, 0, 0]), (atC Tryz.prog 11 [1, 1, 1, 0, 1, 0, 1]), b71⟩), .obj b38 (.row 25 .whole [s72]), .vec 3 1 l72.length s72 (l72.flatMap enc3), .obj b65 (.row 72 .whole [(.ptr b44 0)]), .obj b44 (.row 105 .whole (l44.flatMap enc3)), .obj b68 (.row 25 .whole [sc68_0]), .obj b71 .defd, tb0])
      obtain ⟨l87, hl87, h⟩ := bnd_some h
      refine Run.opX wantS_none rfl (ExG.append rfl rfl hH84 (i := 3) rfl enc3_len rfl enc3_ones appt25_25 rfl (len_slc (hH84.slc (i := 0) rfl enc3_len)) (first_slc (hH84.slc (i := 0) rfl enc3_len) (rdLe_rdRow _) enc3_len) hl87) ?_
      rintro s87 M89 (hH89 : Has Fr M89 [.vec 3 1 ([r79] : List Int).length s83 (([r79] : List Int).flatMap enc3), .obj b70 (.loop ⟨.busy, none, 11, 35, treeOf [(6, .nils), (7, (.int .i64 v7_g70)), (9, (.ptr b38 0)), (27, (.fn (.func 85) [] [(.ptr b65 0), (.ptr b68 0)]))], [28, 29], (atC Tryz.prog 11 [1, 1, 1, 0, 1, 0, 0]), (atC Tryz.prog 11 [1, 1, 1, 0, 1, 0, 1]), b71⟩), .obj b38 (.row 25 .whole [s72]), .vec 3 1 l87.length s87 (l87.flatMap enc3), .obj b65 (.row 72 .whole [(.ptr b44 0)]), .obj b44 (.row 105 .whole (l44.flatMap enc3)), .obj b68 (.row 25 .whole [sc68_0]), .obj b71 .defd, tb0])
      refine Run.opX wantS_none rfl (ExG.storeC (c' := [s87]) rfl rfl (cells_one (vec_one hH89 (i := 3) rfl)) hH89 (i := 2) rfl sz25 rfl rfl rfl (ones_cons (vec_one hH89 (i := 3) rfl) ones_nil) rfl) ?_
      rintro _ M90 ⟨rfl, (hH90 : Has Fr M90 [.vec 3 1 ([r79] : List Int).length s83 (([r79] : List Int).flatMap enc3), .obj b70 (.loop ⟨.busy, none, 11, 35, treeOf [(6, .nils), (7, (.int .i64 v7_g70)), (9, (.ptr b38 0)), (27, (.fn (.func 85) [] [(.ptr b65 0), (.ptr b68 0)]))], [28, 29], (atC Tryz.prog 11 [1, 1, 1, 0, 1, 0, 0]), (atC Tryz.prog 11 [1, 1, 1, 0, 1, 0, 1]), b71⟩), .obj b38 (.row 25 .whole [s87]), .vec 3 1 l87.length s87 (l87.flatMap enc3), .obj b65 (.row 72 .whole [(.ptr b44 0)]), .obj b44 (.row 105 .whole (l44.flatMap enc3)), .obj b68 (.row 25 .whole [sc68_0]), .obj b71 .defd, tb0])⟩
      refine Run.opsEnd (Run.inBlock ?_)
      refine Run.roundEndX hH90 (i := 1) rfl rfl ?_
      intro M91 (hH91 : Has Fr M91 [.vec 3 1 ([r79] : List Int).length s83 (([r79] : List Int).flatMap enc3), .obj b70 (.loop ⟨.ready, none, 11, 35, treeOf [(6, .nils), (7, (.int .i64 v7_g70)), (9, (.ptr b38 0)), (27, (.fn (.func 85) [] [(.ptr b65 0), (.ptr b68 0)]))], [28, 29], (atC Tryz.prog 11 [1, 1, 1, 0, 1, 0, 0]), (atC Tryz.prog 11 [1, 1, 1, 0, 1, 0, 1]), b71⟩), .obj b38 (.row 25 .whole [s87]), .vec 3 1 l87.length s87 (l87.flatMap enc3), .obj b65 (.row 72 .whole [(.ptr b44 0)]), .obj b44 (.row 105 .whole (l44.flatMap enc3)), .obj b68 (.row 25 .whole [sc68_0]), .obj b71 .defd, tb0])
      refine Run.opG wantS_none (ex_not rfl) rfl ?_
      refine Run.opsEnd ?_
      refine Run.condF' rfl (bnot_f rfl) ?_
      refine Run.skip (Run.inBlock (Run.region ?_))
      refine Run.opG wantS_none (ex_move rfl) rfl ?_
      refine Run.opG wantS_none (ex_add rfl rfl) rfl ?_
      refine Run.opG wantS_none (ex_assign rfl) rfl ?_
      refine Run.opsEnd (Run.inLoop ?_)
      exact Run.low (.cons (fle_pick [9] rfl) .nil) (Run.pick [0, 1, 2, 4] (ih (w64 (v4 + (1 : Int))) v7_g70 c68_0 l87 l44 sc68_0 b70 b38 s87 b65 b44 b68 b71 _ _ _ hc68_0 (hH91.pick [1, 2, 3, 4, 5, 6, 7, 8] rfl rfl) h))
    · have h := bif_f hc77 h
      refine Run.condF' rfl hc77 ?_
      refine Run.exit rfl ?_
      refine Run.fallRange Tryz.func85 rfl res_nil ?_
      refine Run.endX hH (i := 0) rfl (fun hc => by cases hc) ?_
      intro M92 (hH92 : Has Fr M92 [.obj b70 (.loop ⟨.exhausted, none, 11, 35, treeOf [(6, .nils), (7, (.int .i64 v7_g70)), (9, (.ptr b38 0)), (27, (.fn (.func 85) [] [(.ptr b65 0), (.ptr b68 0)]))], [28, 29], (atC Tryz.prog 11 [1, 1, 1, 0, 1, 0, 0]), (atC Tryz.prog 11 [1, 1, 1, 0, 1, 0, 1]), b71⟩), .obj b38 (.row 25 .whole [s72]), .vec 3 1 l72.length s72 (l72.flatMap enc3), .obj b65 (.row 72 .whole [(.ptr b44 0)]), .obj b44 (.row 105 .whole (l44.flatMap enc3)), .obj b68 (.row 25 .whole [sc68_0]), .obj b71 .defd, tb0])
      refine Run.inBlock (Run.seq (Run.region ?_))
      refine Run.opG wantS_none (ex_load1 rfl (hH92.cells (i := 1) rfl 0 rfl) rdLe_rfl agg25) rfl ?_
      refine Run.opG wantS_none (ex_assign rfl) rfl ?_
      refine Run.opG wantS_none (ex_assign rfl) rfl ?_
      refine Run.opsEnd ?_
      obtain ⟨hH93x, hS93⟩ := hH92.shut (i := 6) (ds := []) rfl
      have hH93 : Has Fr (setT M92 b71 none) [.obj b70 (.loop ⟨.exhausted, none, 11, 35, treeOf [(6, .nils), (7, (.int .i64 v7_g70)), (9, (.ptr b38 0)), (27, (.fn (.func 85) [] [(.ptr b65 0), (.ptr b68 0)]))], [28, 29], (atC Tryz.prog 11 [1, 1, 1, 0, 1, 0, 0]), (atC Tryz.prog 11 [1, 1, 1, 0, 1, 0, 1]), b71⟩), .obj b38 (.row 25 .whole [s72]), .vec 3 1 l72.length s72 (l72.flatMap enc3), .obj b65 (.row 72 .whole [(.ptr b44 0)]), .obj b44 (.row 105 .whole (l44.flatMap enc3)), .obj b68 (.row 25 .whole [sc68_0]), .vec 0 0 0 .nils [], tb0] := hH93x
      cases h
      exact Run.ret Tryz.func11 (hS93 _ rfl) (res_tmp rfl (res_tmp rfl res_nil)) ⟨_, rfl, (hH93.pick [2] rfl rfl).upF (none_le _)⟩

def bank_Filter_1 (F : Nat) : Nat → Int → Int → (List Int) → Int → S_api_Chirp → (List Int) → Option ((List Int) × Int)
  | 0, _, _, _, _, _, _ => none
  | N + 1, v10, v11, v2_f1, v7_f1, c41, l44 =>
    bif (decide (v11 < v10)) then
      bnd (bank_table F (Int.tmod (w64 ((w64 (c41.P * v11)) + (w64 ((w64 (c41.Q * v11)) * v11)))) (64 : Int))) fun r47 =>
      bnd (inA v11 64) fun o49 =>
      bnd (upd l44 (((0 + o49 * 1) : Nat) : Int) r47) fun l50 =>
      (bank_Filter_1 F N) v10 (w64 (v11 + (1 : Int))) v2_f1 v7_f1 c41 l50
    else
      bnd (bank_wave_samples F l44) fun l53 =>
      bnd (bank_wave_samples F l44) fun l56 =>
      bnd (bank_product F l53 l56) fun r59 =>
      bnd (upd l44 ((65 : Nat) : Int) r59) fun l62 =>
      bank_Filter_2 F F (0 : Int) v7_f1 v2_f1 ([] : List Int) l62

theorem bank_Filter_1_ok (F : Nat) : ∀ (N : Nat), ∀ (v10 v11 : Int) (v2_f1 : (List Int)) (v7_f1 : Int) (c41 : S_api_Chirp) (l44 : (List Int)) (sv2_f1 : SV) (b41 b44 b38 : Pos) (Fr : Rd) (M : Mem) (r : (List Int) × Int) (hv2_f1 : Slc Fr 1 (FlatR enc3) sv2_f1 v2_f1) (hH : Has Fr M [.obj b41 (.row 27 .whole [(.int .i64 c41.P), (.int .i64 c41.Q)]), .obj b44 (.row 105 .whole (l44.flatMap enc3)), .obj b38 (.row 25 .whole [.nils]), tb0]), bank_Filter_1 F N v10 v11 v2_f1 v7_f1 c41 l44 = some r → Run Tryz.prog ⟨⟨26, [], none⟩, [.mk ⟨11, [], none⟩ 35 (treeOf [(2, sv2_f1), (6, .nils), (7, (.int .i64 v7_f1)), (9, (.ptr b38 0))]) [itemC Tryz.prog 11 [1, 1, 1, 0, 0] 2, codeC Tryz.prog 11 [1, 1, 1, 0, 1], codeC Tryz.prog 11 [1, 1, 1, 1]]]⟩ 42 (bank_Filter_post r) [(3, (.ptr b41 0)), (5, (.ptr b44 0)), (10, (.int .i64 v10)), (11, (.int .i64 v11))] [codeC Tryz.prog 26 [1, 1, 0, 1, 0, 0], loopC Tryz.prog 26 [1, 1, 0, 1, 0, 0], .inBlock 0, codeC Tryz.prog 26 [1, 1, 1]] M := by
  intro N
  induction N with
  | zero =>
    intro v10 v11 v2_f1 v7_f1 c41 l44 sv2_f1 b41 b44 b38 Fr M r hv2_f1 hH h
    simp [bank_Filter_1] at h
  | succ N ih =>
    intro v10 v11 v2_f1 v7_f1 c41 l44 sv2_f1 b41 b44 b38 Fr M r hv2_f1 hH h
    rw [bank_Filter_1] at h
    refine Run.seq (Run.region ?_)
    refine Run.opG wantS_none (ex_lss rfl rfl) rfl ?_
    refine Run.opsEnd (Run.seq ?_)
    rcases btf ((decide (v11 < v10))) with hc46 | hc46
    · have h := bif_t hc46 h
      refine Run.condT' rfl hc46 ?_
      refine Run.skip (Run.seq (Run.block (Run.seq (Run.region ?_))))
      refine Run.opG wantS_none (ex_move rfl) rfl ?_
      refine Run.opG wantS_none (ex_assign rfl) rfl ?_
      refine Run.opsEnd ?_
      refine Run.drawG plan26_1_1_0_1_0_0_1_1_0_0_1 ?_
      refine DrawG.fl rfl (ev_ex wantS_none (ex_move rfl)) rfl ?_
      refine DrawG.fl rfl (ev_ex wantS_none (ex_move rfl)) rfl ?_
      refine DrawG.fl rfl (ev_ex wantS_none (ex_fieldAddr rfl off27_0)) rfl ?_
      refine DrawG.fl rfl (ev_ex wantS_none (ex_load1 rfl (hH.cells (i := 0) rfl 0 rfl) rdLe_rfl agg3)) rfl ?_
      refine DrawG.fl rfl (ev_ex wantS_none (ex_move rfl)) rfl ?_
      refine DrawG.fl rfl (ev_ex wantS_none (ex_mul rfl rfl)) rfl ?_
      refine DrawG.fl rfl (ev_ex wantS_none (ex_fieldAddr rfl off27_1)) rfl ?_
      refine DrawG.fl rfl (ev_ex wantS_none (ex_load1 rfl (hH.cells (i := 0) rfl 1 rfl) rdLe_rfl agg3)) rfl ?_
      refine DrawG.fl rfl (ev_ex wantS_none (ex_move rfl)) rfl ?_
      refine DrawG.fl rfl (ev_ex wantS_none (ex_mul rfl rfl)) rfl ?_
      refine DrawG.fl rfl (ev_ex wantS_none (ex_move rfl)) rfl ?_
      refine DrawG.fl rfl (ev_ex wantS_none (ex_mul rfl rfl)) rfl ?_
      refine DrawG.fl rfl (ev_ex wantS_none (ex_add rfl rfl)) rfl ?_
      refine DrawG.fl rfl (ev_ex wantS_none (ex_rem rfl rfl (by decide))) rfl ?_
      refine DrawG.fl rfl (ev_ex wantS_none (ex_nilP rfl)) rfl ?_
      refine DrawG.fl rfl (ev_ex wantS_none (ex_fieldAddr rfl off105_0)) rfl ?_
      obtain ⟨r47, hr47, h⟩ := bnd_some h
      refine DrawG.callP rfl wantS_none (ex_call rfl mkk72 cal72) rfl (bank_table_ok F (Int.tmod (w64 ((w64 (c41.P * v11)) + (w64 ((w64 (c41.Q * v11)) * v11)))) (64 : Int)) _ _ (fixH hH (List.mem_of_getElem? (i := 3) rfl)) hr47) (st_cons rfl (ev_ex wantS_none (ex_fieldAddr rfl off105_0)) rfl rfl rfl (st_cons rfl (ev_ex wantS_none (ex_nilP rfl)) rfl rfl rfl (st_cons rfl (ev_ex wantS_none (ex_move rfl)) rfl rfl rfl (st_cons rfl (ev_ex wantS_none (ex_move rfl)) rfl rfl rfl st_nil)))) ?_
      obtain ⟨o49, ho49, h⟩ := bnd_some h
      refine DrawG.fl rfl (ev_ex wantS_none (ex_elX rfl rfl (arr_place (inA_natIn ho49) els103))) rfl ?_
      obtain ⟨l50, hl50, h⟩ := bnd_some h
      refine DrawG.opX rfl wantS_none rfl (ExG.storeA rfl rfl hH (i := 1) rfl hl50 sz3 rfl enc3_len enc3_ones) ?_
      rintro _ M51 ⟨rfl, (hH51 : Has Fr M51 [.obj b41 (.row 27 .whole [(.int .i64 c41.P), (.int .i64 c41.Q)]), .obj b44 (.row 105 .whole (l50.flatMap enc3)), .obj b38 (.row 25 .whole [.nils]), tb0])⟩
      refine ⟨st_nil, ?_⟩
      refine DrawG.sync ?_
      refine DrawG.nil ?_
      refine Run.inBlock (Run.region ?_)
      refine Run.opG wantS_none (ex_add rfl rfl) rfl ?_
      refine Run.opG wantS_none (ex_move rfl) rfl ?_
      refine Run.opsEnd (Run.inLoop ?_)
      exact Run.low (.cons (fle_pick [2, 6, 7, 9] rfl) .nil) (Run.pick [3, 5, 10, 11] (ih v10 (w64 (v11 + (1 : Int))) v2_f1 v7_f1 c41 l50 sv2_f1 b41 b44 b38 _ _ _ hv2_f1 hH51 h))
    · have h := bif_f hc46 h
      refine Run.condF' rfl hc46 ?_
      refine Run.exit rfl (Run.seq (Run.region ?_))
      refine Run.opG wantS_none (ex_move rfl) rfl ?_
      refine Run.opG wantS_none (ex_move rfl) rfl ?_
      obtain ⟨l53, hl53, h⟩ := bnd_some h
      have hs53 := bank_wave_samples_slc F hH (i := 1) rfl hl53
      refine Run.callP wantS_none (ex_call rfl mkk27 cal27) rfl (bank_wave_samples_ok F hH (i := 1) rfl hl53) ?_
      refine Run.opG wantS_none (ex_move rfl) rfl ?_
      obtain ⟨l56, hl56, h⟩ := bnd_some h
      have hs56 := bank_wave_samples_slc F hH (i := 1) rfl hl56
      refine Run.callP wantS_none (ex_call rfl mkk27 cal27) rfl (bank_wave_samples_ok F hH (i := 1) rfl hl56) ?_
      obtain ⟨r59, hr59, h⟩ := bnd_some h
      refine Run.callP wantS_none (ex_call rfl mkk73 cal73) rfl (bank_product_ok F l53 l56 (.slice b44 0 l53.length 64) (.slice b44 0 l56.length 64) _ _ hs53 hs56 hr59) ?_
      refine Run.opG wantS_none (ex_nilP rfl) rfl ?_
      refine Run.opG wantS_none (ex_fieldAddr rfl off105_2) rfl ?_
      obtain ⟨l62, hl62, h⟩ := bnd_some h
      refine Run.opX wantS_none rfl (ExG.storeA rfl rfl hH (i := 1) rfl hl62 sz3 rfl enc3_len enc3_ones) ?_
      rintro _ M63 ⟨rfl, (hH63 : Has Fr M63 [.obj b41 (.row 27 .whole [(.int .i64 c41.P), (.int .i64 c41.Q)]), .obj b44 (.row 105 .whole (l62.flatMap enc3)), .obj b38 (.row 25 .whole [.nils]), tb0])⟩
      refine Run.opsEnd (Run.seq (Run.region ?_))
      refine Run.opG wantS_none (ex_move rfl) rfl ?_
      refine Run.opG wantS_none (ex_assign rfl) rfl ?_
      refine Run.opsEnd ?_
      refine Run.retTo Tryz.func26 rfl (res_tmp rfl res_nil) rfl ?_
      refine Run.opG wantS_none (ex_move rfl) rfl ?_
      refine Run.enter wantS_none (ex_call rfl mkk35 cal35) Tryz.func35 rfl rfl ?_
      refine Run.seq (Run.region ?_)
      refine Run.opX wantS_none rfl (ExG.box rfl rfl hH63) ?_
      rintro _ M66 ⟨b65, rfl, hH66⟩
      refine Run.opX wantS_none rfl (ExG.box rfl (cells_one (slc_one hv2_f1)) hH66) ?_
      rintro _ M69 ⟨b68, rfl, hH69⟩
      refine Run.opG wantS_none (ex_assign rfl) rfl ?_
      refine Run.opsEnd (Run.seq (Run.region ?_))
      refine Run.opG wantS_none (ex_makeFunc rfl rfl) rfl ?_
      refine Run.opG wantS_none (ex_assign rfl) rfl ?_
      refine Run.opsEnd ?_
      refine Run.retTo Tryz.func35 rfl (res_tmp rfl res_nil) rfl ?_
      refine Run.opsEnd (Run.block ?_)
      refine Run.pick [6, 7, 9, 27] ?_
      refine Run.rangeX rfl cal85 Tryz.func85 rfl rfl hH69 ?_
      intro b71 b70 M70 (hH70 : Has Fr M70 [.obj b70 (.loop ⟨.ready, none, 11, 35, treeOf [(6, .nils), (7, (.int .i64 v7_f1)), (9, (.ptr b38 0)), (27, (.fn (.func 85) [] [(.ptr b65 0), (.ptr b68 0)]))], [28, 29], (atC Tryz.prog 11 [1, 1, 1, 0, 1, 0, 0]), (atC Tryz.prog 11 [1, 1, 1, 0, 1, 0, 1]), b71⟩), .obj b71 .defd, .obj b68 (.row 25 .whole [sv2_f1]), .obj b65 (.row 72 .whole [(.ptr b44 0)]), .obj b41 (.row 27 .whole [(.int .i64 c41.P), (.int .i64 c41.Q)]), .obj b44 (.row 105 .whole (l62.flatMap enc3)), .obj b38 (.row 25 .whole [.nils]), tb0])
      refine Run.seq (Run.region ?_)
      refine Run.opG wantS_none (ex_assign rfl) rfl ?_
      refine Run.opsEnd (Run.block (Run.loop ?_))
      have hH73 : Has Fr M70 [.vec 3 1 ([] : List Int).length .nils (([] : List Int).flatMap enc3), .obj b70 (.loop ⟨.ready, none, 11, 35, treeOf [(6, .nils), (7, (.int .i64 v7_f1)), (9, (.ptr b38 0)), (27, (.fn (.func 85) [] [(.ptr b65 0), (.ptr b68 0)]))], [28, 29], (atC Tryz.prog 11 [1, 1, 1, 0, 1, 0, 0]), (atC Tryz.prog 11 [1, 1, 1, 0, 1, 0, 1]), b71⟩), .obj b71 .defd, .obj b68 (.row 25 .whole [sv2_f1]), .obj b65 (.row 72 .whole [(.ptr b44 0)]), .obj b41 (.row 27 .whole [(.int .i64 c41.P), (.int .i64 c41.Q)]), .obj b44 (.row 105 .whole (l62.flatMap enc3)), .obj b38 (.row 25 .whole [.nils]), tb0] := hH70.nils 3 1
      exact Run.low (.cons (fle_pick [9] rfl) .nil) (Run.pick [0, 1, 2, 4] (bank_Filter_2_ok F F (0 : Int) v7_f1 v2_f1 ([] : List Int) l62 sv2_f1 b70 b38 .nils b65 b44 b68 b71 _ _ _ hv2_f1 (hH73.pick [1, 7, 0, 4, 6, 3, 2, 8] rfl rfl) h))

def bank_Filter (F : Nat) (a0 : Int) (a1 : S_api_Chirp) (a2 : (List Int)) : Option ((List Int) × Int) :=
  bnd (bank_CheckChirp F a0 a1) fun r26 =>
  bif (!(r26 == (0 : Int))) then
    some (([] : List Int), r26)
  else
    bnd (bank_areData F a2) fun r32 =>
    bif (!r32) then
      some (([] : List Int), (73 : Int))
    else
      bank_Filter_1 F F a0 (0 : Int) a2 (0 : Int) a1 ([0, 0, 0, 0, 0, 0, 0, 0, 0, 0, 0, 0, 0, 0, 0, 0, 0, 0, 0, 0, 0, 0, 0, 0, 0, 0, 0, 0, 0, 0, 0, 0, 0, 0, 0, 0, 0, 0, 0, 0, 0, 0, 0, 0, 0, 0, 0, 0, 0, 0, 0, 0, 0, 0, 0, 0, 0, 0, 0, 0, 0, 0, 0, 0, a0, 0] : List Int)

theorem bank_Filter_ok (F : Nat) (a0 : Int) (a1 : S_api_Chirp) (a2 : (List Int)) (s0 : SV) (r : (List Int) × Int) (M : Mem) (hs0 : Slc (rd M) 1 (FlatR enc3) s0 a2) (hfx : FixIn M fixes) (h : bank_Filter F a0 a1 a2 = some r) : CallsM Tryz.prog 11 [(.int .i64 a0), (.agg [(.int .i64 a1.P), (.int .i64 a1.Q)]), s0] M (fun s M' => ∃ q1, s = (.tuple [q1, (.int .i64 r.2)]) ∧ New M M' [.vec 3 1 r.1.length q1 (r.1.flatMap enc3)]) := by
  refine CallsM.fresh (Q := bank_Filter_post r) Tryz.func11 rfl rfl ?_ (by rintro s Me ⟨q1, rfl, hx⟩ ha hw; exact ⟨_, rfl, New.of rfl hx ha hw⟩)
  rw [bank_Filter] at h
  replace hs0 := hs0.mono (rdLe_frozen M) (fun _ _ h => h)
  have hH : Has (ro (frozen M)) (frozen M) [tb0] := Has.ofFix hfx.frozen
  refine Run.seq (Run.region ?_)
  refine Run.opX wantS_none rfl (ExG.box rfl rfl hH) ?_
  rintro _ M24 ⟨b23, rfl, hH24⟩
  refine Run.opG wantS_none (ex_assign rfl) rfl ?_
  refine Run.opG wantS_none (ex_assign rfl) rfl ?_
  refine Run.opsEnd (Run.seq (Run.seq (Run.region ?_)))
  refine Run.opG wantS_none (ex_move rfl) rfl ?_
  refine Run.opG wantS_none (ex_loadA rfl (hH24.cells (i := 0) rfl 0 rfl) rdLe_rfl agg27 rfl rfl rfl) rfl ?_
  obtain ⟨r26, hr26, h⟩ := bnd_some h
  refine Run.callP wantS_none (ex_call rfl mkk25 cal25) rfl (bank_CheckChirp_ok F a0 a1 _ _ hr26) ?_
  refine Run.opG wantS_none (ex_assign rfl) rfl ?_
  refine Run.opsEnd (Run.block (Run.seq (Run.region ?_)))
  refine Run.opG wantS_none (ex_move rfl) rfl ?_
  refine Run.opG wantS_none (ex_neq rfl rfl) rfl ?_
  refine Run.opG wantS_none (ex_assign rfl) rfl ?_
  refine Run.opsEnd ?_
  rcases btf ((!(r26 == (0 : Int)))) with hc28 | hc28
  · have h := bif_t hc28 h
    refine Run.condT' rfl hc28 ?_
    refine Run.seq (Run.region ?_)
    refine Run.opG wantS_none (ex_move rfl) rfl ?_
    refine Run.opG wantS_none (ex_assign rfl) rfl ?_
    refine Run.opG wantS_none (ex_assign rfl) rfl ?_
    refine Run.opsEnd ?_
    have hH30 : Has (ro (frozen M)) M24 [.vec 3 1 ([] : List Int).length .nils (([] : List Int).flatMap enc3), .obj b23 (.row 27 .whole [(.int .i64 a1.P), (.int .i64 a1.Q)]), tb0] := hH24.nils 3 1
    cases h
    exact Run.ret Tryz.func11 rfl (res_tmp rfl (res_tmp rfl res_nil)) ⟨_, rfl, (hH30.pick [0] rfl rfl).upF (none_le _)⟩
  · have h := bif_f hc28 h
    refine Run.condF' rfl hc28 ?_
    refine Run.seq (Run.region ?_)
    refine Run.opG wantS_none (ex_move rfl) rfl ?_
    obtain ⟨r32, hr32, h⟩ := bnd_some h
    refine Run.callP wantS_none (ex_call rfl mkk34 cal34) rfl (bank_areData_ok F a2 s0 _ _ (hH24.slcF hs0) hr32) ?_
    refine Run.opG wantS_none (ex_not rfl) rfl ?_
    refine Run.opG wantS_none (ex_assign rfl) rfl ?_
    refine Run.opsEnd ?_
    rcases btf ((!r32)) with hc34 | hc34
    · have h := bif_t hc34 h
      refine Run.condT' rfl hc34 ?_
      refine Run.seq (Run.region ?_)
      refine Run.opG wantS_none (ex_assign rfl) rfl ?_
      refine Run.opG wantS_none (ex_assign rfl) rfl ?_
      refine Run.opsEnd ?_
      have hH36 : Has (ro (frozen M)) M24 [.vec 3 1 ([] : List Int).length .nils (([] : List Int).flatMap enc3), .obj b23 (.row 27 .whole [(.int .i64 a1.P), (.int .i64 a1.Q)]), tb0] := hH24.nils 3 1
      cases h
      exact Run.ret Tryz.func11 rfl (res_tmp rfl (res_tmp rfl res_nil)) ⟨_, rfl, (hH36.pick [0] rfl rfl).upF (none_le _)⟩
    · have h := bif_f hc34 h
      refine Run.condF' rfl hc34 ?_
      refine Run.skip (Run.inBlock (Run.seq (Run.region ?_)))
      refine Run.opX wantS_none rfl (ExG.new (v := fun b => .ptr b 0) (ex_alloc zer25) hH24) ?_
      rintro _ M39 ⟨b38, rfl, hH39⟩
      refine Run.opsEnd (Run.seq (Run.seq (Run.region ?_)))
      refine Run.opG wantS_none (ex_move rfl) rfl ?_
      refine Run.opG wantS_none (ex_loadA rfl (hH39.cells (i := 1) rfl 0 rfl) rdLe_rfl agg27 rfl rfl rfl) rfl ?_
      refine Run.enter wantS_none (ex_call rfl mkk26 cal26) Tryz.func26 rfl rfl ?_
      refine Run.seq (Run.region ?_)
      refine Run.opX wantS_none rfl (ExG.box rfl rfl hH39) ?_
      rintro _ M42 ⟨b41, rfl, hH42⟩
      refine Run.opG wantS_none (ex_assign rfl) rfl ?_
      refine Run.opsEnd (Run.seq (Run.region ?_))
      refine Run.opG wantS_none (ex_move rfl) rfl ?_
      refine Run.opG wantS_none (ex_build (r := [(.int .i64 0), (.int .i64 0), (.int .i64 0), (.int .i64 0), (.int .i64 0), (.int .i64 0), (.int .i64 0), (.int .i64 0), (.int .i64 0), (.int .i64 0), (.int .i64 0), (.int .i64 0), (.int .i64 0), (.int .i64 0), (.int .i64 0), (.int .i64 0), (.int .i64 0), (.int .i64 0), (.int .i64 0), (.int .i64 0), (.int .i64 0), (.int .i64 0), (.int .i64 0), (.int .i64 0), (.int .i64 0), (.int .i64 0), (.int .i64 0), (.int .i64 0), (.int .i64 0), (.int .i64 0), (.int .i64 0), (.int .i64 0), (.int .i64 0), (.int .i64 0), (.int .i64 0), (.int .i64 0), (.int .i64 0), (.int .i64 0), (.int .i64 0), (.int .i64 0), (.int .i64 0), (.int .i64 0), (.int .i64 0), (.int .i64 0), (.int .i64 0), (.int .i64 0), (.int .i64 0), (.int .i64 0), (.int .i64 0), (.int .i64 0), (.int .i64 0), (.int .i64 0), (.int .i64 0), (.int .i64 0), (.int .i64 0), (.int .i64 0), (.int .i64 0), (.int .i64 0), (.int .i64 0), (.int .i64 0), (.int .i64 0), (.int .i64 0), (.int .i64 0), (.int .i64 0), (.int .i64 a0), (.int .i64 0)]) rfl zer105 pls105 rfl) rfl ?_
      refine Run.opX wantS_none rfl (ExG.box (c := ([0, 0, 0, 0, 0, 0, 0, 0, 0, 0, 0, 0, 0, 0, 0, 0, 0, 0, 0, 0, 0, 0, 0, 0, 0, 0, 0, 0, 0, 0, 0, 0, 0, 0, 0, 0, 0, 0, 0, 0, 0, 0, 0, 0, 0, 0, 0, 0, 0, 0, 0, 0, 0, 0, 0, 0, 0, 0, 0, 0, 0, 0, 0, 0, a0, 0] : List Int).flatMap enc3) rfl rfl hH42) ?_
      rintro _ M45 ⟨b44, rfl, hH45⟩
      refine Run.opG wantS_none (ex_assign rfl) rfl ?_
      refine Run.opsEnd (Run.seq (Run.seq (Run.region ?_)))
      refine Run.opG wantS_none (ex_move rfl) rfl ?_
      refine Run.opG wantS_none (ex_move rfl) rfl ?_
      refine Run.opsEnd (Run.block (Run.loop ?_))
      exact Run.low (.cons (fle_pick [2, 6, 7, 9] rfl) .nil) (Run.pick [3, 5, 10, 11] (bank_Filter_1_ok F F a0 (0 : Int) a2 (0 : Int) a1 ([0, 0, 0, 0, 0, 0, 0, 0, 0, 0, 0, 0, 0, 0, 0, 0, 0, 0, 0, 0, 0, 0, 0, 0, 0, 0, 0, 0, 0, 0, 0, 0, 0, 0, 0, 0, 0, 0, 0, 0, 0, 0, 0, 0, 0, 0, 0, 0, 0, 0, 0, 0, 0, 0, 0, 0, 0, 0, 0, 0, 0, 0, 0, 0, a0, 0] : List Int) s0 b41 b44 b38 _ _ _ hs0 (hH45.pick [1, 0, 2, 4] rfl rfl) h))

theorem mkk11 : makeK Tryz.prog 11 = none := by kernel_rfl
theorem cal11 : callable Tryz.prog 11 = true := by kernel_rfl
def enc27 (a : S_api_Chirp) : List SV := [(.int .i64 a.P), (.int .i64 a.Q)]
theorem enc27_len (a : S_api_Chirp) : (enc27 a).length = 2 := rfl
theorem enc27_ones (a : S_api_Chirp) : ones (enc27 a) = true := rfl
theorem elt43 : sliceElt Tryz.prog 43 = some (⟨2, 16, [(.int .i64 0), (.int .i64 0)], 27⟩ : Elt) := by kernel_rfl
structure S_api_Hit where
  Time : Int
  Chirp : Int
  Out : Int

instance : Inhabited S_api_Hit := ⟨(S_api_Hit.mk (0 : Int) (0 : Int) (0 : Int))⟩

def enc54 (a : S_api_Hit) : List SV := [(.int .i64 a.Time), (.int .i64 a.Chirp), (.int .i64 a.Out)]
theorem enc54_len (a : S_api_Hit) : (enc54 a).length = 3 := rfl
theorem enc54_ones (a : S_api_Hit) : ones (enc54 a) = true := rfl
theorem lenk43 : lenK Tryz.prog 43 = some .sl := by kernel_rfl
theorem els43 : elems Tryz.prog 43 = some (.sl 2) := by kernel_rfl
theorem zer27 : zerosOf Tryz.prog 27 = some [(.int .i64 0), (.int .i64 0)] := by kernel_rfl
theorem sz27 : szOf Tryz.prog 27 = some 2 := by kernel_rfl
abbrev bank_waveOf_h1_post (e_v0 : Int) (e_v1 : S_api_Chirp) (Fr0 : Rd) (Hr : List Ent) (r : (List Int)) : SV → Mem → Prop := fun s Me => ∃ q1, s = (.ptr q1 0) ∧ Has Fr0 Me (([.obj q1 (.row 105 .whole (r.flatMap enc3)), tb0] : List Ent) ++ Hr)

def bank_waveOf_h1_1 (F : Nat) (e_v0 : Int) (e_v1 : S_api_Chirp) : Nat → Int → Int → S_api_Chirp → (List Int) → Option ((List Int))
  | 0, _, _, _, _ => none
  | N + 1, v10, v11, c29, l32 =>
    bif (decide (v11 < v10)) then
      bnd (bank_table F (Int.tmod (w64 ((w64 (c29.P * v11)) + (w64 ((w64 (c29.Q * v11)) * v11)))) (64 : Int))) fun r35 =>
      bnd (inA v11 64) fun o37 =>
      bnd (upd l32 (((0 + o37 * 1) : Nat) : Int) r35) fun l38 =>
      (bank_waveOf_h1_1 F e_v0 e_v1 N) v10 (w64 (v11 + (1 : Int))) c29 l38
    else
      bnd (bank_wave_samples F l32) fun l41 =>
      bnd (bank_wave_samples F l32) fun l44 =>
      bnd (bank_product F l41 l44) fun r47 =>
      bnd (upd l32 ((65 : Nat) : Int) r47) fun l50 =>
      some l50

theorem bank_waveOf_h1_1_ok (F : Nat) (e_v0 : Int) (e_v1 : S_api_Chirp) (Fr0 : Rd) (Hr : List Ent) : ∀ (N : Nat), ∀ (v10 v11 : Int) (c29 : S_api_Chirp) (l32 : (List Int)) (b29 b32 : Pos) (M : Mem) (r : (List Int)) (hH : Has Fr0 M (([.obj b29 (.row 27 .whole [(.int .i64 c29.P), (.int .i64 c29.Q)]), .obj b32 (.row 105 .whole (l32.flatMap enc3)), tb0] : List Ent) ++ Hr)), bank_waveOf_h1_1 F e_v0 e_v1 N v10 v11 c29 l32 = some r → Run Tryz.prog ⟨⟨26, [], none⟩, []⟩ 42 (bank_waveOf_h1_post e_v0 e_v1 Fr0 Hr r) [(3, (.ptr b29 0)), (5, (.ptr b32 0)), (10, (.int .i64 v10)), (11, (.int .i64 v11))] [codeC Tryz.prog 26 [1, 1, 0, 1, 0, 0], loopC Tryz.prog 26 [1, 1, 0, 1, 0, 0], .inBlock 0, codeC Tryz.prog 26 [1, 1, 1]] M := by
  intro N
  induction N with
  | zero =>
    intro v10 v11 c29 l32 b29 b32 M r hH h
    simp [bank_waveOf_h1_1] at h
  | succ N ih =>
    intro v10 v11 c29 l32 b29 b32 M r hH h
    rw [bank_waveOf_h1_1] at h
    refine Run.seq (Run.region ?_)
    refine Run.opG wantS_none (ex_lss rfl rfl) rfl ?_
    refine Run.opsEnd (Run.seq ?_)
    rcases btf ((decide (v11 < v10))) with hc34 | hc34
    · have h := bif_t hc34 h
      refine Run.condT' rfl hc34 ?_
      refine Run.skip (Run.seq (Run.block (Run.seq (Run.region ?_))))
      refine Run.opG wantS_none (ex_move rfl) rfl ?_
      refine Run.opG wantS_none (ex_assign rfl) rfl ?_
      refine Run.opsEnd ?_
      refine Run.drawG plan26_1_1_0_1_0_0_1_1_0_0_1 ?_
      refine DrawG.fl rfl (ev_ex wantS_none (ex_move rfl)) rfl ?_
      refine DrawG.fl rfl (ev_ex wantS_none (ex_move rfl)) rfl ?_
      refine DrawG.fl rfl (ev_ex wantS_none (ex_fieldAddr rfl off27_0)) rfl ?_
      refine DrawG.fl rfl (ev_ex wantS_none (ex_load1 rfl (hH.cells (i := 0) rfl 0 rfl) rdLe_rfl agg3)) rfl ?_
      refine DrawG.fl rfl (ev_ex wantS_none (ex_move rfl)) rfl ?_
      refine DrawG.fl rfl (ev_ex wantS_none (ex_mul rfl rfl)) rfl ?_
      refine DrawG.fl rfl (ev_ex wantS_none (ex_fieldAddr rfl off27_1)) rfl ?_
      refine DrawG.fl rfl (ev_ex wantS_none (ex_load1 rfl (hH.cells (i := 0) rfl 1 rfl) rdLe_rfl agg3)) rfl ?_
      refine DrawG.fl rfl (ev_ex wantS_none (ex_move rfl)) rfl ?_
      refine DrawG.fl rfl (ev_ex wantS_none (ex_mul rfl rfl)) rfl ?_
      refine DrawG.fl rfl (ev_ex wantS_none (ex_move rfl)) rfl ?_
      refine DrawG.fl rfl (ev_ex wantS_none (ex_mul rfl rfl)) rfl ?_
      refine DrawG.fl rfl (ev_ex wantS_none (ex_add rfl rfl)) rfl ?_
      refine DrawG.fl rfl (ev_ex wantS_none (ex_rem rfl rfl (by decide))) rfl ?_
      refine DrawG.fl rfl (ev_ex wantS_none (ex_nilP rfl)) rfl ?_
      refine DrawG.fl rfl (ev_ex wantS_none (ex_fieldAddr rfl off105_0)) rfl ?_
      obtain ⟨r35, hr35, h⟩ := bnd_some h
      refine DrawG.callP rfl wantS_none (ex_call rfl mkk72 cal72) rfl (bank_table_ok F (Int.tmod (w64 ((w64 (c29.P * v11)) + (w64 ((w64 (c29.Q * v11)) * v11)))) (64 : Int)) _ _ (fixH hH (List.mem_of_getElem? (i := 2) rfl)) hr35) (st_cons rfl (ev_ex wantS_none (ex_fieldAddr rfl off105_0)) rfl rfl rfl (st_cons rfl (ev_ex wantS_none (ex_nilP rfl)) rfl rfl rfl (st_cons rfl (ev_ex wantS_none (ex_move rfl)) rfl rfl rfl (st_cons rfl (ev_ex wantS_none (ex_move rfl)) rfl rfl rfl st_nil)))) ?_
      obtain ⟨o37, ho37, h⟩ := bnd_some h
      refine DrawG.fl rfl (ev_ex wantS_none (ex_elX rfl rfl (arr_place (inA_natIn ho37) els103))) rfl ?_
      obtain ⟨l38, hl38, h⟩ := bnd_some h
      refine DrawG.opX rfl wantS_none rfl (ExG.storeA rfl rfl hH (i := 1) rfl hl38 sz3 rfl enc3_len enc3_ones) ?_
      rintro _ M39 ⟨rfl, (hH39 : Has Fr0 M39 (([.obj b29 (.row 27 .whole [(.int .i64 c29.P), (.int .i64 c29.Q)]), .obj b32 (.row 105 .whole (l38.flatMap enc3)), tb0] : List Ent) ++ Hr))⟩
      refine ⟨st_nil, ?_⟩
      refine DrawG.sync ?_
      refine DrawG.nil ?_
      refine Run.inBlock (Run.region ?_)
      refine Run.opG wantS_none (ex_add rfl rfl) rfl ?_
      refine Run.opG wantS_none (ex_move rfl) rfl ?_
      refine Run.opsEnd (Run.inLoop ?_)
      exact Run.pick [3, 5, 10, 11] (ih v10 (w64 (v11 + (1 : Int))) c29 l38 b29 b32 _ _ hH39 h)
    · have h := bif_f hc34 h
      refine Run.condF' rfl hc34 ?_
      refine Run.exit rfl (Run.seq (Run.region ?_))
      refine Run.opG wantS_none (ex_move rfl) rfl ?_
      refine Run.opG wantS_none (ex_move rfl) rfl ?_
      obtain ⟨l41, hl41, h⟩ := bnd_some h
      have hs41 := bank_wave_samples_slc F hH (i := 1) rfl hl41
      refine Run.callP wantS_none (ex_call rfl mkk27 cal27) rfl (bank_wave_samples_ok F hH (i := 1) rfl hl41) ?_
      refine Run.opG wantS_none (ex_move rfl) rfl ?_
      obtain ⟨l44, hl44, h⟩ := bnd_some h
      have hs44 := bank_wave_samples_slc F hH (i := 1) rfl hl44
      refine Run.callP wantS_none (ex_call rfl mkk27 cal27) rfl (bank_wave_samples_ok F hH (i := 1) rfl hl44) ?_
      obtain ⟨r47, hr47, h⟩ := bnd_some h
      refine Run.callP wantS_none (ex_call rfl mkk73 cal73) rfl (bank_product_ok F l41 l44 (.slice b32 0 l41.length 64) (.slice b32 0 l44.length 64) _ _ hs41 hs44 hr47) ?_
      refine Run.opG wantS_none (ex_nilP rfl) rfl ?_
      refine Run.opG wantS_none (ex_fieldAddr rfl off105_2) rfl ?_
      obtain ⟨l50, hl50, h⟩ := bnd_some h
      refine Run.opX wantS_none rfl (ExG.storeA rfl rfl hH (i := 1) rfl hl50 sz3 rfl enc3_len enc3_ones) ?_
      rintro _ M51 ⟨rfl, (hH51 : Has Fr0 M51 (([.obj b29 (.row 27 .whole [(.int .i64 c29.P), (.int .i64 c29.Q)]), .obj b32 (.row 105 .whole (l50.flatMap enc3)), tb0] : List Ent) ++ Hr))⟩
      refine Run.opsEnd (Run.seq (Run.region ?_))
      refine Run.opG wantS_none (ex_move rfl) rfl ?_
      refine Run.opG wantS_none (ex_assign rfl) rfl ?_
      refine Run.opsEnd ?_
      cases h
      exact Run.ret Tryz.func26 rfl (res_tmp rfl res_nil) ⟨_, rfl, (hH51.pickT [1, 2] rfl rfl).upF (fun b c hb => hH51.base b c hb)⟩

def bank_waveOf_h1 (F : Nat) (e_v0 : Int) (e_v1 : S_api_Chirp) : Option ((List Int)) :=
  bank_waveOf_h1_1 F e_v0 e_v1 F e_v0 (0 : Int) e_v1 ([0, 0, 0, 0, 0, 0, 0, 0, 0, 0, 0, 0, 0, 0, 0, 0, 0, 0, 0, 0, 0, 0, 0, 0, 0, 0, 0, 0, 0, 0, 0, 0, 0, 0, 0, 0, 0, 0, 0, 0, 0, 0, 0, 0, 0, 0, 0, 0, 0, 0, 0, 0, 0, 0, 0, 0, 0, 0, 0, 0, 0, 0, 0, 0, e_v0, 0] : List Int)

theorem bank_waveOf_h1_ok (F : Nat) : ∀ (e_v0 : Int) (e_v1 : S_api_Chirp) (Fr0 : Rd) (Hr : List Ent) (M : Mem) (r : (List Int)) (hH : Has Fr0 M (([tb0] : List Ent) ++ Hr)) (h : bank_waveOf_h1 F e_v0 e_v1 = some r), CallsM Tryz.prog 26 [(.int .i64 e_v0), (.agg [(.int .i64 e_v1.P), (.int .i64 e_v1.Q)])] M (bank_waveOf_h1_post e_v0 e_v1 Fr0 Hr r) := by
  intro e_v0 e_v1 Fr0 Hr M r hH h
  refine CallsM.run Tryz.func26 rfl rfl (show Run _ _ _ (bank_waveOf_h1_post e_v0 e_v1 Fr0 Hr r) _ _ _ from ?_)
  rw [bank_waveOf_h1] at h
  refine Run.seq (Run.region ?_)
  refine Run.opX wantS_none rfl (ExG.box rfl rfl hH) ?_
  rintro _ M30 ⟨b29, rfl, (hH30 : Has Fr0 M30 (([.obj b29 (.row 27 .whole [(.int .i64 e_v1.P), (.int .i64 e_v1.Q)]), tb0] : List Ent) ++ Hr))⟩
  refine Run.opG wantS_none (ex_assign rfl) rfl ?_
  refine Run.opsEnd (Run.seq (Run.region ?_))
  refine Run.opG wantS_none (ex_move rfl) rfl ?_
  refine Run.opG wantS_none (ex_build (r := [(.int .i64 0), (.int .i64 0), (.int .i64 0), (.int .i64 0), (.int .i64 0), (.int .i64 0), (.int .i64 0), (.int .i64 0), (.int .i64 0), (.int .i64 0), (.int .i64 0), (.int .i64 0), (.int .i64 0), (.int .i64 0), (.int .i64 0), (.int .i64 0), (.int .i64 0), (.int .i64 0), (.int .i64 0), (.int .i64 0), (.int .i64 0), (.int .i64 0), (.int .i64 0), (.int .i64 0), (.int .i64 0), (.int .i64 0), (.int .i64 0), (.int .i64 0), (.int .i64 0), (.int .i64 0), (.int .i64 0), (.int .i64 0), (.int .i64 0), (.int .i64 0), (.int .i64 0), (.int .i64 0), (.int .i64 0), (.int .i64 0), (.int .i64 0), (.int .i64 0), (.int .i64 0), (.int .i64 0), (.int .i64 0), (.int .i64 0), (.int .i64 0), (.int .i64 0), (.int .i64 0), (.int .i64 0), (.int .i64 0), (.int .i64 0), (.int .i64 0), (.int .i64 0), (.int .i64 0), (.int .i64 0), (.int .i64 0), (.int .i64 0), (.int .i64 0), (.int .i64 0), (.int .i64 0), (.int .i64 0), (.int .i64 0), (.int .i64 0), (.int .i64 0), (.int .i64 0), (.int .i64 e_v0), (.int .i64 0)]) rfl zer105 pls105 rfl) rfl ?_
  refine Run.opX wantS_none rfl (ExG.box (c := ([0, 0, 0, 0, 0, 0, 0, 0, 0, 0, 0, 0, 0, 0, 0, 0, 0, 0, 0, 0, 0, 0, 0, 0, 0, 0, 0, 0, 0, 0, 0, 0, 0, 0, 0, 0, 0, 0, 0, 0, 0, 0, 0, 0, 0, 0, 0, 0, 0, 0, 0, 0, 0, 0, 0, 0, 0, 0, 0, 0, 0, 0, 0, 0, e_v0, 0] : List Int).flatMap enc3) rfl rfl hH30) ?_
  rintro _ M33 ⟨b32, rfl, (hH33 : Has Fr0 M33 (([.obj b32 (.row 105 .whole (([0, 0, 0, 0, 0, 0, 0, 0, 0, 0, 0, 0, 0, 0, 0, 0, 0, 0, 0, 0, 0, 0, 0, 0, 0, 0, 0, 0, 0, 0, 0, 0, 0, 0, 0, 0, 0, 0, 0, 0, 0, 0, 0, 0, 0, 0, 0, 0, 0, 0, 0, 0, 0, 0, 0, 0, 0, 0, 0, 0, 0, 0, 0, 0, e_v0, 0] : List Int).flatMap enc3)), .obj b29 (.row 27 .whole [(.int .i64 e_v1.P), (.int .i64 e_v1.Q)]), tb0] : List Ent) ++ Hr))⟩
  refine Run.opG wantS_none (ex_assign rfl) rfl ?_
  refine Run.opsEnd (Run.seq (Run.seq (Run.region ?_)))
  refine Run.opG wantS_none (ex_move rfl) rfl ?_
  refine Run.opG wantS_none (ex_move rfl) rfl ?_
  refine Run.opsEnd (Run.block (Run.loop ?_))
  exact Run.pick [3, 5, 10, 11] (bank_waveOf_h1_1_ok F e_v0 e_v1 Fr0 Hr F e_v0 (0 : Int) e_v1 ([0, 0, 0, 0, 0, 0, 0, 0, 0, 0, 0, 0, 0, 0, 0, 0, 0, 0, 0, 0, 0, 0, 0, 0, 0, 0, 0, 0, 0, 0, 0, 0, 0, 0, 0, 0, 0, 0, 0, 0, 0, 0, 0, 0, 0, 0, 0, 0, 0, 0, 0, 0, 0, 0, 0, 0, 0, 0, 0, 0, 0, 0, 0, 0, e_v0, 0] : List Int) b29 b32 _ _ (hH33.pickT [1, 0, 2] rfl rfl) h)

theorem agg103 : aggSize Tryz.prog 103 = some (some 64) := by kernel_rfl
theorem zra103 : zerosOf Tryz.prog 103 = some ((List.replicate 64 (0 : Int)).flatMap enc3) := by kernel_rfl
theorem pls103 : placesOf Tryz.prog 103 = some (.ar 1) := by kernel_rfl
theorem agk103 : aggK Tryz.prog 103 = some (.ar 64 3 1) := by kernel_rfl
theorem aeq103 : aggEq Tryz.prog 103 = false := by kernel_rfl
theorem agk3 : aggK Tryz.prog 3 = some .int := by kernel_rfl
abbrev bank_wave_isSilent_post (r : Bool) : SV → Mem → Prop := fun s _ => s = (.bool r)

def bank_wave_isSilent (F : Nat) (a0 : (List Int)) : Option (Bool) :=
  bnd (parL a0 0 64) fun l24 =>
  some (decide (l24 = (List.replicate 64 (0 : Int))))

theorem bank_wave_isSilent_ok (F : Nat) (a0 : (List Int)) (s0 : SV) (r : Bool) (M : Mem) (hs0 : RopTo (rd M) s0 (a0.flatMap enc3)) (h : bank_wave_isSilent F a0 = some r) : CallsM Tryz.prog 75 [s0] M (fun s M' => s = (.bool r) ∧ M' = M) := by
  refine CallsM.plain Tryz.func75 rfl rfl rfl (show Run _ _ _ (bank_wave_isSilent_post r) _ _ _ from ?_)
  rw [bank_wave_isSilent] at h
  replace hs0 := hs0.mono (rdLe_frozen M)
  have hH := Has.nil (frozen M)
  refine Run.seq (Run.region ?_)
  refine Run.opG wantS_none (ex_assign rfl) rfl ?_
  refine Run.opsEnd (Run.seq (Run.region ?_))
  refine Run.opG wantS_none (ex_move rfl) rfl ?_
  obtain ⟨b22, hq22, hr22⟩ := rop_open hs0
  refine Run.opG wantS_none (ex_nilR rfl hq22) rfl ?_
  refine Run.opG wantS_none (ex_fieldAddr rfl off105_0) rfl ?_
  obtain ⟨l24, hl24, h⟩ := bnd_some h
  have hnl24 := parL_len hl24
  refine Run.opG wantS_none (ex_loadArrR rfl hr22 (rdLe_roF hH) hl24 enc3_len agg103) rfl ?_
  refine Run.opG wantS_none (ex_buildA (r := (List.replicate 64 (0 : Int)).flatMap enc3) rfl zra103 pls103 rfl) rfl ?_
  refine Run.opG wantS_none (ex_eqlA rfl rfl aeq103 (eqA_ints agk103 (fun _ => rfl) agg3 agk3 hnl24 List.length_replicate)) rfl ?_
  refine Run.opG wantS_none (ex_assign rfl) rfl ?_
  refine Run.opsEnd ?_
  cases h
  exact Run.ret Tryz.func75 rfl (res_tmp rfl res_nil) rfl

theorem mkk75 : makeK Tryz.prog 75 = none := by kernel_rfl
theorem cal75 : callable Tryz.prog 75 = true := by kernel_rfl
theorem slk43 : slK Tryz.prog 43 = some (.sl 2) := by kernel_rfl
theorem agk27 : aggK Tryz.prog 27 = some (.st [⟨ "P", 3, 0, false, "", "", 0⟩, ⟨ "Q", 3, 1, false, "", "", 8⟩]) := by kernel_rfl
theorem aeq27 : aggEq Tryz.prog 27 = false := by kernel_rfl
theorem plan130_1_0_1_0_0_1_1_0_0_1_0 : planOf Tryz.prog (opsC (atC Tryz.prog 130 [1, 0, 1, 0, 0, 1, 1, 0, 0, 1, 0])) = some [.fl 0, .fl 1, .fl 2, .fl 3, .fl 4, .fl 5, .sync] := by kernel_rfl
abbrev slices_Index_post (r : Int) : SV → Mem → Prop := fun s _ => s = (.int .i64 r)

def slices_Index_1 (F : Nat) : Nat → (List S_api_Chirp) → Int → Int → S_api_Chirp → Option (Int)
  | 0, _, _, _, _ => none
  | N + 1, v0, v7, v8, c22 =>
    bif (decide (v8 < v7)) then
      bnd (idx v0 v8) fun x25 =>
      bif ((c22.P == x25.P) && ((c22.Q == x25.Q) && true)) then
        some v8
      else
        (slices_Index_1 F N) v0 v7 (w64 (v8 + (1 : Int))) c22
    else
      some ((-1) : Int)

theorem slices_Index_1_ok (F : Nat) : ∀ (N : Nat), ∀ (v0 : (List S_api_Chirp)) (v7 v8 : Int) (c22 : S_api_Chirp) (sv0 : SV) (b22 : Pos) (Fr : Rd) (M : Mem) (r : Int) (hv0 : Slc Fr 2 (FlatR enc27) sv0 v0) (hH : Has Fr M [.obj b22 (.row 27 .whole [(.int .i64 c22.P), (.int .i64 c22.Q)])]), slices_Index_1 F N v0 v7 v8 c22 = some r → Run Tryz.prog ⟨⟨130, [], none⟩, []⟩ 19 (slices_Index_post r) [(0, sv0), (3, (.ptr b22 0)), (7, (.int .i64 v7)), (8, (.int .i64 v8))] [codeC Tryz.prog 130 [1, 0, 1, 0, 0], loopC Tryz.prog 130 [1, 0, 1, 0, 0], .inBlock 0, codeC Tryz.prog 130 [1, 1]] M := by
  intro N
  induction N with
  | zero =>
    intro v0 v7 v8 c22 sv0 b22 Fr M r hv0 hH h
    simp [slices_Index_1] at h
  | succ N ih =>
    intro v0 v7 v8 c22 sv0 b22 Fr M r hv0 hH h
    rw [slices_Index_1] at h
    refine Run.seq (Run.region ?_)
    refine Run.opG wantS_none (ex_lss rfl rfl) rfl ?_
    refine Run.opsEnd (Run.seq ?_)
    rcases btf ((decide (v8 < v7))) with hc24 | hc24
    · have h := bif_t hc24 h
      refine Run.condT' rfl hc24 ?_
      refine Run.skip (Run.seq (Run.block (Run.seq (Run.region ?_))))
      refine Run.opG wantS_none (ex_move rfl) rfl ?_
      refine Run.opG wantS_none (ex_assign rfl) rfl ?_
      refine Run.opsEnd (Run.seq ?_)
      refine Run.drawG plan130_1_0_1_0_0_1_1_0_0_1_0 ?_
      refine DrawG.fl rfl (ev_ex wantS_none (ex_loadA rfl (hH.cells (i := 0) rfl 0 rfl) rdLe_rfl agg27 rfl rfl rfl)) rfl ?_
      refine DrawG.fl rfl (ev_ex wantS_none (ex_move rfl)) rfl ?_
      refine DrawG.fl rfl (ev_ex wantS_none (ex_move rfl)) rfl ?_
      obtain ⟨x25, hx25, h⟩ := bnd_some h
      obtain ⟨p25, o25, _, hx25, hp25, rfl⟩ := sl_elem (P := Tryz.prog) (t := 43) (kk := .i64) hv0 hx25 els43
      refine DrawG.fl rfl (ev_ex wantS_none (ex_elX rfl rfl hx25)) rfl ?_
      refine DrawG.fl rfl (ev_ex wantS_none (ex_loadA rfl (hH.ptrF hp25) rdLe_rfl agg27 rfl rfl rfl)) rfl ?_
      refine DrawG.fl rfl (ev_ex wantS_none (ex_eqlA rfl rfl aeq27 (eqA_st agk27 (eqFs_cons (by decide) (part_one agg3 rfl) (part_one agg3 rfl) (eqA_int agk3) (eqFs_cons (by decide) (part_one agg3 rfl) (part_one agg3 rfl) (eqA_int agk3) eqFs_nil))))) rfl ?_
      refine DrawG.sync ?_
      refine DrawG.nil ?_
      rcases btf (((c22.P == x25.P) && ((c22.Q == x25.Q) && true))) with hc26 | hc26
      · have h := bif_t hc26 h
        refine Run.condT' rfl hc26 ?_
        refine Run.seq (Run.region ?_)
        refine Run.opG wantS_none (ex_move rfl) rfl ?_
        refine Run.opG wantS_none (ex_assign rfl) rfl ?_
        refine Run.opsEnd ?_
        cases h
        exact Run.ret Tryz.func130 rfl (res_tmp rfl res_nil) rfl
      · have h := bif_f hc26 h
        refine Run.condF' rfl hc26 ?_
        refine Run.skip (Run.inBlock (Run.region ?_))
        refine Run.opG wantS_none (ex_add rfl rfl) rfl ?_
        refine Run.opG wantS_none (ex_move rfl) rfl ?_
        refine Run.opsEnd (Run.inLoop ?_)
        exact Run.pick [0, 3, 7, 8] (ih v0 v7 (w64 (v8 + (1 : Int))) c22 sv0 b22 _ _ _ hv0 hH h)
    · have h := bif_f hc24 h
      refine Run.condF' rfl hc24 ?_
      refine Run.exit rfl (Run.seq (Run.region ?_))
      refine Run.opG wantS_none (ex_assign rfl) rfl ?_
      refine Run.opsEnd ?_
      cases h
      exact Run.ret Tryz.func130 rfl (res_tmp rfl res_nil) rfl

def slices_Index (F : Nat) (a0 : (List S_api_Chirp)) (a1 : S_api_Chirp) : Option (Int) :=
  slices_Index_1 F F a0 (a0.length : Int) (0 : Int) a1

theorem slices_Index_ok (F : Nat) (a0 : (List S_api_Chirp)) (a1 : S_api_Chirp) (s0 : SV) (r : Int) (M : Mem) (hs0 : Slc (rd M) 2 (FlatR enc27) s0 a0) (h : slices_Index F a0 a1 = some r) : CallsM Tryz.prog 130 [s0, (.agg [(.int .i64 a1.P), (.int .i64 a1.Q)])] M (fun s M' => s = (.int .i64 r) ∧ M' = M) := by
  refine CallsM.plain Tryz.func130 rfl rfl rfl (show Run _ _ _ (slices_Index_post r) _ _ _ from ?_)
  rw [slices_Index] at h
  replace hs0 := hs0.mono (rdLe_frozen M) (fun _ _ h => h)
  have hH := Has.nil (frozen M)
  refine Run.seq (Run.region ?_)
  refine Run.opX wantS_none rfl (ExG.box rfl rfl hH) ?_
  rintro _ M23 ⟨b22, rfl, hH23⟩
  refine Run.opG wantS_none (ex_assign rfl) rfl ?_
  refine Run.opsEnd (Run.seq (Run.seq (Run.region ?_)))
  refine Run.opG wantS_none (ex_move rfl) rfl ?_
  refine Run.opG wantS_none (ex_len' rfl hs0 lenk43) rfl ?_
  refine Run.opG wantS_none (ex_move rfl) rfl ?_
  refine Run.opsEnd (Run.block (Run.loop ?_))
  exact Run.pick [0, 3, 7, 8] (slices_Index_1_ok F F a0 (a0.length : Int) (0 : Int) a1 s0 b22 _ _ _ hs0 hH23 h)

theorem mkk130 : makeK Tryz.prog 130 = none := by kernel_rfl
theorem cal130 : callable Tryz.prog 130 = true := by kernel_rfl
abbrev slices_Contains_post (r : Bool) : SV → Mem → Prop := fun s _ => s = (.bool r)

def slices_Contains (F : Nat) (a0 : (List S_api_Chirp)) (a1 : S_api_Chirp) : Option (Bool) :=
  bnd (slices_Index F a0 a1) fun r25 =>
  some (decide ((0 : Int) ≤ r25))

theorem slices_Contains_ok (F : Nat) (a0 : (List S_api_Chirp)) (a1 : S_api_Chirp) (s0 : SV) (r : Bool) (M : Mem) (hs0 : Slc (rd M) 2 (FlatR enc27) s0 a0) (h : slices_Contains F a0 a1 = some r) : CallsM Tryz.prog 87 [s0, (.agg [(.int .i64 a1.P), (.int .i64 a1.Q)])] M (fun s M' => s = (.bool r) ∧ M' = M) := by
  refine CallsM.plain Tryz.func87 rfl rfl rfl (show Run _ _ _ (slices_Contains_post r) _ _ _ from ?_)
  rw [slices_Contains] at h
  replace hs0 := hs0.mono (rdLe_frozen M) (fun _ _ h => h)
  have hH := Has.nil (frozen M)
  refine Run.seq (Run.region ?_)
  refine Run.opX wantS_none rfl (ExG.box rfl rfl hH) ?_
  rintro _ M23 ⟨b22, rfl, hH23⟩
  refine Run.opG wantS_none (ex_assign rfl) rfl ?_
  refine Run.opsEnd (Run.seq (Run.region ?_))
  refine Run.opG wantS_none (ex_move rfl) rfl ?_
  refine Run.opG wantS_none (ex_loadA rfl (hH23.cells (i := 0) rfl 0 rfl) rdLe_rfl agg27 rfl rfl rfl) rfl ?_
  obtain ⟨r25, hr25, h⟩ := bnd_some h
  refine Run.callP wantS_none (ex_call rfl mkk130 cal130) rfl (slices_Index_ok F a0 a1 s0 _ _ (hH23.slcF hs0) hr25) ?_
  refine Run.opG wantS_none (ex_geq rfl rfl) rfl ?_
  refine Run.opG wantS_none (ex_assign rfl) rfl ?_
  refine Run.opsEnd ?_
  cases h
  exact Run.ret Tryz.func87 rfl (res_tmp rfl res_nil) rfl

theorem mkk87 : makeK Tryz.prog 87 = none := by kernel_rfl
theorem cal87 : callable Tryz.prog 87 = true := by kernel_rfl
theorem plan37_1_1_0_1_0_0_1_1_0_0_1_0 : planOf Tryz.prog (opsC (atC Tryz.prog 37 [1, 1, 0, 1, 0, 0, 1, 1, 0, 0, 1, 0])) = some [.fl 0, .an 1 [], .fl 2, .fl 3, .fl 4, .fl 5, .an 6 [], .an 7 [], .fl 8, .fl 9, .fl 10, .fl 11, .fl 12, .fl 13, .an 14 [], .fl 15, .sync] := by kernel_rfl
abbrev bank_isBank_post (r : Bool) : SV → Mem → Prop := fun s _ => s = (.bool r)

def bank_isBank_2 (F : Nat) (hd1 : Int → (List S_api_Chirp) → (List S_api_Chirp) → Int → Int → Option (Bool)) (v0 : Int) (v1 v10 : (List S_api_Chirp)) (v11 v12 : Int) (v32 : Bool) : Option (Bool) :=
  bif v32 then
    some false
  else
    hd1 v0 v1 v10 v11 (w64 (v12 + (1 : Int)))

theorem bank_isBank_2_ok (F : Nat) (hd1 : Int → (List S_api_Chirp) → (List S_api_Chirp) → Int → Int → Option (Bool)) (hhd1 : ∀ (v0 : Int) (v1 v10 : (List S_api_Chirp)) (v11 v12 : Int) (sv1 sv10 : SV) (Fr : Rd) (M : Mem) (r : Bool) (hv1 : Slc Fr 2 (FlatR enc27) sv1 v1) (hv10 : Slc Fr 2 (FlatR enc27) sv10 v10) (hH : Has Fr M [tb0]), hd1 v0 v1 v10 v11 v12 = some r → Run Tryz.prog ⟨⟨37, [], none⟩, []⟩ 34 (bank_isBank_post r) [(0, (.int .i64 v0)), (1, sv1), (10, sv10), (11, (.int .i64 v11)), (12, (.int .i64 v12))] [codeC Tryz.prog 37 [1, 1, 0, 1, 0, 0], loopC Tryz.prog 37 [1, 1, 0, 1, 0, 0], .inBlock 0, codeC Tryz.prog 37 [1, 1, 1]] M) : ∀ (v0 : Int) (v1 v10 : (List S_api_Chirp)) (v11 v12 : Int) (v32 : Bool) (sv1 sv10 : SV) (Fr : Rd) (M : Mem) (r : Bool) (hv1 : Slc Fr 2 (FlatR enc27) sv1 v1) (hv10 : Slc Fr 2 (FlatR enc27) sv10 v10) (hH : Has Fr M [tb0]), bank_isBank_2 F hd1 v0 v1 v10 v11 v12 v32 = some r → Run Tryz.prog ⟨⟨37, [], none⟩, []⟩ 34 (bank_isBank_post r) [(0, (.int .i64 v0)), (1, sv1), (10, sv10), (11, (.int .i64 v11)), (12, (.int .i64 v12)), (32, (.bool v32))] [codeC Tryz.prog 37 [1, 1, 0, 1, 0, 0, 1, 1, 0, 0, 1, 1], .inBlock 1, codeC Tryz.prog 37 [1, 1, 0, 1, 0, 0, 1, 1, 1], loopC Tryz.prog 37 [1, 1, 0, 1, 0, 0], .inBlock 0, codeC Tryz.prog 37 [1, 1, 1]] M := by
  intro v0 v1 v10 v11 v12 v32 sv1 sv10 Fr M r hv1 hv10 hH h
  rw [bank_isBank_2] at h
  rcases btf (v32) with hc33 | hc33
  · have h := bif_t hc33 h
    refine Run.condT' rfl hc33 ?_
    refine Run.seq (Run.region ?_)
    refine Run.opG wantS_none (ex_assign rfl) rfl ?_
    refine Run.opsEnd ?_
    cases h
    exact Run.ret Tryz.func37 rfl (res_tmp rfl res_nil) rfl
  · have h := bif_f hc33 h
    refine Run.condF' rfl hc33 ?_
    refine Run.skip (Run.inBlock (Run.region ?_))
    refine Run.opG wantS_none (ex_add rfl rfl) rfl ?_
    refine Run.opG wantS_none (ex_move rfl) rfl ?_
    refine Run.opsEnd (Run.inLoop ?_)
    exact Run.pick [0, 1, 10, 11, 12] (hhd1 v0 v1 v10 v11 (w64 (v12 + (1 : Int))) sv1 sv10 _ _ _ hv1 hv10 hH h)

def bank_isBank_1 (F : Nat) : Nat → Int → (List S_api_Chirp) → (List S_api_Chirp) → Int → Int → Option (Bool)
  | 0, _, _, _, _, _ => none
  | N + 1, v0, v1, v10, v11, v12 =>
    bif (decide (v12 < v11)) then
      bnd (idx v10 v12) fun x25 =>
      bnd (bank_isChirp F x25) fun r30 =>
      bif (!r30) then
        bank_isBank_2 F (bank_isBank_1 F N) v0 v1 v10 v11 v12 true
      else
        bnd (bank_waveOf_h1 F v0 x25) fun r34 =>
        bnd (bank_wave_isSilent F r34) fun r37 =>
        bif r37 then
          bank_isBank_2 F (bank_isBank_1 F N) v0 v1 v10 v11 v12 true
        else
          bnd (sub v1 0 v12) fun l40 =>
          bnd (slices_Contains F l40 x25) fun r41 =>
          bank_isBank_2 F (bank_isBank_1 F N) v0 v1 v10 v11 v12 r41
    else
      some true

theorem bank_isBank_1_ok (F : Nat) : ∀ (N : Nat), ∀ (v0 : Int) (v1 v10 : (List S_api_Chirp)) (v11 v12 : Int) (sv1 sv10 : SV) (Fr : Rd) (M : Mem) (r : Bool) (hv1 : Slc Fr 2 (FlatR enc27) sv1 v1) (hv10 : Slc Fr 2 (FlatR enc27) sv10 v10) (hH : Has Fr M [tb0]), bank_isBank_1 F N v0 v1 v10 v11 v12 = some r → Run Tryz.prog ⟨⟨37, [], none⟩, []⟩ 34 (bank_isBank_post r) [(0, (.int .i64 v0)), (1, sv1), (10, sv10), (11, (.int .i64 v11)), (12, (.int .i64 v12))] [codeC Tryz.prog 37 [1, 1, 0, 1, 0, 0], loopC Tryz.prog 37 [1, 1, 0, 1, 0, 0], .inBlock 0, codeC Tryz.prog 37 [1, 1, 1]] M := by
  intro N
  induction N with
  | zero =>
    intro v0 v1 v10 v11 v12 sv1 sv10 Fr M r hv1 hv10 hH h
    simp [bank_isBank_1] at h
  | succ N ih =>
    intro v0 v1 v10 v11 v12 sv1 sv10 Fr M r hv1 hv10 hH h
    rw [bank_isBank_1] at h
    refine Run.seq (Run.region ?_)
    refine Run.opG wantS_none (ex_lss rfl rfl) rfl ?_
    refine Run.opsEnd (Run.seq ?_)
    rcases btf ((decide (v12 < v11))) with hc23 | hc23
    · have h := bif_t hc23 h
      refine Run.condT' rfl hc23 ?_
      refine Run.skip (Run.seq (Run.block (Run.seq (Run.region ?_))))
      refine Run.opG wantS_none (ex_move rfl) rfl ?_
      obtain ⟨x25, hx25, h⟩ := bnd_some h
      obtain ⟨p25, o25, _, hx25, hp25, rfl⟩ := sl_elem (P := Tryz.prog) (t := 43) (kk := .i64) hv10 hx25 els43
      refine Run.opG wantS_none (ex_elX rfl rfl hx25) rfl ?_
      refine Run.opG wantS_none (ex_loadA rfl (hH.ptrF hp25) rdLe_rfl agg27 rfl rfl rfl) rfl ?_
      refine Run.opX wantS_none rfl (ExG.new (v := fun b => .ptr b 0) (ex_alloc zer27) hH) ?_
      rintro _ M28 ⟨b27, rfl, hH28⟩
      refine Run.opG wantS_none (ex_assign rfl) rfl ?_
      refine Run.opX wantS_none rfl (ExG.storeC (c' := [(.int .i64 x25.P), (.int .i64 x25.Q)]) rfl rfl rfl hH28 (i := 0) rfl sz27 rfl rfl rfl rfl rfl) ?_
      rintro _ M29 ⟨rfl, (hH29 : Has Fr M29 [.obj b27 (.row 27 .whole [(.int .i64 x25.P), (.int .i64 x25.Q)]), tb0])⟩
      refine Run.opsEnd (Run.seq ?_)
      refine Run.drawG plan37_1_1_0_1_0_0_1_1_0_0_1_0 ?_
      refine DrawG.fl rfl (ev_ex wantS_none (ex_loadA rfl (hH29.cells (i := 0) rfl 0 rfl) rdLe_rfl agg27 rfl rfl rfl)) rfl ?_
      obtain ⟨r30, hr30, h⟩ := bnd_some h
      refine DrawG.callP rfl wantS_none (ex_call rfl mkk71 cal71) rfl (bank_isChirp_ok F x25 _ _ hr30) st_nil ?_
      refine DrawG.fl rfl (ev_ex wantS_none (ex_not rfl)) rfl ?_
      refine DrawG.fl rfl (ev_ex wantS_none (ex_move rfl)) rfl ?_
      rcases btf ((!r30)) with hc32 | hc32
      · have h := bif_t hc32 h
        refine DrawG.fl rfl (ev_no (wantS_not' rfl rfl hc32)) rfl ?_
        refine DrawG.fl rfl (ev_no (wantS_not' rfl rfl hc32)) rfl ?_
        refine DrawG.no rfl (wantS_not' rfl rfl hc32) rfl st_nil ?_
        refine DrawG.no rfl (wantS_not' rfl rfl hc32) rfl st_nil ?_
        refine DrawG.fl rfl (ev_ex wantS_none (ex_pickT' rfl hc32 rfl rfl)) rfl ?_
        refine DrawG.fl rfl (ev_ex wantS_none (ex_move rfl)) rfl ?_
        refine DrawG.fl rfl (ev_no (wantS_not' rfl rfl rfl)) rfl ?_
        refine DrawG.fl rfl (ev_no (wantS_not' rfl rfl rfl)) rfl ?_
        refine DrawG.fl rfl (ev_no (wantS_not' rfl rfl rfl)) rfl ?_
        refine DrawG.fl rfl (ev_no (wantS_not' rfl rfl rfl)) rfl ?_
        refine DrawG.no rfl (wantS_not' rfl rfl rfl) rfl st_nil ?_
        refine DrawG.fl rfl (ev_ex wantS_none (ex_pickT' rfl rfl rfl rfl)) rfl ?_
        refine DrawG.sync ?_
        refine DrawG.nil ?_
        exact Run.pick [0, 1, 10, 11, 12, 32] (bank_isBank_2_ok F (bank_isBank_1 F N) ih v0 v1 v10 v11 v12 true sv1 sv10 _ _ _ hv1 hv10 (hH29.pick [1] rfl rfl) h)
      · have h := bif_f hc32 h
        refine DrawG.fl rfl (ev_ex (wantS_yes' rfl rfl hc32) (ex_move rfl)) rfl ?_
        refine DrawG.fl rfl (ev_ex (wantS_yes' rfl rfl hc32) (ex_loadA rfl (hH29.cells (i := 0) rfl 0 rfl) rdLe_rfl agg27 rfl rfl rfl)) rfl ?_
        obtain ⟨r34, hr34, h⟩ := bnd_some h
        refine DrawG.call rfl (wantS_yes' rfl rfl hc32) (ex_call rfl mkk26 cal26) rfl (bank_waveOf_h1_ok F v0 x25 Fr [.obj b27 (.row 27 .whole [(.int .i64 x25.P), (.int .i64 x25.Q)])] _ _ (hH29.pick [1, 0] rfl rfl) hr34) ?_
        rintro _ M36 ⟨s34_0, rfl, (hH36 : Has Fr M36 [.obj s34_0 (.row 105 .whole (r34.flatMap enc3)), tb0, .obj b27 (.row 27 .whole [(.int .i64 x25.P), (.int .i64 x25.Q)])])⟩
        refine ⟨st_nil, ?_⟩
        obtain ⟨r37, hr37, h⟩ := bnd_some h
        refine DrawG.callP rfl (wantS_yes' rfl rfl hc32) (ex_call rfl mkk75 cal75) rfl (bank_wave_isSilent_ok F r34 (.ptr s34_0 0) _ _ (hH36.ropO (i := 0) rfl) hr37) st_nil ?_
        refine DrawG.fl rfl (ev_ex wantS_none (ex_pickF' rfl hc32 rfl rfl)) rfl ?_
        refine DrawG.fl rfl (ev_ex wantS_none (ex_move rfl)) rfl ?_
        rcases btf (r37) with hc39 | hc39
        · have h := bif_t hc39 h
          refine DrawG.fl rfl (ev_no (wantS_not' rfl rfl hc39)) rfl ?_
          refine DrawG.fl rfl (ev_no (wantS_not' rfl rfl hc39)) rfl ?_
          refine DrawG.fl rfl (ev_no (wantS_not' rfl rfl hc39)) rfl ?_
          refine DrawG.fl rfl (ev_no (wantS_not' rfl rfl hc39)) rfl ?_
          refine DrawG.no rfl (wantS_not' rfl rfl hc39) rfl st_nil ?_
          refine DrawG.fl rfl (ev_ex wantS_none (ex_pickT' rfl hc39 rfl rfl)) rfl ?_
          refine DrawG.sync ?_
          refine DrawG.nil ?_
          exact Run.pick [0, 1, 10, 11, 12, 32] (bank_isBank_2_ok F (bank_isBank_1 F N) ih v0 v1 v10 v11 v12 true sv1 sv10 _ _ _ hv1 hv10 (hH36.pick [1] rfl rfl) h)
        · have h := bif_f hc39 h
          refine DrawG.fl rfl (ev_ex (wantS_yes' rfl rfl hc39) (ex_move rfl)) rfl ?_
          refine DrawG.fl rfl (ev_ex (wantS_yes' rfl rfl hc39) (ex_move rfl)) rfl ?_
          obtain ⟨l40, hl40, h⟩ := bnd_some h
          obtain ⟨s40, hx40, hs40⟩ := sl_subH (P := Tryz.prog) (t := 43) (k0 := .i64) hv1 hl40 slk43
          refine DrawG.fl rfl (ev_ex (wantS_yes' rfl rfl hc39) (ex_slX rfl (argO_none) (argO_some rfl) hx40)) rfl ?_
          refine DrawG.fl rfl (ev_ex (wantS_yes' rfl rfl hc39) (ex_loadA rfl (hH36.cells (i := 2) rfl 0 rfl) rdLe_rfl agg27 rfl rfl rfl)) rfl ?_
          obtain ⟨r41, hr41, h⟩ := bnd_some h
          refine DrawG.callP rfl (wantS_yes' rfl rfl hc39) (ex_call rfl mkk87 cal87) rfl (slices_Contains_ok F l40 x25 s40 _ _ (hH36.slcF hs40) hr41) st_nil ?_
          refine DrawG.fl rfl (ev_ex wantS_none (ex_pickF' rfl hc39 rfl rfl)) rfl ?_
          refine DrawG.sync ?_
          refine DrawG.nil ?_
          exact Run.pick [0, 1, 10, 11, 12, 32] (bank_isBank_2_ok F (bank_isBank_1 F N) ih v0 v1 v10 v11 v12 r41 sv1 sv10 _ _ _ hv1 hv10 (hH36.pick [1] rfl rfl) h)
    · have h := bif_f hc23 h
      refine Run.condF' rfl hc23 ?_
      refine Run.exit rfl (Run.seq (Run.region ?_))
      refine Run.opG wantS_none (ex_assign rfl) rfl ?_
      refine Run.opsEnd ?_
      cases h
      exact Run.ret Tryz.func37 rfl (res_tmp rfl res_nil) rfl

def bank_isBank (F : Nat) (a0 : Int) (a1 : (List S_api_Chirp)) : Option (Bool) :=
  bif (decide ((64 : Int) < (a1.length : Int))) then
    some false
  else
    bank_isBank_1 F F a0 a1 a1 (a1.length : Int) (0 : Int)

theorem bank_isBank_ok (F : Nat) (a0 : Int) (a1 : (List S_api_Chirp)) (s0 : SV) (r : Bool) (M : Mem) (hs0 : Slc (rd M) 2 (FlatR enc27) s0 a1) (hfx : FixIn M fixes) (h : bank_isBank F a0 a1 = some r) : CallsM Tryz.prog 37 [(.int .i64 a0), s0] M (fun s M' => s = (.bool r) ∧ M' = M) := by
  refine CallsM.plain Tryz.func37 rfl rfl rfl (show Run _ _ _ (bank_isBank_post r) _ _ _ from ?_)
  rw [bank_isBank] at h
  replace hs0 := hs0.mono (rdLe_frozen M) (fun _ _ h => h)
  have hH : Has (ro (frozen M)) (frozen M) [tb0] := Has.ofFix hfx.frozen
  refine Run.seq (Run.region ?_)
  refine Run.opG wantS_none (ex_assign rfl) rfl ?_
  refine Run.opsEnd (Run.seq (Run.seq (Run.region ?_)))
  refine Run.opG wantS_none (ex_move rfl) rfl ?_
  refine Run.opG wantS_none (ex_len' rfl hs0 lenk43) rfl ?_
  refine Run.opG wantS_none (ex_gtr rfl rfl) rfl ?_
  refine Run.opsEnd ?_
  rcases btf ((decide ((64 : Int) < (a1.length : Int)))) with hc22 | hc22
  · have h := bif_t hc22 h
    refine Run.condT' rfl hc22 ?_
    refine Run.seq (Run.region ?_)
    refine Run.opG wantS_none (ex_assign rfl) rfl ?_
    refine Run.opsEnd ?_
    cases h
    exact Run.ret Tryz.func37 rfl (res_tmp rfl res_nil) rfl
  · have h := bif_f hc22 h
    refine Run.condF' rfl hc22 ?_
    refine Run.skip (Run.seq (Run.seq (Run.region ?_)))
    refine Run.opG wantS_none (ex_move rfl) rfl ?_
    refine Run.opG wantS_none (ex_len' rfl hs0 lenk43) rfl ?_
    refine Run.opG wantS_none (ex_move rfl) rfl ?_
    refine Run.opsEnd (Run.block (Run.loop ?_))
    exact Run.pick [0, 1, 10, 11, 12] (bank_isBank_1_ok F F a0 a1 a1 (a1.length : Int) (0 : Int) s0 s0 _ _ _ hs0 hs0 hH h)

theorem mkk37 : makeK Tryz.prog 37 = none := by kernel_rfl
theorem cal37 : callable Tryz.prog 37 = true := by kernel_rfl
abbrev bank_CheckBank_post (r : Int) : SV → Mem → Prop := fun s _ => s = (.int .i64 r)

def bank_CheckBank (F : Nat) (a0 : Int) (a1 : (List S_api_Chirp)) : Option (Int) :=
  bnd (bank_isLength F a0) fun r23 =>
  bif (!r23) then
    some (70 : Int)
  else
    bnd (bank_isBank F a0 a1) fun r27 =>
    bif (!r27) then
      some (72 : Int)
    else
      some (0 : Int)

theorem bank_CheckBank_ok (F : Nat) (a0 : Int) (a1 : (List S_api_Chirp)) (s0 : SV) (r : Int) (M : Mem) (hs0 : Slc (rd M) 2 (FlatR enc27) s0 a1) (hfx : FixIn M fixes) (h : bank_CheckBank F a0 a1 = some r) : CallsM Tryz.prog 13 [(.int .i64 a0), s0] M (fun s M' => s = (.int .i64 r) ∧ M' = M) := by
  refine CallsM.plain Tryz.func13 rfl rfl rfl (show Run _ _ _ (bank_CheckBank_post r) _ _ _ from ?_)
  rw [bank_CheckBank] at h
  replace hs0 := hs0.mono (rdLe_frozen M) (fun _ _ h => h)
  have hH : Has (ro (frozen M)) (frozen M) [tb0] := Has.ofFix hfx.frozen
  refine Run.seq (Run.region ?_)
  refine Run.opG wantS_none (ex_assign rfl) rfl ?_
  refine Run.opsEnd (Run.seq (Run.block (Run.seq (Run.region ?_))))
  refine Run.opG wantS_none (ex_move rfl) rfl ?_
  obtain ⟨r23, hr23, h⟩ := bnd_some h
  refine Run.callP wantS_none (ex_call rfl mkk36 cal36) rfl (bank_isLength_ok F a0 _ _ hr23) ?_
  refine Run.opG wantS_none (ex_not rfl) rfl ?_
  refine Run.opG wantS_none (ex_assign rfl) rfl ?_
  refine Run.opsEnd ?_
  rcases btf ((!r23)) with hc25 | hc25
  · have h := bif_t hc25 h
    refine Run.condT' rfl hc25 ?_
    refine Run.seq (Run.region ?_)
    refine Run.opG wantS_none (ex_assign rfl) rfl ?_
    refine Run.opsEnd ?_
    cases h
    exact Run.ret Tryz.func13 rfl (res_tmp rfl res_nil) rfl
  · have h := bif_f hc25 h
    refine Run.condF' rfl hc25 ?_
    refine Run.seq (Run.region ?_)
    refine Run.opG wantS_none (ex_move rfl) rfl ?_
    refine Run.opG wantS_none (ex_move rfl) rfl ?_
    obtain ⟨r27, hr27, h⟩ := bnd_some h
    refine Run.callP wantS_none (ex_call rfl mkk37 cal37) rfl (bank_isBank_ok F a0 a1 s0 _ _ (hH.slcF hs0) (fixH hH (List.mem_of_getElem? (i := 0) rfl)) hr27) ?_
    refine Run.opG wantS_none (ex_not rfl) rfl ?_
    refine Run.opG wantS_none (ex_assign rfl) rfl ?_
    refine Run.opsEnd ?_
    rcases btf ((!r27)) with hc29 | hc29
    · have h := bif_t hc29 h
      refine Run.condT' rfl hc29 ?_
      refine Run.seq (Run.region ?_)
      refine Run.opG wantS_none (ex_assign rfl) rfl ?_
      refine Run.opsEnd ?_
      cases h
      exact Run.ret Tryz.func13 rfl (res_tmp rfl res_nil) rfl
    · have h := bif_f hc29 h
      refine Run.condF' rfl hc29 ?_
      refine Run.skip (Run.inBlock (Run.seq (Run.region ?_)))
      refine Run.opG wantS_none (ex_assign rfl) rfl ?_
      refine Run.opsEnd ?_
      cases h
      exact Run.ret Tryz.func13 rfl (res_tmp rfl res_nil) rfl

theorem mkk13 : makeK Tryz.prog 13 = none := by kernel_rfl
theorem cal13 : callable Tryz.prog 13 = true := by kernel_rfl
end Go.Ev.SearchFilled
