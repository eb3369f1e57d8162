/- Plain functions that say what functions of the program come to, and proofs of it, written by a program of the verifier's own. -/
import Derived.Test.YtjddbfpinjjkkabGreatDoorSort
import Derived.Test.YtjddbfpinjjkkabGreatDoorEvL21
import Derived.Test.YtjddbfpinjjkkabGreatDoorWorks
import Derived.KernelRfl
namespace Go.Ev.BankSure
open Go Go.Ev Go.Proofs
set_option maxRecDepth 100000
set_option linter.unusedVariables false

noncomputable def fixes : List (Nat × List SV) := Go.Proofs.YtjddbfpinjjkkabGreatDoor.works.fixes
noncomputable def tb0 : Ent := fixE (5, intCells .u8 [0, 1, 28, 2, 29, 14, 24, 3, 30, 22, 20, 15, 25, 17, 4, 8, 31, 27, 13, 23, 21, 19, 16, 7, 26, 12, 18, 6, 11, 5, 10, 9])
noncomputable def tb1 : Ent := fixE (6, intCells .u8 [0, 1, 56, 2, 57, 49, 28, 3, 61, 58, 42, 50, 38, 29, 17, 4, 62, 47, 59, 36, 45, 43, 51, 22, 53, 39, 33, 30, 24, 18, 12, 5, 63, 55, 48, 27, 60, 41, 37, 16, 46, 35, 44, 21, 52, 32, 23, 11, 54, 26, 40, 15, 34, 20, 31, 10, 25, 14, 19, 9, 13, 8, 7, 6])
noncomputable def tb2 : Ent := fixE (4, intCells .u64 [1, 10, 100, 1000, 10000, 100000, 1000000, 10000000, 100000000, 1000000000, 10000000000, 100000000000, 1000000000000, 10000000000000, 100000000000000, 1000000000000000, 10000000000000000, 100000000000000000, 1000000000000000000, 10000000000000000000])
noncomputable def tb3 : Ent := fixE (0, intCells .i64 [0, 12, 25, 37, 49, 60, 71, 81, 90, 98, 106, 112, 117, 122, 125, 126, 127])
def works (_ : Nat) : Option Bool := some true
theorem fixH {Fr : Rd} {H : List Ent} {M : Mem} (hH : Has Fr M H) (h0 : tb0 ∈ H) (h1 : tb1 ∈ H) (h2 : tb2 ∈ H) (h3 : tb3 ∈ H) : FixIn M fixes := by
  refine hH.fixIn fun x hx => ?_
  simp only [fixes, Go.Proofs.YtjddbfpinjjkkabGreatDoor.works.fixes, List.mem_cons, List.not_mem_nil, or_false] at hx
  rcases hx with rfl | rfl | rfl | rfl
  · exact h0
  · exact h1
  · exact h2
  · exact h3

theorem works_ok (F : Nat) (r : Bool) {Fr : Rd} {H : List Ent} (M : Mem) (hH : Has Fr M H) (h0 : tb0 ∈ H) (h1 : tb1 ∈ H) (h2 : tb2 ∈ H) (h3 : tb3 ∈ H) (h : works F = some r) : CallsM Tryz.prog 8 [] M fun s M' => s = .bool r ∧ M' = M := by
  cases h
  refine CallsM.closedFix (n := 600) (l := Go.Proofs.YtjddbfpinjjkkabGreatDoor.works.fixes) Go.Proofs.YtjddbfpinjjkkabGreatDoor.works.below Go.Proofs.YtjddbfpinjjkkabGreatDoor.works.plainF Go.Proofs.YtjddbfpinjjkkabGreatDoor.works.works_true (hH.fixIn fun x hx => ?_)
  simp only [Go.Proofs.YtjddbfpinjjkkabGreatDoor.works.fixes, List.mem_cons, List.not_mem_nil, or_false] at hx
  rcases hx with rfl | rfl | rfl | rfl
  · exact h0
  · exact h1
  · exact h2
  · exact h3


structure S_api_Chirp where
  P : Int
  Q : Int

structure S_ringdownlaw07_Signal where
  Length : Int
  L : (List S_api_Chirp)
  Which : Int
  More : Int
  Time : Int
  Noise : (List Int)
  Bound : Int
  Variance : Int
  Floor : Int

def enc27 (a : S_api_Chirp) : List SV := [(.int .i64 a.P), (.int .i64 a.Q)]
theorem enc27_len (a : S_api_Chirp) : (enc27 a).length = 2 := rfl
theorem enc27_ones (a : S_api_Chirp) : ones (enc27 a) = true := rfl
def enc3 (a : Int) : List SV := [(.int .i64 a)]
theorem enc3_len (a : Int) : (enc3 a).length = 1 := rfl
theorem enc3_ones (a : Int) : ones (enc3 a) = true := rfl
theorem off45_1 : fieldOff Tryz.prog 45 1 = some 1 := by kernel_rfl
theorem agg43 : aggSize Tryz.prog 43 = some none := by kernel_rfl
theorem lenk43 : lenK Tryz.prog 43 = some .sl := by kernel_rfl
theorem mkk8 : makeK Tryz.prog 8 = none := by kernel_rfl
theorem cal8 : callable Tryz.prog 8 = true := by kernel_rfl
theorem off45_2 : fieldOff Tryz.prog 45 2 = some 2 := by kernel_rfl
theorem agg3 : aggSize Tryz.prog 3 = some none := by kernel_rfl
abbrev ref00_Mod_post (r : Int) : SV → Mem → Prop := fun s _ => s = (.int .i64 r)

def ref00_Mod_1 (F : Nat) (v0 : Int) : Option (Int) :=
  some v0

theorem ref00_Mod_1_ok (F : Nat) : ∀ (v0 : Int) (Fr : Rd) (M : Mem) (r : Int) (hH : Has Fr M []), ref00_Mod_1 F v0 = some r → Run Tryz.prog ⟨⟨14, [], none⟩, []⟩ 16 (ref00_Mod_post r) [(0, (.int .i64 v0))] [itemC Tryz.prog 14 [1, 1, 1, 1, 0] 0, codeC Tryz.prog 14 [1, 1, 1, 1, 1]] M := by
  intro v0 Fr M r hH h
  rw [ref00_Mod_1] at h
  refine Run.opG wantS_none (ex_move rfl) rfl ?_
  refine Run.opG wantS_none (ex_assign rfl) rfl ?_
  refine Run.opsEnd ?_
  cases h
  exact Run.ret Tryz.func14 rfl (res_tmp rfl res_nil) rfl

def ref00_Mod (F : Nat) (a0 a1 : Int) : Option (Int) :=
  bif (decide (a1 < (1 : Int))) then
    some (0 : Int)
  else
    bnd (nz a1) fun z23 =>
    bif (decide ((Int.tmod a0 a1) < (0 : Int))) then
      ref00_Mod_1 F (w64 ((Int.tmod a0 a1) + a1))
    else
      ref00_Mod_1 F (Int.tmod a0 a1)

theorem ref00_Mod_ok (F : Nat) (a0 a1 r : Int) (M : Mem) (h : ref00_Mod F a0 a1 = some r) : CallsM Tryz.prog 14 [(.int .i64 a0), (.int .i64 a1)] M (fun s M' => s = (.int .i64 r) ∧ M' = M) := by
  refine CallsM.plain Tryz.func14 rfl rfl rfl (show Run _ _ _ (ref00_Mod_post r) _ _ _ from ?_)
  rw [ref00_Mod] at h
  have hH := Has.nil (frozen M)
  refine Run.seq (Run.region ?_)
  refine Run.opG wantS_none (ex_assign rfl) rfl ?_
  refine Run.opsEnd (Run.seq (Run.seq (Run.region ?_)))
  refine Run.opG wantS_none (ex_move rfl) rfl ?_
  refine Run.opG wantS_none (ex_lss rfl rfl) rfl ?_
  refine Run.opsEnd ?_
  rcases btf ((decide (a1 < (1 : Int)))) with hc21 | hc21
  · have h := bif_t hc21 h
    refine Run.condT' rfl hc21 ?_
    refine Run.seq (Run.region ?_)
    refine Run.opG wantS_none (ex_assign rfl) rfl ?_
    refine Run.opsEnd ?_
    cases h
    exact Run.ret Tryz.func14 rfl (res_tmp rfl res_nil) rfl
  · have h := bif_f hc21 h
    refine Run.condF' rfl hc21 ?_
    refine Run.skip (Run.seq (Run.region ?_))
    refine Run.opG wantS_none (ex_move rfl) rfl ?_
    refine Run.opG wantS_none (ex_move rfl) rfl ?_
    obtain ⟨z23, hz23, h⟩ := bnd_some h
    refine Run.opG wantS_none (ex_rem' rfl rfl hz23) rfl ?_
    refine Run.opG wantS_none (ex_assign rfl) rfl ?_
    refine Run.opsEnd (Run.seq (Run.seq (Run.region ?_)))
    refine Run.opG wantS_none (ex_move rfl) rfl ?_
    refine Run.opG wantS_none (ex_lss rfl rfl) rfl ?_
    refine Run.opsEnd ?_
    rcases btf ((decide ((Int.tmod a0 a1) < (0 : Int)))) with hc24 | hc24
    · have h := bif_t hc24 h
      refine Run.condT' rfl hc24 ?_
      refine Run.region ?_
      refine Run.opG wantS_none (ex_move rfl) rfl ?_
      refine Run.opG wantS_none (ex_move rfl) rfl ?_
      refine Run.opG wantS_none (ex_add rfl rfl) rfl ?_
      refine Run.opG wantS_none (ex_assign rfl) rfl ?_
      refine Run.opsEnd (Run.seq (Run.region ?_))
      exact Run.pick [0] (ref00_Mod_1_ok F (w64 ((Int.tmod a0 a1) + a1)) _ _ _ hH h)
    · have h := bif_f hc24 h
      refine Run.condF' rfl hc24 ?_
      refine Run.skip (Run.seq (Run.region ?_))
      exact Run.pick [0] (ref00_Mod_1_ok F (Int.tmod a0 a1) _ _ _ hH h)

theorem mkk14 : makeK Tryz.prog 14 = none := by kernel_rfl
theorem cal14 : callable Tryz.prog 14 = true := by kernel_rfl
theorem off45_4 : fieldOff Tryz.prog 45 4 = some 4 := by kernel_rfl
theorem off45_5 : fieldOff Tryz.prog 45 5 = some 5 := by kernel_rfl
theorem agg25 : aggSize Tryz.prog 25 = some none := by kernel_rfl
theorem lenk25 : lenK Tryz.prog 25 = some .sl := by kernel_rfl
theorem off45_0 : fieldOff Tryz.prog 45 0 = some 0 := by kernel_rfl
theorem els43 : elems Tryz.prog 43 = some (.sl 2) := by kernel_rfl
theorem agg27 : aggSize Tryz.prog 27 = some (some 2) := by kernel_rfl
theorem off45_6 : fieldOff Tryz.prog 45 6 = some 6 := by kernel_rfl
theorem off45_7 : fieldOff Tryz.prog 45 7 = some 7 := by kernel_rfl
theorem off45_8 : fieldOff Tryz.prog 45 8 = some 8 := by kernel_rfl
theorem mkk38 : makeK Tryz.prog 38 = none := by kernel_rfl
theorem cal38 : callable Tryz.prog 38 = true := by kernel_rfl
abbrev bank_isFrom_post (r : Bool) : SV → Mem → Prop := fun s _ => s = (.bool r)

def bank_isFrom_1 (F : Nat) (v14 : Bool) : Option (Bool) :=
  some v14

theorem bank_isFrom_1_ok (F : Nat) : ∀ (v14 : Bool) (Fr : Rd) (M : Mem) (r : Bool) (hH : Has Fr M []), bank_isFrom_1 F v14 = some r → Run Tryz.prog ⟨⟨39, [], none⟩, []⟩ 15 (bank_isFrom_post r) [(14, (.bool v14))] [itemC Tryz.prog 39 [1, 0] 8, codeC Tryz.prog 39 [1, 1]] M := by
  intro v14 Fr M r hH h
  rw [bank_isFrom_1] at h
  refine Run.opG wantS_none (ex_assign rfl) rfl ?_
  refine Run.opsEnd ?_
  cases h
  exact Run.ret Tryz.func39 rfl (res_tmp rfl res_nil) rfl

def bank_isFrom (F : Nat) (a0 a1 a2 : Int) : Option (Bool) :=
  bif (decide (a0 ≤ a1)) then
    bank_isFrom_1 F (decide (a1 ≤ a2))
  else
    bank_isFrom_1 F false

theorem bank_isFrom_ok (F : Nat) (a0 a1 a2 : Int) (r : Bool) (M : Mem) (h : bank_isFrom F a0 a1 a2 = some r) : CallsM Tryz.prog 39 [(.int .i64 a0), (.int .i64 a1), (.int .i64 a2)] M (fun s M' => s = (.bool r) ∧ M' = M) := by
  refine CallsM.plain Tryz.func39 rfl rfl rfl (show Run _ _ _ (bank_isFrom_post r) _ _ _ from ?_)
  rw [bank_isFrom] at h
  have hH := Has.nil (frozen M)
  refine Run.seq (Run.region ?_)
  refine Run.opG wantS_none (ex_assign rfl) rfl ?_
  refine Run.opsEnd (Run.seq (Run.region ?_))
  refine Run.opG wantS_none (ex_move rfl) rfl ?_
  refine Run.opG wantS_none (ex_move rfl) rfl ?_
  refine Run.opG wantS_none (ex_leq rfl rfl) rfl ?_
  refine Run.opG wantS_none (ex_move rfl) rfl ?_
  rcases btf ((decide (a0 ≤ a1))) with hc21 | hc21
  · have h := bif_t hc21 h
    refine Run.opG (wantS_yes' rfl rfl hc21) (ex_move rfl) rfl ?_
    refine Run.opG (wantS_yes' rfl rfl hc21) (ex_move rfl) rfl ?_
    refine Run.opG (wantS_yes' rfl rfl hc21) (ex_leq rfl rfl) rfl ?_
    refine Run.opG wantS_none (ex_pickT' rfl hc21 rfl rfl) rfl ?_
    exact Run.pick [14] (bank_isFrom_1_ok F (decide (a1 ≤ a2)) _ _ _ hH h)
  · have h := bif_f hc21 h
    refine Run.no (wantS_not' rfl rfl hc21) rfl ?_
    refine Run.no (wantS_not' rfl rfl hc21) rfl ?_
    refine Run.no (wantS_not' rfl rfl hc21) rfl ?_
    refine Run.opG wantS_none (ex_pickF' rfl hc21 rfl rfl) rfl ?_
    exact Run.pick [14] (bank_isFrom_1_ok F false _ _ _ hH h)

theorem mkk39 : makeK Tryz.prog 39 = none := by kernel_rfl
theorem cal39 : callable Tryz.prog 39 = true := by kernel_rfl
abbrev bank_isLength_post (r : Bool) : SV → Mem → Prop := fun s _ => s = (.bool r)

def bank_isLength (F : Nat) (a0 : Int) : Option (Bool) :=
  bnd (bank_isFrom F (4 : Int) a0 (64 : Int)) fun r22 =>
  some r22

theorem bank_isLength_ok (F : Nat) (a0 : Int) (r : Bool) (M : Mem) (h : bank_isLength F a0 = some r) : CallsM Tryz.prog 36 [(.int .i64 a0)] M (fun s M' => s = (.bool r) ∧ M' = M) := by
  refine CallsM.plain Tryz.func36 rfl rfl rfl (show Run _ _ _ (bank_isLength_post r) _ _ _ from ?_)
  rw [bank_isLength] at h
  have hH := Has.nil (frozen M)
  refine Run.seq (Run.region ?_)
  refine Run.opG wantS_none (ex_assign rfl) rfl ?_
  refine Run.opsEnd (Run.seq (Run.region ?_))
  refine Run.opG wantS_none (ex_move rfl) rfl ?_
  obtain ⟨r22, hr22, h⟩ := bnd_some h
  refine Run.callP wantS_none (ex_call rfl mkk39 cal39) rfl (bank_isFrom_ok F (4 : Int) a0 (64 : Int) _ _ hr22) ?_
  refine Run.opG wantS_none (ex_assign rfl) rfl ?_
  refine Run.opsEnd ?_
  cases h
  exact Run.ret Tryz.func36 rfl (res_tmp rfl res_nil) rfl

theorem mkk36 : makeK Tryz.prog 36 = none := by kernel_rfl
theorem cal36 : callable Tryz.prog 36 = true := by kernel_rfl
theorem off27_0 : fieldOff Tryz.prog 27 0 = some 0 := by kernel_rfl
abbrev bank_isPhase_post (r : Bool) : SV → Mem → Prop := fun s _ => s = (.bool r)

def bank_isPhase (F : Nat) (a0 : Int) : Option (Bool) :=
  bnd (bank_isFrom F (0 : Int) a0 (63 : Int)) fun r22 =>
  some r22

theorem bank_isPhase_ok (F : Nat) (a0 : Int) (r : Bool) (M : Mem) (h : bank_isPhase F a0 = some r) : CallsM Tryz.prog 117 [(.int .i64 a0)] M (fun s M' => s = (.bool r) ∧ M' = M) := by
  refine CallsM.plain Tryz.func117 rfl rfl rfl (show Run _ _ _ (bank_isPhase_post r) _ _ _ from ?_)
  rw [bank_isPhase] at h
  have hH := Has.nil (frozen M)
  refine Run.seq (Run.region ?_)
  refine Run.opG wantS_none (ex_assign rfl) rfl ?_
  refine Run.opsEnd (Run.seq (Run.region ?_))
  refine Run.opG wantS_none (ex_move rfl) rfl ?_
  obtain ⟨r22, hr22, h⟩ := bnd_some h
  refine Run.callP wantS_none (ex_call rfl mkk39 cal39) rfl (bank_isFrom_ok F (0 : Int) a0 (63 : Int) _ _ hr22) ?_
  refine Run.opG wantS_none (ex_assign rfl) rfl ?_
  refine Run.opsEnd ?_
  cases h
  exact Run.ret Tryz.func117 rfl (res_tmp rfl res_nil) rfl

theorem mkk117 : makeK Tryz.prog 117 = none := by kernel_rfl
theorem cal117 : callable Tryz.prog 117 = true := by kernel_rfl
theorem off27_1 : fieldOff Tryz.prog 27 1 = some 1 := by kernel_rfl
abbrev bank_isChirp_post (r : Bool) : SV → Mem → Prop := fun s _ => s = (.bool r)

def bank_isChirp_1 (F : Nat) (v10 : Bool) : Option (Bool) :=
  some v10

theorem bank_isChirp_1_ok (F : Nat) : ∀ (v10 : Bool) (Fr : Rd) (M : Mem) (r : Bool) (hH : Has Fr M []), bank_isChirp_1 F v10 = some r → Run Tryz.prog ⟨⟨71, [], none⟩, []⟩ 11 (bank_isChirp_post r) [(10, (.bool v10))] [itemC Tryz.prog 71 [1, 0] 8, codeC Tryz.prog 71 [1, 1]] M := by
  intro v10 Fr M r hH h
  rw [bank_isChirp_1] at h
  refine Run.opG wantS_none (ex_assign rfl) rfl ?_
  refine Run.opsEnd ?_
  cases h
  exact Run.ret Tryz.func71 rfl (res_tmp rfl res_nil) rfl

def bank_isChirp (F : Nat) (a0 : S_api_Chirp) : Option (Bool) :=
  bnd (bank_isPhase F a0.P) fun r25 =>
  bif r25 then
    bnd (bank_isPhase F a0.Q) fun r29 =>
    bank_isChirp_1 F r29
  else
    bank_isChirp_1 F false

theorem bank_isChirp_ok (F : Nat) (a0 : S_api_Chirp) (r : Bool) (M : Mem) (h : bank_isChirp F a0 = some r) : CallsM Tryz.prog 71 [(.agg [(.int .i64 a0.P), (.int .i64 a0.Q)])] M (fun s M' => s = (.bool r) ∧ M' = M) := by
  refine CallsM.plain Tryz.func71 rfl rfl rfl (show Run _ _ _ (bank_isChirp_post r) _ _ _ from ?_)
  rw [bank_isChirp] at h
  have hH := Has.nil (frozen M)
  refine Run.seq (Run.region ?_)
  refine Run.opX wantS_none rfl (ExG.box rfl rfl hH) ?_
  rintro _ M23 ⟨b22, rfl, hH23⟩
  refine Run.opG wantS_none (ex_assign rfl) rfl ?_
  refine Run.opsEnd (Run.seq (Run.region ?_))
  refine Run.opG wantS_none (ex_fieldAddr rfl off27_0) rfl ?_
  refine Run.opG wantS_none (ex_load1 rfl (hH23.cells (i := 0) rfl 0 rfl) rdLe_rfl agg3) rfl ?_
  obtain ⟨r25, hr25, h⟩ := bnd_some h
  refine Run.callP wantS_none (ex_call rfl mkk117 cal117) rfl (bank_isPhase_ok F a0.P _ _ hr25) ?_
  refine Run.opG wantS_none (ex_move rfl) rfl ?_
  rcases btf (r25) with hc27 | hc27
  · have h := bif_t hc27 h
    refine Run.opG (wantS_yes' rfl rfl hc27) (ex_fieldAddr rfl off27_1) rfl ?_
    refine Run.opG (wantS_yes' rfl rfl hc27) (ex_load1 rfl (hH23.cells (i := 0) rfl 1 rfl) rdLe_rfl agg3) rfl ?_
    obtain ⟨r29, hr29, h⟩ := bnd_some h
    refine Run.callP (wantS_yes' rfl rfl hc27) (ex_call rfl mkk117 cal117) rfl (bank_isPhase_ok F a0.Q _ _ hr29) ?_
    refine Run.opG wantS_none (ex_pickT' rfl hc27 rfl rfl) rfl ?_
    exact Run.pick [10] (bank_isChirp_1_ok F r29 _ _ _ (hH23.pick [] rfl rfl) h)
  · have h := bif_f hc27 h
    refine Run.no (wantS_not' rfl rfl hc27) rfl ?_
    refine Run.no (wantS_not' rfl rfl hc27) rfl ?_
    refine Run.no (wantS_not' rfl rfl hc27) rfl ?_
    refine Run.opG wantS_none (ex_pickF' rfl hc27 rfl rfl) rfl ?_
    exact Run.pick [10] (bank_isChirp_1_ok F false _ _ _ (hH23.pick [] rfl rfl) h)

theorem mkk71 : makeK Tryz.prog 71 = none := by kernel_rfl
theorem cal71 : callable Tryz.prog 71 = true := by kernel_rfl
abbrev bank_CheckChirp_post (r : Int) : SV → Mem → Prop := fun s _ => s = (.int .i64 r)

def bank_CheckChirp_1 (F : Nat) (v12 : Bool) : Option (Int) :=
  bif v12 then
    some (70 : Int)
  else
    some (0 : Int)

theorem bank_CheckChirp_1_ok (F : Nat) : ∀ (v12 : Bool) (Fr : Rd) (M : Mem) (r : Int) (hH : Has Fr M []), bank_CheckChirp_1 F v12 = some r → Run Tryz.prog ⟨⟨25, [], none⟩, []⟩ 13 (bank_CheckChirp_post r) [(12, (.bool v12))] [codeC Tryz.prog 25 [1, 0, 1], codeC Tryz.prog 25 [1, 1]] M := by
  intro v12 Fr M r hH h
  rw [bank_CheckChirp_1] at h
  rcases btf (v12) with hc28 | hc28
  · have h := bif_t hc28 h
    refine Run.condT' rfl hc28 ?_
    refine Run.seq (Run.region ?_)
    refine Run.opG wantS_none (ex_assign rfl) rfl ?_
    refine Run.opsEnd ?_
    cases h
    exact Run.ret Tryz.func25 rfl (res_tmp rfl res_nil) rfl
  · have h := bif_f hc28 h
    refine Run.condF' rfl hc28 ?_
    refine Run.skip (Run.seq (Run.region ?_))
    refine Run.opG wantS_none (ex_assign rfl) rfl ?_
    refine Run.opsEnd ?_
    cases h
    exact Run.ret Tryz.func25 rfl (res_tmp rfl res_nil) rfl

def bank_CheckChirp (F : Nat) (a0 : Int) (a1 : S_api_Chirp) : Option (Int) :=
  bnd (bank_isLength F a0) fun r25 =>
  bif (!r25) then
    bank_CheckChirp_1 F true
  else
    bnd (bank_isChirp F a1) fun r30 =>
    bank_CheckChirp_1 F (!r30)

theorem bank_CheckChirp_ok (F : Nat) (a0 : Int) (a1 : S_api_Chirp) (r : Int) (M : Mem) (h : bank_CheckChirp F a0 a1 = some r) : CallsM Tryz.prog 25 [(.int .i64 a0), (.agg [(.int .i64 a1.P), (.int .i64 a1.Q)])] M (fun s M' => s = (.int .i64 r) ∧ M' = M) := by
  refine CallsM.plain Tryz.func25 rfl rfl rfl (show Run _ _ _ (bank_CheckChirp_post r) _ _ _ from ?_)
  rw [bank_CheckChirp] at h
  have hH := Has.nil (frozen M)
  refine Run.seq (Run.region ?_)
  refine Run.opX wantS_none rfl (ExG.box rfl rfl hH) ?_
  rintro _ M23 ⟨b22, rfl, hH23⟩
  refine Run.opG wantS_none (ex_assign rfl) rfl ?_
  refine Run.opsEnd (Run.seq (Run.seq (Run.region ?_)))
  refine Run.opG wantS_none (ex_move rfl) rfl ?_
  obtain ⟨r25, hr25, h⟩ := bnd_some h
  refine Run.callP wantS_none (ex_call rfl mkk36 cal36) rfl (bank_isLength_ok F a0 _ _ hr25) ?_
  refine Run.opG wantS_none (ex_not rfl) rfl ?_
  refine Run.opG wantS_none (ex_move rfl) rfl ?_
  rcases btf ((!r25)) with hc27 | hc27
  · have h := bif_t hc27 h
    refine Run.no (wantS_not' rfl rfl hc27) rfl ?_
    refine Run.no (wantS_not' rfl rfl hc27) rfl ?_
    refine Run.no (wantS_not' rfl rfl hc27) rfl ?_
    refine Run.opG wantS_none (ex_pickT' rfl hc27 rfl rfl) rfl ?_
    refine Run.opsEnd ?_
    exact Run.pick [12] (bank_CheckChirp_1_ok F true _ _ _ (hH23.pick [] rfl rfl) h)
  · have h := bif_f hc27 h
    refine Run.opG (wantS_yes' rfl rfl hc27) (ex_loadA rfl (hH23.cells (i := 0) rfl 0 rfl) rdLe_rfl agg27 rfl rfl rfl) rfl ?_
    obtain ⟨r30, hr30, h⟩ := bnd_some h
    refine Run.callP (wantS_yes' rfl rfl hc27) (ex_call rfl mkk71 cal71) rfl (bank_isChirp_ok F a1 _ _ hr30) ?_
    refine Run.opG (wantS_yes' rfl rfl hc27) (ex_not rfl) rfl ?_
    refine Run.opG wantS_none (ex_pickF' rfl hc27 rfl rfl) rfl ?_
    refine Run.opsEnd ?_
    exact Run.pick [12] (bank_CheckChirp_1_ok F (!r30) _ _ _ (hH23.pick [] rfl rfl) h)

theorem mkk25 : makeK Tryz.prog 25 = none := by kernel_rfl
theorem cal25 : callable Tryz.prog 25 = true := by kernel_rfl
theorem mkk26 : makeK Tryz.prog 26 = none := by kernel_rfl
theorem cal26 : callable Tryz.prog 26 = true := by kernel_rfl
theorem zer105 : zerosOf Tryz.prog 105 = some [(.int .i64 0), (.int .i64 0), (.int .i64 0), (.int .i64 0), (.int .i64 0), (.int .i64 0), (.int .i64 0), (.int .i64 0), (.int .i64 0), (.int .i64 0), (.int .i64 0), (.int .i64 0), (.int .i64 0), (.int .i64 0), (.int .i64 0), (.int .i64 0), (.int .i64 0), (.int .i64 0), (.int .i64 0), (.int .i64 0), (.int .i64 0), (.int .i64 0), (.int .i64 0), (.int .i64 0), (.int .i64 0), (.int .i64 0), (.int .i64 0), (.int .i64 0), (.int .i64 0), (.int .i64 0), (.int .i64 0), (.int .i64 0), (.int .i64 0), (.int .i64 0), (.int .i64 0), (.int .i64 0), (.int .i64 0), (.int .i64 0), (.int .i64 0), (.int .i64 0), (.int .i64 0), (.int .i64 0), (.int .i64 0), (.int .i64 0), (.int .i64 0), (.int .i64 0), (.int .i64 0), (.int .i64 0), (.int .i64 0), (.int .i64 0), (.int .i64 0), (.int .i64 0), (.int .i64 0), (.int .i64 0), (.int .i64 0), (.int .i64 0), (.int .i64 0), (.int .i64 0), (.int .i64 0), (.int .i64 0), (.int .i64 0), (.int .i64 0), (.int .i64 0), (.int .i64 0), (.int .i64 0), (.int .i64 0)] := by kernel_rfl
theorem pls105 : placesOf Tryz.prog 105 = some (.st [(0, 64), (64, 1), (65, 1)]) := by kernel_rfl
theorem off105_0 : fieldOff Tryz.prog 105 0 = some 0 := by kernel_rfl
theorem mkk72 : makeK Tryz.prog 72 = none := by kernel_rfl
theorem cal72 : callable Tryz.prog 72 = true := by kernel_rfl
def tab3 : List Int := [0, 12, 25, 37, 49, 60, 71, 81, 90, 98, 106, 112, 117, 122, 125, 126, 127]
theorem els191 : elems Tryz.prog 191 = some (.arr 17 1) := by kernel_rfl
abbrev bank_table_post (r : Int) : SV → Mem → Prop := fun s _ => s = (.int .i64 r)

def bank_table : Nat → Int → Option (Int)
  | 0, _ => none
  | F + 1, a0 =>
    bif (decide ((32 : Int) ≤ a0)) then
      bnd ((bank_table F) (w64 (a0 - (32 : Int)))) fun r27 =>
      some (w64 (-r27))
    else
      bif (decide ((w64 (Int.tdiv (32 : Int) (2 : Int))) < a0)) then
        bnd (inA (w64 ((32 : Int) - a0)) 17) fun o31 =>
        bnd (tab3[o31]?) fun x31 =>
        some x31
      else
        bnd (inA a0 17) fun o33 =>
        bnd (tab3[o33]?) fun x33 =>
        some x33

theorem bank_table_ok : ∀ (F : Nat), ∀ (a0 r : Int) (M : Mem) (hfx : FixIn M fixes) (h : bank_table F a0 = some r), CallsM Tryz.prog 72 [(.int .i64 a0)] M (fun s M' => s = (.int .i64 r) ∧ M' = M) := by
  intro F
  induction F with
  | zero =>
    intro a0 r M hfx h
    simp [bank_table] at h
  | succ F ih =>
    intro a0 r M hfx h
    refine CallsM.plain Tryz.func72 rfl rfl rfl (show Run _ _ _ (bank_table_post r) _ _ _ from ?_)
    rw [bank_table] at h
    have hH : Has (ro (frozen M)) (frozen M) [tb0, tb1, tb2, tb3] := Has.ofFix hfx.frozen
    refine Run.seq (Run.region ?_)
    refine Run.opG wantS_none (ex_assign rfl) rfl ?_
    refine Run.opsEnd (Run.seq (Run.region ?_))
    refine Run.opG wantS_none (ex_assign rfl) rfl ?_
    refine Run.opsEnd (Run.seq (Run.block (Run.seq (Run.region ?_))))
    refine Run.opG wantS_none (ex_move rfl) rfl ?_
    refine Run.opG wantS_none (ex_move rfl) rfl ?_
    refine Run.opG wantS_none (ex_geq rfl rfl) rfl ?_
    refine Run.opG wantS_none (ex_assign rfl) rfl ?_
    refine Run.opsEnd ?_
    rcases btf ((decide ((32 : Int) ≤ a0))) with hc25 | hc25
    · have h := bif_t hc25 h
      refine Run.condT' rfl hc25 ?_
      refine Run.seq (Run.region ?_)
      refine Run.opG wantS_none (ex_move rfl) rfl ?_
      refine Run.opG wantS_none (ex_move rfl) rfl ?_
      refine Run.opG wantS_none (ex_sub rfl rfl) rfl ?_
      obtain ⟨r27, hr27, h⟩ := bnd_some h
      refine Run.callP wantS_none (ex_call rfl mkk72 cal72) rfl (ih (w64 (a0 - (32 : Int))) _ _ (fixH hH (List.mem_of_getElem? (i := 0) rfl) (List.mem_of_getElem? (i := 1) rfl) (List.mem_of_getElem? (i := 2) rfl) (List.mem_of_getElem? (i := 3) rfl)) hr27) ?_
      refine Run.opG wantS_none (ex_neg rfl) rfl ?_
      refine Run.opG wantS_none (ex_assign rfl) rfl ?_
      refine Run.opsEnd ?_
      cases h
      exact Run.ret Tryz.func72 rfl (res_tmp rfl res_nil) rfl
    · have h := bif_f hc25 h
      refine Run.condF' rfl hc25 ?_
      refine Run.seq (Run.region ?_)
      refine Run.opG wantS_none (ex_move rfl) rfl ?_
      refine Run.opG wantS_none (ex_move rfl) rfl ?_
      refine Run.opG wantS_none (ex_quo rfl rfl (by decide)) rfl ?_
      refine Run.opG wantS_none (ex_gtr rfl rfl) rfl ?_
      refine Run.opG wantS_none (ex_assign rfl) rfl ?_
      refine Run.opsEnd ?_
      rcases btf ((decide ((w64 (Int.tdiv (32 : Int) (2 : Int))) < a0))) with hc29 | hc29
      · have h := bif_t hc29 h
        refine Run.condT' rfl hc29 ?_
        refine Run.seq (Run.region ?_)
        refine Run.opG wantS_none (ex_move rfl) rfl ?_
        refine Run.opG wantS_none (ex_move rfl) rfl ?_
        refine Run.opG wantS_none (ex_sub rfl rfl) rfl ?_
        obtain ⟨o31, ho31, h⟩ := bnd_some h
        obtain ⟨x31, hx31, h⟩ := bnd_some h
        refine Run.opG wantS_none (ex_elG (c := intCells .i64 tab3) hH (i := 3) rfl rfl (inA_natIn ho31) els191) rfl ?_
        refine Run.opG wantS_none (ex_load1 rfl (fix_at (zs := tab3) hH (i := 3) rfl hx31) rdLe_rfl agg3) rfl ?_
        refine Run.opG wantS_none (ex_assign rfl) rfl ?_
        refine Run.opsEnd ?_
        cases h
        exact Run.ret Tryz.func72 rfl (res_tmp rfl res_nil) rfl
      · have h := bif_f hc29 h
        refine Run.condF' rfl hc29 ?_
        refine Run.skip (Run.inBlock (Run.seq (Run.region ?_)))
        refine Run.opG wantS_none (ex_move rfl) rfl ?_
        obtain ⟨o33, ho33, h⟩ := bnd_some h
        obtain ⟨x33, hx33, h⟩ := bnd_some h
        refine Run.opG wantS_none (ex_elG (c := intCells .i64 tab3) hH (i := 3) rfl rfl (inA_natIn ho33) els191) rfl ?_
        refine Run.opG wantS_none (ex_load1 rfl (fix_at (zs := tab3) hH (i := 3) rfl hx33) rdLe_rfl agg3) rfl ?_
        refine Run.opG wantS_none (ex_assign rfl) rfl ?_
        refine Run.opsEnd ?_
        cases h
        exact Run.ret Tryz.func72 rfl (res_tmp rfl res_nil) rfl

theorem els103 : elems Tryz.prog 103 = some (.arr 64 1) := by kernel_rfl
theorem sz3 : szOf Tryz.prog 3 = some 1 := by kernel_rfl
theorem plan26_1_1_0_1_0_0_1_1_0_0_1 : planOf Tryz.prog (opsC (atC Tryz.prog 26 [1, 1, 0, 1, 0, 0, 1, 1, 0, 0, 1])) = some [.fl 0, .fl 1, .fl 2, .fl 3, .fl 4, .fl 5, .fl 6, .fl 7, .fl 8, .fl 9, .fl 10, .fl 11, .fl 12, .fl 13, .fl 15, .fl 16, .an 14 [16, 15, 1, 0], .fl 17, .an 18 [], .sync] := by kernel_rfl
theorem off105_1 : fieldOff Tryz.prog 105 1 = some 64 := by kernel_rfl
theorem slk103 : slK Tryz.prog 103 = some (.arr 64 1) := by kernel_rfl
theorem plan27_1_0 : planOf Tryz.prog (opsC (atC Tryz.prog 27 [1, 0])) = some [.fl 0, .fl 1, .fl 2, .fl 3, .fl 4, .fl 5, .fl 6, .fl 7, .fl 8, .sync] := by kernel_rfl
abbrev bank_wave_samples_post (b : Pos) (r : List Int) : SV → Mem → Prop := fun s _ => s = .slice b 0 r.length 64

def bank_wave_samples (F : Nat) (l : List Int) : Option (List Int) :=
  bnd (l[(64 : Nat)]?) fun x21 =>
  bnd (cutA 64 l 0 x21) fun l22 =>
  some l22

theorem bank_wave_samples_ok (F : Nat) {l r : List Int} {b : Pos} {Fr : Rd} {H : List Ent} {i : Nat} {M : Mem} (hH0 : Has Fr M H) (hi : H[i]? = some (.obj b (.row 105 .whole (l.flatMap enc3)))) (h : bank_wave_samples F l = some r) : CallsM Tryz.prog 27 [.ptr b 0] M (fun s M' => s = .slice b 0 r.length 64 ∧ M' = M) := by
  have hl : ∀ {j : Nat} {a : Int}, l[j]? = some a → PtrTo (ro (frozen M)) (.ptr b j) (enc3 a) := fun h => (hH0.arrRd hi h enc3_len).mono (rdLe_frozen M)
  refine CallsM.sliceOf Tryz.func27 rfl rfl (hH0.get hi).1.lt (show Run _ _ _ (bank_wave_samples_post b r) _ _ _ from ?_)
  rw [bank_wave_samples] at h
  have hH := Has.nil (frozen M)
  refine Run.seq (Run.region ?_)
  refine Run.opG wantS_none (ex_assign rfl) rfl ?_
  refine Run.opsEnd (Run.seq ?_)
  refine Run.drawG plan27_1_0 ?_
  refine DrawG.fl rfl (ev_ex wantS_none (ex_move rfl)) rfl ?_
  refine DrawG.fl rfl (ev_ex wantS_none (ex_nilP rfl)) rfl ?_
  refine DrawG.fl rfl (ev_ex wantS_none (ex_fieldAddr rfl off105_0)) rfl ?_
  refine DrawG.fl rfl (ev_ex wantS_none (ex_move rfl)) rfl ?_
  refine DrawG.fl rfl (ev_ex wantS_none (ex_nilP rfl)) rfl ?_
  refine DrawG.fl rfl (ev_ex wantS_none (ex_fieldAddr rfl off105_1)) rfl ?_
  obtain ⟨x21, hx21, h⟩ := bnd_some h
  refine DrawG.fl rfl (ev_ex wantS_none (ex_load1 rfl (hH.ptrF (hl hx21)) rdLe_rfl agg3)) rfl ?_
  obtain ⟨l22, hl22, h⟩ := bnd_some h
  refine DrawG.fl rfl (ev_ex wantS_none (ex_slX rfl argO_none (argO_some rfl) (arr_cutV hl22 slk103))) rfl ?_
  refine DrawG.fl rfl (ev_ex wantS_none (ex_assign rfl)) rfl ?_
  refine DrawG.sync ?_
  refine DrawG.nil ?_
  cases h
  exact Run.ret Tryz.func27 rfl (res_tmp rfl res_nil) rfl

theorem bank_wave_samples_slc (F : Nat) {l r : List Int} {b : Pos} {Fr : Rd} {H : List Ent} {i : Nat} {M : Mem} (hH0 : Has Fr M H) (hi : H[i]? = some (.obj b (.row 105 .whole (l.flatMap enc3)))) (h : bank_wave_samples F l = some r) : Slc (rd M) 1 (FlatR enc3) (.slice b 0 r.length 64) r := by
  rw [bank_wave_samples] at h
  obtain ⟨_, _, h⟩ := bnd_some h
  obtain ⟨_, h1, h⟩ := bnd_some h
  cases h
  exact arr_slcH hH0 hi h1 enc3_len

theorem mkk27 : makeK Tryz.prog 27 = none := by kernel_rfl
theorem cal27 : callable Tryz.prog 27 = true := by kernel_rfl
theorem slk25 : slK Tryz.prog 25 = some (.sl 1) := by kernel_rfl
theorem els25 : elems Tryz.prog 25 = some (.sl 1) := by kernel_rfl
theorem plan73_1_1_0 : planOf Tryz.prog (opsC (atC Tryz.prog 73 [1, 1, 0])) = some [.fl 0, .fl 1, .fl 2, .fl 3, .fl 4, .fl 5, .an 6 [5, 4, 3], .an 7 [], .sync] := by kernel_rfl
abbrev bank_product_post (r : Int) : SV → Mem → Prop := fun s _ => s = (.int .i64 r)

def bank_product_1 (F : Nat) : Nat → (List Int) → Int → (List Int) → Int → Int → Option (Int)
  | 0, _, _, _, _, _ => none
  | N + 1, v1, v6, v20, v21, v22 =>
    bif (decide (v22 < v21)) then
      bnd (idx v20 v22) fun x25 =>
      bnd (idx v1 v22) fun x27 =>
      (bank_product_1 F N) v1 (w64 (v6 + (w64 (x25 * x27)))) v20 v21 (w64 (v22 + (1 : Int)))
    else
      some v6

theorem bank_product_1_ok (F : Nat) : ∀ (N : Nat), ∀ (v1 : (List Int)) (v6 : Int) (v20 : (List Int)) (v21 v22 : Int) (sv1 sv20 : SV) (Fr : Rd) (M : Mem) (r : Int) (hv1 : Slc Fr 1 (FlatR enc3) sv1 v1) (hv20 : Slc Fr 1 (FlatR enc3) sv20 v20) (hH : Has Fr M []), bank_product_1 F N v1 v6 v20 v21 v22 = some r → Run Tryz.prog ⟨⟨73, [], none⟩, []⟩ 37 (bank_product_post r) [(1, sv1), (6, (.int .i64 v6)), (20, sv20), (21, (.int .i64 v21)), (22, (.int .i64 v22))] [codeC Tryz.prog 73 [1, 1, 1, 1, 0, 1, 0, 0], loopC Tryz.prog 73 [1, 1, 1, 1, 0, 1, 0, 0], .inBlock 0, codeC Tryz.prog 73 [1, 1, 1, 1, 1]] M := by
  intro N
  induction N with
  | zero =>
    intro v1 v6 v20 v21 v22 sv1 sv20 Fr M r hv1 hv20 hH h
    simp [bank_product_1] at h
  | succ N ih =>
    intro v1 v6 v20 v21 v22 sv1 sv20 Fr M r hv1 hv20 hH h
    rw [bank_product_1] at h
    refine Run.seq (Run.region ?_)
    refine Run.opG wantS_none (ex_lss rfl rfl) rfl ?_
    refine Run.opsEnd (Run.seq ?_)
    rcases btf ((decide (v22 < v21))) with hc23 | hc23
    · have h := bif_t hc23 h
      refine Run.condT' rfl hc23 ?_
      refine Run.skip (Run.seq (Run.block (Run.seq (Run.region ?_))))
      refine Run.opG wantS_none (ex_move rfl) rfl ?_
      obtain ⟨x25, hx25, h⟩ := bnd_some h
      obtain ⟨p25, o25, _, hx25, hp25, rfl⟩ := sl_elem (P := Tryz.prog) (t := 25) (kk := .i64) hv20 hx25 els25
      refine Run.opG wantS_none (ex_elX rfl rfl hx25) rfl ?_
      refine Run.opG wantS_none (ex_load1 rfl (hH.ptrF hp25) rdLe_rfl agg3) rfl ?_
      refine Run.opG wantS_none (ex_assign rfl) rfl ?_
      refine Run.opG wantS_none (ex_assign rfl) rfl ?_
      refine Run.opsEnd (Run.region ?_)
      refine Run.opG wantS_none (ex_move rfl) rfl ?_
      refine Run.opG wantS_none (ex_move rfl) rfl ?_
      refine Run.opG wantS_none (ex_move rfl) rfl ?_
      refine Run.opG wantS_none (ex_move rfl) rfl ?_
      obtain ⟨x27, hx27, h⟩ := bnd_some h
      obtain ⟨p27, o27, _, hx27, hp27, rfl⟩ := sl_elem (P := Tryz.prog) (t := 25) (kk := .i64) hv1 hx27 els25
      refine Run.opG wantS_none (ex_elX rfl rfl hx27) rfl ?_
      refine Run.opG wantS_none (ex_load1 rfl (hH.ptrF hp27) rdLe_rfl agg3) rfl ?_
      refine Run.opG wantS_none (ex_mul rfl rfl) rfl ?_
      refine Run.opG wantS_none (ex_add rfl rfl) rfl ?_
      refine Run.opG wantS_none (ex_assign rfl) rfl ?_
      refine Run.opsEnd (Run.inBlock (Run.region ?_))
      refine Run.opG wantS_none (ex_add rfl rfl) rfl ?_
      refine Run.opG wantS_none (ex_move rfl) rfl ?_
      refine Run.opsEnd (Run.inLoop ?_)
      exact Run.pick [1, 6, 20, 21, 22] (ih v1 (w64 (v6 + (w64 (x25 * x27)))) v20 v21 (w64 (v22 + (1 : Int))) sv1 sv20 _ _ _ hv1 hv20 hH h)
    · have h := bif_f hc23 h
      refine Run.condF' rfl hc23 ?_
      refine Run.exit rfl (Run.seq (Run.region ?_))
      refine Run.opG wantS_none (ex_move rfl) rfl ?_
      refine Run.opG wantS_none (ex_assign rfl) rfl ?_
      refine Run.opsEnd ?_
      cases h
      exact Run.ret Tryz.func73 rfl (res_tmp rfl res_nil) rfl

def bank_product (F : Nat) (a0 a1 : (List Int)) : Option (Int) :=
  bnd (sub a0 0 (min (a0.length : Int) (a1.length : Int))) fun l21 =>
  bnd (sub a1 0 (min (a0.length : Int) (a1.length : Int))) fun l22 =>
  bank_product_1 F F l22 (0 : Int) l21 (l21.length : Int) (0 : Int)

theorem bank_product_ok (F : Nat) (a0 a1 : (List Int)) (s0 s1 : SV) (r : Int) (M : Mem) (hs0 : Slc (rd M) 1 (FlatR enc3) s0 a0) (hs1 : Slc (rd M) 1 (FlatR enc3) s1 a1) (h : bank_product F a0 a1 = some r) : CallsM Tryz.prog 73 [s0, s1] M (fun s M' => s = (.int .i64 r) ∧ M' = M) := by
  refine CallsM.plain Tryz.func73 rfl rfl rfl (show Run _ _ _ (bank_product_post r) _ _ _ from ?_)
  rw [bank_product] at h
  replace hs0 := hs0.mono (rdLe_frozen M) (fun _ _ h => h)
  replace hs1 := hs1.mono (rdLe_frozen M) (fun _ _ h => h)
  have hH := Has.nil (frozen M)
  refine Run.seq (Run.region ?_)
  refine Run.opG wantS_none (ex_assign rfl) rfl ?_
  refine Run.opsEnd (Run.seq (Run.region ?_))
  refine Run.opG wantS_none (ex_move rfl) rfl ?_
  refine Run.opG wantS_none (ex_len' rfl hs0 lenk25) rfl ?_
  refine Run.opG wantS_none (ex_move rfl) rfl ?_
  refine Run.opG wantS_none (ex_len' rfl hs1 lenk25) rfl ?_
  refine Run.opG wantS_none (ex_min rfl rfl) rfl ?_
  refine Run.opG wantS_none (ex_assign rfl) rfl ?_
  refine Run.opsEnd (Run.seq ?_)
  refine Run.drawG plan73_1_1_0 ?_
  refine DrawG.fl rfl (ev_ex wantS_none (ex_move rfl)) rfl ?_
  refine DrawG.fl rfl (ev_ex wantS_none (ex_move rfl)) rfl ?_
  obtain ⟨l21, hl21, h⟩ := bnd_some h
  obtain ⟨s21, hx21, hs21⟩ := sl_subH (P := Tryz.prog) (t := 25) (k0 := .i64) hs0 hl21 slk25
  refine DrawG.fl rfl (ev_ex wantS_none (ex_slX rfl (argO_none) (argO_some rfl) hx21)) rfl ?_
  refine DrawG.fl rfl (ev_ex wantS_none (ex_move rfl)) rfl ?_
  refine DrawG.fl rfl (ev_ex wantS_none (ex_move rfl)) rfl ?_
  obtain ⟨l22, hl22, h⟩ := bnd_some h
  obtain ⟨s22, hx22, hs22⟩ := sl_subH (P := Tryz.prog) (t := 25) (k0 := .i64) hs1 hl22 slk25
  refine DrawG.fl rfl (ev_ex wantS_none (ex_slX rfl (argO_none) (argO_some rfl) hx22)) rfl ?_
  refine DrawG.val rfl wantS_none (ex_assign rfl) rfl (st_cons rfl (ev_ex wantS_none (ex_slX rfl (argO_none) (argO_some rfl) hx22)) rfl rfl (slc_self hs22) (st_cons rfl (ev_ex wantS_none (ex_move rfl)) rfl rfl rfl (st_cons rfl (ev_ex wantS_none (ex_move rfl)) rfl rfl (slc_self hs1) st_nil))) ?_
  refine DrawG.val rfl wantS_none (ex_assign rfl) rfl st_nil ?_
  refine DrawG.sync ?_
  refine DrawG.nil ?_
  refine Run.seq (Run.region ?_)
  refine Run.opG wantS_none (ex_assign rfl) rfl ?_
  refine Run.opsEnd (Run.seq (Run.seq (Run.region ?_)))
  refine Run.opG wantS_none (ex_move rfl) rfl ?_
  refine Run.opG wantS_none (ex_len' rfl hs21 lenk25) rfl ?_
  refine Run.opG wantS_none (ex_move rfl) rfl ?_
  refine Run.opsEnd (Run.block (Run.loop ?_))
  exact Run.pick [1, 6, 20, 21, 22] (bank_product_1_ok F F l22 (0 : Int) l21 (l21.length : Int) (0 : Int) s22 s21 _ _ _ hs22 hs21 hH h)

theorem mkk73 : makeK Tryz.prog 73 = none := by kernel_rfl
theorem cal73 : callable Tryz.prog 73 = true := by kernel_rfl
theorem off105_2 : fieldOff Tryz.prog 105 2 = some 65 := by kernel_rfl
theorem agg103 : aggSize Tryz.prog 103 = some (some 64) := by kernel_rfl
theorem zra103 : zerosOf Tryz.prog 103 = some ((List.replicate 64 (0 : Int)).flatMap enc3) := by kernel_rfl
theorem pls103 : placesOf Tryz.prog 103 = some (.ar 1) := by kernel_rfl
theorem agk103 : aggK Tryz.prog 103 = some (.ar 64 3 1) := by kernel_rfl
theorem aeq103 : aggEq Tryz.prog 103 = false := by kernel_rfl
theorem agk3 : aggK Tryz.prog 3 = some .int := by kernel_rfl
abbrev bank_wave_isSilent_post (r : Bool) : SV → Mem → Prop := fun s _ => s = (.bool r)

def bank_wave_isSilent (F : Nat) (a0 : (List Int)) : Option (Bool) :=
  bnd (parL a0 0 64) fun l24 =>
  some (decide (l24 = (List.replicate 64 (0 : Int))))

theorem bank_wave_isSilent_ok (F : Nat) (a0 : (List Int)) (s0 : SV) (r : Bool) (M : Mem) (hs0 : RopTo (rd M) s0 (a0.flatMap enc3)) (h : bank_wave_isSilent F a0 = some r) : CallsM Tryz.prog 75 [s0] M (fun s M' => s = (.bool r) ∧ M' = M) := by
  refine CallsM.plain Tryz.func75 rfl rfl rfl (show Run _ _ _ (bank_wave_isSilent_post r) _ _ _ from ?_)
  rw [bank_wave_isSilent] at h
  replace hs0 := hs0.mono (rdLe_frozen M)
  have hH := Has.nil (frozen M)
  refine Run.seq (Run.region ?_)
  refine Run.opG wantS_none (ex_assign rfl) rfl ?_
  refine Run.opsEnd (Run.seq (Run.region ?_))
  refine Run.opG wantS_none (ex_move rfl) rfl ?_
  obtain ⟨b22, hq22, hr22⟩ := rop_open hs0
  refine Run.opG wantS_none (ex_nilR rfl hq22) rfl ?_
  refine Run.opG wantS_none (ex_fieldAddr rfl off105_0) rfl ?_
  obtain ⟨l24, hl24, h⟩ := bnd_some h
  have hnl24 := parL_len hl24
  refine Run.opG wantS_none (ex_loadArrR rfl hr22 (rdLe_roF hH) hl24 enc3_len agg103) rfl ?_
  refine Run.opG wantS_none (ex_buildA (r := (List.replicate 64 (0 : Int)).flatMap enc3) rfl zra103 pls103 rfl) rfl ?_
  refine Run.opG wantS_none (ex_eqlA rfl rfl aeq103 (eqA_ints agk103 (fun _ => rfl) agg3 agk3 hnl24 List.length_replicate)) rfl ?_
  refine Run.opG wantS_none (ex_assign rfl) rfl ?_
  refine Run.opsEnd ?_
  cases h
  exact Run.ret Tryz.func75 rfl (res_tmp rfl res_nil) rfl

theorem mkk75 : makeK Tryz.prog 75 = none := by kernel_rfl
theorem cal75 : callable Tryz.prog 75 = true := by kernel_rfl
theorem mkk88 : makeK Tryz.prog 88 = none := by kernel_rfl
theorem cal88 : callable Tryz.prog 88 = true := by kernel_rfl
theorem uvk3_163 : uvK Tryz.prog 3 163 = none := by kernel_rfl
theorem cvk3_163 : cvK Tryz.prog 3 163 = some (.int .u64) := by kernel_rfl
theorem uvk163_3 : uvK Tryz.prog 163 3 = none := by kernel_rfl
theorem cvk163_3 : cvK Tryz.prog 163 3 = some (.int .i64) := by kernel_rfl
theorem mkk89 : makeK Tryz.prog 89 = none := by kernel_rfl
theorem cal89 : callable Tryz.prog 89 = true := by kernel_rfl
theorem agg72 : aggSize Tryz.prog 72 = some none := by kernel_rfl
theorem wha103 : whole Tryz.prog 103 = some (.arr 64 3 1) := by kernel_rfl
abbrev bank_wave_reach_post (r : Int) : SV → Mem → Prop := fun s _ => s = (.int .i64 r)

def bank_wave_reach_1 (F : Nat) : Nat → Int → (List Int) → Int → Option (Int)
  | 0, _, _, _ => none
  | N + 1, v3, v9, v10 =>
    bif (decide (v10 < (64 : Int))) then
      bnd (inA v10 64) fun o27 =>
      bnd (v9[(o27 : Nat)]?) fun x27 =>
      (bank_wave_reach_1 F N) (w64 (v3 + (max x27 (w64 (-x27))))) v9 (w64 (v10 + (1 : Int)))
    else
      some v3

theorem bank_wave_reach_1_ok (F : Nat) : ∀ (N : Nat), ∀ (v3 : Int) (v9 : (List Int)) (v10 : Int) (Fr : Rd) (M : Mem) (r : Int) (hH : Has Fr M []), bank_wave_reach_1 F N v3 v9 v10 = some r → Run Tryz.prog ⟨⟨91, [], none⟩, []⟩ 21 (bank_wave_reach_post r) [(3, (.int .i64 v3)), (9, (.agg (v9.flatMap enc3))), (10, (.int .i64 v10))] [codeC Tryz.prog 91 [1, 1, 0, 1, 0, 0], loopC Tryz.prog 91 [1, 1, 0, 1, 0, 0], .inBlock 0, codeC Tryz.prog 91 [1, 1, 1]] M := by
  intro N
  induction N with
  | zero =>
    intro v3 v9 v10 Fr M r hH h
    simp [bank_wave_reach_1] at h
  | succ N ih =>
    intro v3 v9 v10 Fr M r hH h
    rw [bank_wave_reach_1] at h
    refine Run.seq (Run.region ?_)
    refine Run.opG wantS_none (ex_lss rfl rfl) rfl ?_
    refine Run.opsEnd (Run.seq ?_)
    rcases btf ((decide (v10 < (64 : Int)))) with hc25 | hc25
    · have h := bif_t hc25 h
      refine Run.condT' rfl hc25 ?_
      refine Run.skip (Run.seq (Run.block (Run.seq (Run.region ?_))))
      obtain ⟨o27, ho27, h⟩ := bnd_some h
      obtain ⟨x27, hx27, h⟩ := bnd_some h
      refine Run.opG wantS_none (ex_idxA rfl rfl wha103 (inA_natIn ho27) (part_at agg3 (flat_get (fun _ => rfl) hx27))) rfl ?_
      refine Run.opG wantS_none (ex_assign rfl) rfl ?_
      refine Run.opsEnd (Run.region ?_)
      refine Run.opG wantS_none (ex_move rfl) rfl ?_
      refine Run.opG wantS_none (ex_move rfl) rfl ?_
      refine Run.opG wantS_none (ex_move rfl) rfl ?_
      refine Run.opG wantS_none (ex_neg rfl) rfl ?_
      refine Run.opG wantS_none (ex_max rfl rfl) rfl ?_
      refine Run.opG wantS_none (ex_add rfl rfl) rfl ?_
      refine Run.opG wantS_none (ex_assign rfl) rfl ?_
      refine Run.opsEnd (Run.inBlock (Run.region ?_))
      refine Run.opG wantS_none (ex_add rfl rfl) rfl ?_
      refine Run.opG wantS_none (ex_move rfl) rfl ?_
      refine Run.opsEnd (Run.inLoop ?_)
      exact Run.pick [3, 9, 10] (ih (w64 (v3 + (max x27 (w64 (-x27))))) v9 (w64 (v10 + (1 : Int))) _ _ _ hH h)
    · have h := bif_f hc25 h
      refine Run.condF' rfl hc25 ?_
      refine Run.exit rfl (Run.seq (Run.region ?_))
      refine Run.opG wantS_none (ex_move rfl) rfl ?_
      refine Run.opG wantS_none (ex_assign rfl) rfl ?_
      refine Run.opsEnd ?_
      cases h
      exact Run.ret Tryz.func91 rfl (res_tmp rfl res_nil) rfl

def bank_wave_reach (F : Nat) (a0 : (List Int)) : Option (Int) :=
  bnd (parL a0 0 64) fun l24 =>
  bank_wave_reach_1 F F (0 : Int) l24 (0 : Int)

theorem bank_wave_reach_ok (F : Nat) (a0 : (List Int)) (s0 : SV) (r : Int) (M : Mem) (hs0 : RopTo (rd M) s0 (a0.flatMap enc3)) (h : bank_wave_reach F a0 = some r) : CallsM Tryz.prog 91 [s0] M (fun s M' => s = (.int .i64 r) ∧ M' = M) := by
  refine CallsM.plain Tryz.func91 rfl rfl rfl (show Run _ _ _ (bank_wave_reach_post r) _ _ _ from ?_)
  rw [bank_wave_reach] at h
  replace hs0 := hs0.mono (rdLe_frozen M)
  have hH := Has.nil (frozen M)
  refine Run.seq (Run.region ?_)
  refine Run.opG wantS_none (ex_assign rfl) rfl ?_
  refine Run.opsEnd (Run.seq (Run.region ?_))
  refine Run.opG wantS_none (ex_assign rfl) rfl ?_
  refine Run.opsEnd (Run.seq (Run.seq (Run.region ?_)))
  refine Run.opG wantS_none (ex_move rfl) rfl ?_
  obtain ⟨b22, hq22, hr22⟩ := rop_open hs0
  refine Run.opG wantS_none (ex_nilR rfl hq22) rfl ?_
  refine Run.opG wantS_none (ex_fieldAddr rfl off105_0) rfl ?_
  obtain ⟨l24, hl24, h⟩ := bnd_some h
  have hnl24 := parL_len hl24
  refine Run.opG wantS_none (ex_loadArrR rfl hr22 (rdLe_roF hH) hl24 enc3_len agg103) rfl ?_
  refine Run.opG wantS_none (ex_move rfl) rfl ?_
  refine Run.opsEnd (Run.block (Run.loop ?_))
  exact Run.pick [3, 9, 10] (bank_wave_reach_1_ok F F (0 : Int) l24 (0 : Int) _ _ _ hH h)

theorem mkk91 : makeK Tryz.prog 91 = none := by kernel_rfl
theorem cal91 : callable Tryz.prog 91 = true := by kernel_rfl
theorem zer146 : zerosOf Tryz.prog 146 = some [(.int .i64 0), (.int .i64 0)] := by kernel_rfl
theorem pls146 : placesOf Tryz.prog 146 = some (.st [(0, 1), (1, 1)]) := by kernel_rfl
structure S_bank_quotient where
  top : Int
  under : Int

theorem agg146 : aggSize Tryz.prog 146 = some (some 2) := by kernel_rfl
theorem off146_0 : fieldOff Tryz.prog 146 0 = some 0 := by kernel_rfl
theorem uvk3_219 : uvK Tryz.prog 3 219 = none := by kernel_rfl
theorem cvk3_219 : cvK Tryz.prog 3 219 = some (.int .u64) := by kernel_rfl
theorem off146_1 : fieldOff Tryz.prog 146 1 = some 1 := by kernel_rfl
abbrev bits_Mul64_post (r : Int × Int) : SV → Mem → Prop := fun s _ => s = (.tuple [(.int .u64 r.1), (.int .u64 r.2)])

def bits_Mul64 (F : Nat) (a0 a1 : Int) : Option (Int × Int) :=
  bnd (bitZ Nat.land .u64 a0 (4294967295 : Int)) fun z22 =>
  bnd (bitZ Nat.land .u64 a1 (4294967295 : Int)) fun z24 =>
  bnd (bitZ Nat.land .u64 (IntKind.wrap .u64 ((IntKind.wrap .u64 ((Int.fdiv a0 (2 ^ (min 32 (IntKind.bits .u64)))) * z24)) + (Int.fdiv (IntKind.wrap .u64 (z22 * z24)) (2 ^ (min 32 (IntKind.bits .u64)))))) (4294967295 : Int)) fun z26 =>
  some ((IntKind.wrap .u64 ((IntKind.wrap .u64 ((IntKind.wrap .u64 ((Int.fdiv a0 (2 ^ (min 32 (IntKind.bits .u64)))) * (Int.fdiv a1 (2 ^ (min 32 (IntKind.bits .u64)))))) + (Int.fdiv (IntKind.wrap .u64 ((IntKind.wrap .u64 ((Int.fdiv a0 (2 ^ (min 32 (IntKind.bits .u64)))) * z24)) + (Int.fdiv (IntKind.wrap .u64 (z22 * z24)) (2 ^ (min 32 (IntKind.bits .u64)))))) (2 ^ (min 32 (IntKind.bits .u64)))))) + (Int.fdiv (IntKind.wrap .u64 (z26 + (IntKind.wrap .u64 (z22 * (Int.fdiv a1 (2 ^ (min 32 (IntKind.bits .u64)))))))) (2 ^ (min 32 (IntKind.bits .u64)))))), (IntKind.wrap .u64 (a0 * a1)))

theorem bits_Mul64_ok (F : Nat) (a0 a1 : Int) (r : Int × Int) (M : Mem) (h : bits_Mul64 F a0 a1 = some r) : CallsM Tryz.prog 197 [(.int .u64 a0), (.int .u64 a1)] M (fun s M' => s = (.tuple [(.int .u64 r.1), (.int .u64 r.2)]) ∧ M' = M) := by
  refine CallsM.plain Tryz.func197 rfl rfl rfl (show Run _ _ _ (bits_Mul64_post r) _ _ _ from ?_)
  rw [bits_Mul64] at h
  have hH := Has.nil (frozen M)
  refine Run.seq (Run.region ?_)
  refine Run.opG wantS_none (ex_assign rfl) rfl ?_
  refine Run.opG wantS_none (ex_assign rfl) rfl ?_
  refine Run.opsEnd (Run.seq (Run.region ?_))
  refine Run.opG wantS_none (ex_move rfl) rfl ?_
  obtain ⟨z22, hz22, h⟩ := bnd_some h
  refine Run.opG wantS_none (ex_and rfl rfl hz22) rfl ?_
  refine Run.opG wantS_none (ex_assign rfl) rfl ?_
  refine Run.opsEnd (Run.seq (Run.region ?_))
  refine Run.opG wantS_none (ex_move rfl) rfl ?_
  refine Run.opG wantS_none (ex_shr (j := 32) rfl rfl) rfl ?_
  refine Run.opG wantS_none (ex_assign rfl) rfl ?_
  refine Run.opsEnd (Run.seq (Run.region ?_))
  refine Run.opG wantS_none (ex_move rfl) rfl ?_
  obtain ⟨z24, hz24, h⟩ := bnd_some h
  refine Run.opG wantS_none (ex_and rfl rfl hz24) rfl ?_
  refine Run.opG wantS_none (ex_assign rfl) rfl ?_
  refine Run.opsEnd (Run.seq (Run.region ?_))
  refine Run.opG wantS_none (ex_move rfl) rfl ?_
  refine Run.opG wantS_none (ex_shr (j := 32) rfl rfl) rfl ?_
  refine Run.opG wantS_none (ex_assign rfl) rfl ?_
  refine Run.opsEnd (Run.seq (Run.region ?_))
  refine Run.opG wantS_none (ex_move rfl) rfl ?_
  refine Run.opG wantS_none (ex_move rfl) rfl ?_
  refine Run.opG wantS_none (ex_mul rfl rfl) rfl ?_
  refine Run.opG wantS_none (ex_assign rfl) rfl ?_
  refine Run.opsEnd (Run.seq (Run.region ?_))
  refine Run.opG wantS_none (ex_move rfl) rfl ?_
  refine Run.opG wantS_none (ex_move rfl) rfl ?_
  refine Run.opG wantS_none (ex_mul rfl rfl) rfl ?_
  refine Run.opG wantS_none (ex_move rfl) rfl ?_
  refine Run.opG wantS_none (ex_shr (j := 32) rfl rfl) rfl ?_
  refine Run.opG wantS_none (ex_add rfl rfl) rfl ?_
  refine Run.opG wantS_none (ex_assign rfl) rfl ?_
  refine Run.opsEnd (Run.seq (Run.region ?_))
  refine Run.opG wantS_none (ex_move rfl) rfl ?_
  obtain ⟨z26, hz26, h⟩ := bnd_some h
  refine Run.opG wantS_none (ex_and rfl rfl hz26) rfl ?_
  refine Run.opG wantS_none (ex_assign rfl) rfl ?_
  refine Run.opsEnd (Run.seq (Run.region ?_))
  refine Run.opG wantS_none (ex_move rfl) rfl ?_
  refine Run.opG wantS_none (ex_shr (j := 32) rfl rfl) rfl ?_
  refine Run.opG wantS_none (ex_assign rfl) rfl ?_
  refine Run.opsEnd (Run.seq (Run.region ?_))
  refine Run.opG wantS_none (ex_move rfl) rfl ?_
  refine Run.opG wantS_none (ex_move rfl) rfl ?_
  refine Run.opG wantS_none (ex_move rfl) rfl ?_
  refine Run.opG wantS_none (ex_mul rfl rfl) rfl ?_
  refine Run.opG wantS_none (ex_add rfl rfl) rfl ?_
  refine Run.opG wantS_none (ex_assign rfl) rfl ?_
  refine Run.opsEnd (Run.seq (Run.region ?_))
  refine Run.opG wantS_none (ex_move rfl) rfl ?_
  refine Run.opG wantS_none (ex_move rfl) rfl ?_
  refine Run.opG wantS_none (ex_mul rfl rfl) rfl ?_
  refine Run.opG wantS_none (ex_move rfl) rfl ?_
  refine Run.opG wantS_none (ex_add rfl rfl) rfl ?_
  refine Run.opG wantS_none (ex_move rfl) rfl ?_
  refine Run.opG wantS_none (ex_shr (j := 32) rfl rfl) rfl ?_
  refine Run.opG wantS_none (ex_add rfl rfl) rfl ?_
  refine Run.opG wantS_none (ex_assign rfl) rfl ?_
  refine Run.opsEnd (Run.seq (Run.region ?_))
  refine Run.opG wantS_none (ex_move rfl) rfl ?_
  refine Run.opG wantS_none (ex_move rfl) rfl ?_
  refine Run.opG wantS_none (ex_mul rfl rfl) rfl ?_
  refine Run.opG wantS_none (ex_assign rfl) rfl ?_
  refine Run.opsEnd ?_
  cases h
  exact Run.ret Tryz.func197 rfl (res_tmp rfl (res_tmp rfl res_nil)) rfl

theorem mkk197 : makeK Tryz.prog 197 = none := by kernel_rfl
theorem cal197 : callable Tryz.prog 197 = true := by kernel_rfl
abbrev cmp_isNaN_post (r : Bool) : SV → Mem → Prop := fun s _ => s = (.bool r)

def cmp_isNaN (F : Nat) (a0 : Int) : Option (Bool) :=
  some (!(a0 == a0))

theorem cmp_isNaN_ok (F : Nat) (a0 : Int) (r : Bool) (M : Mem) (h : cmp_isNaN F a0 = some r) : CallsM Tryz.prog 216 [(.int .u64 a0)] M (fun s M' => s = (.bool r) ∧ M' = M) := by
  refine CallsM.plain Tryz.func216 rfl rfl rfl (show Run _ _ _ (cmp_isNaN_post r) _ _ _ from ?_)
  rw [cmp_isNaN] at h
  have hH := Has.nil (frozen M)
  refine Run.seq (Run.region ?_)
  refine Run.opG wantS_none (ex_assign rfl) rfl ?_
  refine Run.opsEnd (Run.seq (Run.region ?_))
  refine Run.opG wantS_none (ex_move rfl) rfl ?_
  refine Run.opG wantS_none (ex_move rfl) rfl ?_
  refine Run.opG wantS_none (ex_neq rfl rfl) rfl ?_
  refine Run.opG wantS_none (ex_assign rfl) rfl ?_
  refine Run.opsEnd ?_
  cases h
  exact Run.ret Tryz.func216 rfl (res_tmp rfl res_nil) rfl

theorem mkk216 : makeK Tryz.prog 216 = none := by kernel_rfl
theorem cal216 : callable Tryz.prog 216 = true := by kernel_rfl
abbrev cmp_Compare_post (r : Int) : SV → Mem → Prop := fun s _ => s = (.int .i64 r)

def cmp_Compare (F : Nat) (a0 a1 : Int) : Option (Int) :=
  bnd (cmp_isNaN F a0) fun r22 =>
  bnd (cmp_isNaN F a1) fun r25 =>
  bif r22 then
    bif r25 then
      some (0 : Int)
    else
      some ((-1) : Int)
  else
    bif r25 then
      some (1 : Int)
    else
      bif (decide (a0 < a1)) then
        some ((-1) : Int)
      else
        bif (decide (a1 < a0)) then
          some (1 : Int)
        else
          some (0 : Int)

theorem cmp_Compare_ok (F : Nat) (a0 a1 r : Int) (M : Mem) (h : cmp_Compare F a0 a1 = some r) : CallsM Tryz.prog 198 [(.int .u64 a0), (.int .u64 a1)] M (fun s M' => s = (.int .i64 r) ∧ M' = M) := by
  refine CallsM.plain Tryz.func198 rfl rfl rfl (show Run _ _ _ (cmp_Compare_post r) _ _ _ from ?_)
  rw [cmp_Compare] at h
  have hH := Has.nil (frozen M)
  refine Run.seq (Run.region ?_)
  refine Run.opG wantS_none (ex_assign rfl) rfl ?_
  refine Run.opsEnd (Run.seq (Run.region ?_))
  refine Run.opG wantS_none (ex_move rfl) rfl ?_
  obtain ⟨r22, hr22, h⟩ := bnd_some h
  refine Run.callP wantS_none (ex_call rfl mkk216 cal216) rfl (cmp_isNaN_ok F a0 _ _ hr22) ?_
  refine Run.opG wantS_none (ex_assign rfl) rfl ?_
  refine Run.opsEnd (Run.seq (Run.region ?_))
  refine Run.opG wantS_none (ex_move rfl) rfl ?_
  obtain ⟨r25, hr25, h⟩ := bnd_some h
  refine Run.callP wantS_none (ex_call rfl mkk216 cal216) rfl (cmp_isNaN_ok F a1 _ _ hr25) ?_
  refine Run.opG wantS_none (ex_assign rfl) rfl ?_
  refine Run.opsEnd (Run.seq (Run.seq (Run.region ?_)))
  refine Run.opG wantS_none (ex_move rfl) rfl ?_
  refine Run.opsEnd ?_
  rcases btf (r22) with hc27 | hc27
  · have h := bif_t hc27 h
    refine Run.condT' rfl hc27 ?_
    refine Run.seq (Run.seq (Run.region ?_))
    refine Run.opG wantS_none (ex_move rfl) rfl ?_
    refine Run.opsEnd ?_
    rcases btf (r25) with hc28 | hc28
    · have h := bif_t hc28 h
      refine Run.condT' rfl hc28 ?_
      refine Run.seq (Run.region ?_)
      refine Run.opG wantS_none (ex_assign rfl) rfl ?_
      refine Run.opsEnd ?_
      cases h
      exact Run.ret Tryz.func198 rfl (res_tmp rfl res_nil) rfl
    · have h := bif_f hc28 h
      refine Run.condF' rfl hc28 ?_
      refine Run.skip (Run.seq (Run.region ?_))
      refine Run.opG wantS_none (ex_assign rfl) rfl ?_
      refine Run.opsEnd ?_
      cases h
      exact Run.ret Tryz.func198 rfl (res_tmp rfl res_nil) rfl
  · have h := bif_f hc27 h
    refine Run.condF' rfl hc27 ?_
    refine Run.skip (Run.seq (Run.seq (Run.region ?_)))
    refine Run.opG wantS_none (ex_move rfl) rfl ?_
    refine Run.opsEnd ?_
    rcases btf (r25) with hc29 | hc29
    · have h := bif_t hc29 h
      refine Run.condT' rfl hc29 ?_
      refine Run.seq (Run.region ?_)
      refine Run.opG wantS_none (ex_assign rfl) rfl ?_
      refine Run.opsEnd ?_
      cases h
      exact Run.ret Tryz.func198 rfl (res_tmp rfl res_nil) rfl
    · have h := bif_f hc29 h
      refine Run.condF' rfl hc29 ?_
      refine Run.skip (Run.seq (Run.seq (Run.region ?_)))
      refine Run.opG wantS_none (ex_move rfl) rfl ?_
      refine Run.opG wantS_none (ex_move rfl) rfl ?_
      refine Run.opG wantS_none (ex_lss rfl rfl) rfl ?_
      refine Run.opsEnd ?_
      rcases btf ((decide (a0 < a1))) with hc30 | hc30
      · have h := bif_t hc30 h
        refine Run.condT' rfl hc30 ?_
        refine Run.seq (Run.region ?_)
        refine Run.opG wantS_none (ex_assign rfl) rfl ?_
        refine Run.opsEnd ?_
        cases h
        exact Run.ret Tryz.func198 rfl (res_tmp rfl res_nil) rfl
      · have h := bif_f hc30 h
        refine Run.condF' rfl hc30 ?_
        refine Run.skip (Run.seq (Run.seq (Run.region ?_)))
        refine Run.opG wantS_none (ex_move rfl) rfl ?_
        refine Run.opG wantS_none (ex_move rfl) rfl ?_
        refine Run.opG wantS_none (ex_gtr rfl rfl) rfl ?_
        refine Run.opsEnd ?_
        rcases btf ((decide (a1 < a0))) with hc31 | hc31
        · have h := bif_t hc31 h
          refine Run.condT' rfl hc31 ?_
          refine Run.seq (Run.region ?_)
          refine Run.opG wantS_none (ex_assign rfl) rfl ?_
          refine Run.opsEnd ?_
          cases h
          exact Run.ret Tryz.func198 rfl (res_tmp rfl res_nil) rfl
        · have h := bif_f hc31 h
          refine Run.condF' rfl hc31 ?_
          refine Run.skip (Run.seq (Run.region ?_))
          refine Run.opG wantS_none (ex_assign rfl) rfl ?_
          refine Run.opsEnd ?_
          cases h
          exact Run.ret Tryz.func198 rfl (res_tmp rfl res_nil) rfl

theorem mkk198 : makeK Tryz.prog 198 = none := by kernel_rfl
theorem cal198 : callable Tryz.prog 198 = true := by kernel_rfl
theorem elt25 : sliceElt Tryz.prog 25 = some (⟨1, 8, [(.int .i64 0)], 3⟩ : Elt) := by kernel_rfl
abbrev cmp_Or_post (r : Int) : SV → Mem → Prop := fun s _ => s = (.int .i64 r)

def cmp_Or_1 (F : Nat) : Nat → Int → (List Int) → Int → Int → Option (Int)
  | 0, _, _, _, _ => none
  | N + 1, v3, v6, v7, v8 =>
    bif (decide (v8 < v7)) then
      bnd (idx v6 v8) fun x23 =>
      bif (!(x23 == v3)) then
        some x23
      else
        (cmp_Or_1 F N) v3 v6 v7 (w64 (v8 + (1 : Int)))
    else
      some v3

theorem cmp_Or_1_ok (F : Nat) : ∀ (N : Nat), ∀ (v3 : Int) (v6 : (List Int)) (v7 v8 : Int) (sv6 : SV) (Fr : Rd) (M : Mem) (r : Int) (hv6 : Slc Fr 1 (FlatR enc3) sv6 v6) (hH : Has Fr M []), cmp_Or_1 F N v3 v6 v7 v8 = some r → Run Tryz.prog ⟨⟨94, [], none⟩, []⟩ 18 (cmp_Or_post r) [(3, (.int .i64 v3)), (6, sv6), (7, (.int .i64 v7)), (8, (.int .i64 v8))] [codeC Tryz.prog 94 [1, 1, 0, 1, 0, 0], loopC Tryz.prog 94 [1, 1, 0, 1, 0, 0], .inBlock 0, codeC Tryz.prog 94 [1, 1, 1]] M := by
  intro N
  induction N with
  | zero =>
    intro v3 v6 v7 v8 sv6 Fr M r hv6 hH h
    simp [cmp_Or_1] at h
  | succ N ih =>
    intro v3 v6 v7 v8 sv6 Fr M r hv6 hH h
    rw [cmp_Or_1] at h
    refine Run.seq (Run.region ?_)
    refine Run.opG wantS_none (ex_lss rfl rfl) rfl ?_
    refine Run.opsEnd (Run.seq ?_)
    rcases btf ((decide (v8 < v7))) with hc21 | hc21
    · have h := bif_t hc21 h
      refine Run.condT' rfl hc21 ?_
      refine Run.skip (Run.seq (Run.block (Run.seq (Run.region ?_))))
      obtain ⟨x23, hx23, h⟩ := bnd_some h
      obtain ⟨p23, o23, _, hx23, hp23, rfl⟩ := sl_elem (P := Tryz.prog) (t := 25) (kk := .i64) hv6 hx23 els25
      refine Run.opG wantS_none (ex_elX rfl rfl hx23) rfl ?_
      refine Run.opG wantS_none (ex_load1 rfl (hH.ptrF hp23) rdLe_rfl agg3) rfl ?_
      refine Run.opG wantS_none (ex_assign rfl) rfl ?_
      refine Run.opsEnd (Run.seq (Run.region ?_))
      refine Run.opG wantS_none (ex_move rfl) rfl ?_
      refine Run.opG wantS_none (ex_move rfl) rfl ?_
      refine Run.opG wantS_none (ex_neq rfl rfl) rfl ?_
      refine Run.opsEnd ?_
      rcases btf ((!(x23 == v3))) with hc24 | hc24
      · have h := bif_t hc24 h
        refine Run.condT' rfl hc24 ?_
        refine Run.seq (Run.region ?_)
        refine Run.opG wantS_none (ex_move rfl) rfl ?_
        refine Run.opG wantS_none (ex_assign rfl) rfl ?_
        refine Run.opsEnd ?_
        cases h
        exact Run.ret Tryz.func94 rfl (res_tmp rfl res_nil) rfl
      · have h := bif_f hc24 h
        refine Run.condF' rfl hc24 ?_
        refine Run.skip (Run.inBlock (Run.region ?_))
        refine Run.opG wantS_none (ex_add rfl rfl) rfl ?_
        refine Run.opG wantS_none (ex_move rfl) rfl ?_
        refine Run.opsEnd (Run.inLoop ?_)
        exact Run.pick [3, 6, 7, 8] (ih v3 v6 v7 (w64 (v8 + (1 : Int))) sv6 _ _ _ hv6 hH h)
    · have h := bif_f hc21 h
      refine Run.condF' rfl hc21 ?_
      refine Run.exit rfl (Run.seq (Run.region ?_))
      refine Run.opG wantS_none (ex_move rfl) rfl ?_
      refine Run.opG wantS_none (ex_assign rfl) rfl ?_
      refine Run.opsEnd ?_
      cases h
      exact Run.ret Tryz.func94 rfl (res_tmp rfl res_nil) rfl

def cmp_Or (F : Nat) (a0 : (List Int)) : Option (Int) :=
  cmp_Or_1 F F (0 : Int) a0 (a0.length : Int) (0 : Int)

theorem cmp_Or_ok (F : Nat) (a0 : (List Int)) (s0 : SV) (r : Int) (M : Mem) (hs0 : Slc (rd M) 1 (FlatR enc3) s0 a0) (h : cmp_Or F a0 = some r) : CallsM Tryz.prog 94 [s0] M (fun s M' => s = (.int .i64 r) ∧ M' = M) := by
  refine CallsM.plain Tryz.func94 rfl rfl rfl (show Run _ _ _ (cmp_Or_post r) _ _ _ from ?_)
  rw [cmp_Or] at h
  replace hs0 := hs0.mono (rdLe_frozen M) (fun _ _ h => h)
  have hH := Has.nil (frozen M)
  refine Run.seq (Run.region ?_)
  refine Run.opG wantS_none (ex_assign rfl) rfl ?_
  refine Run.opsEnd (Run.seq (Run.region ?_))
  refine Run.opG wantS_none (ex_assign rfl) rfl ?_
  refine Run.opsEnd (Run.seq (Run.seq (Run.region ?_)))
  refine Run.opG wantS_none (ex_move rfl) rfl ?_
  refine Run.opG wantS_none (ex_len' rfl hs0 lenk25) rfl ?_
  refine Run.opG wantS_none (ex_move rfl) rfl ?_
  refine Run.opsEnd (Run.block (Run.loop ?_))
  exact Run.pick [3, 6, 7, 8] (cmp_Or_1_ok F F (0 : Int) a0 (a0.length : Int) (0 : Int) s0 _ _ _ hs0 hH h)

theorem mkk94 : makeK Tryz.prog 94 = none := by kernel_rfl
theorem cal94 : callable Tryz.prog 94 = true := by kernel_rfl
abbrev bank_quotient_compare_post (r : Int) : SV → Mem → Prop := fun s _ => s = (.int .i64 r)

def bank_quotient_compare (F : Nat) (a0 a1 : S_bank_quotient) : Option (Int) :=
  bnd (bits_Mul64 F (IntKind.wrap .u64 a0.top) (IntKind.wrap .u64 a1.under)) fun r28 =>
  bnd (bits_Mul64 F (IntKind.wrap .u64 a1.top) (IntKind.wrap .u64 a0.under)) fun r31 =>
  bnd (cmp_Compare F r28.1 r31.1) fun r34 =>
  bnd (cmp_Compare F r28.2 r31.2) fun r37 =>
  bnd (cmp_Or F ([r34, r37] : List Int)) fun r43 =>
  some r43

theorem bank_quotient_compare_ok (F : Nat) (a0 a1 : S_bank_quotient) (r : Int) (M : Mem) (h : bank_quotient_compare F a0 a1 = some r) : CallsM Tryz.prog 170 [(.agg [(.int .i64 a0.top), (.int .i64 a0.under)]), (.agg [(.int .i64 a1.top), (.int .i64 a1.under)])] M (fun s M' => s = (.int .i64 r) ∧ M' = M) := by
  refine CallsM.plain Tryz.func170 rfl rfl rfl (show Run _ _ _ (bank_quotient_compare_post r) _ _ _ from ?_)
  rw [bank_quotient_compare] at h
  have hH := Has.nil (frozen M)
  refine Run.seq (Run.region ?_)
  refine Run.opX wantS_none rfl (ExG.box rfl rfl hH) ?_
  rintro _ M23 ⟨b22, rfl, hH23⟩
  refine Run.opX wantS_none rfl (ExG.box rfl rfl hH23) ?_
  rintro _ M26 ⟨b25, rfl, hH26⟩
  refine Run.opG wantS_none (ex_assign rfl) rfl ?_
  refine Run.opsEnd (Run.seq (Run.region ?_))
  refine Run.opG wantS_none (ex_fieldAddr rfl off146_0) rfl ?_
  refine Run.opG wantS_none (ex_load1 rfl (hH26.cells (i := 1) rfl 0 rfl) rdLe_rfl agg3) rfl ?_
  refine Run.opG wantS_none (ex_conv rfl uvk3_219 cvk3_219) rfl ?_
  refine Run.opG wantS_none (ex_fieldAddr rfl off146_1) rfl ?_
  refine Run.opG wantS_none (ex_load1 rfl (hH26.cells (i := 0) rfl 1 rfl) rdLe_rfl agg3) rfl ?_
  refine Run.opG wantS_none (ex_conv rfl uvk3_219 cvk3_219) rfl ?_
  obtain ⟨r28, hr28, h⟩ := bnd_some h
  refine Run.callP wantS_none (ex_call rfl mkk197 cal197) rfl (bits_Mul64_ok F (IntKind.wrap .u64 a0.top) (IntKind.wrap .u64 a1.under) _ _ hr28) ?_
  refine Run.opG wantS_none (ex_move rfl) rfl ?_
  refine Run.opG wantS_none (ex_extract rfl rfl) rfl ?_
  refine Run.opG wantS_none (ex_extract rfl rfl) rfl ?_
  refine Run.opG wantS_none (ex_assign rfl) rfl ?_
  refine Run.opG wantS_none (ex_assign rfl) rfl ?_
  refine Run.opsEnd (Run.seq (Run.region ?_))
  refine Run.opG wantS_none (ex_fieldAddr rfl off146_0) rfl ?_
  refine Run.opG wantS_none (ex_load1 rfl (hH26.cells (i := 0) rfl 0 rfl) rdLe_rfl agg3) rfl ?_
  refine Run.opG wantS_none (ex_conv rfl uvk3_219 cvk3_219) rfl ?_
  refine Run.opG wantS_none (ex_fieldAddr rfl off146_1) rfl ?_
  refine Run.opG wantS_none (ex_load1 rfl (hH26.cells (i := 1) rfl 1 rfl) rdLe_rfl agg3) rfl ?_
  refine Run.opG wantS_none (ex_conv rfl uvk3_219 cvk3_219) rfl ?_
  obtain ⟨r31, hr31, h⟩ := bnd_some h
  refine Run.callP wantS_none (ex_call rfl mkk197 cal197) rfl (bits_Mul64_ok F (IntKind.wrap .u64 a1.top) (IntKind.wrap .u64 a0.under) _ _ hr31) ?_
  refine Run.opG wantS_none (ex_move rfl) rfl ?_
  refine Run.opG wantS_none (ex_extract rfl rfl) rfl ?_
  refine Run.opG wantS_none (ex_extract rfl rfl) rfl ?_
  refine Run.opG wantS_none (ex_assign rfl) rfl ?_
  refine Run.opG wantS_none (ex_assign rfl) rfl ?_
  refine Run.opsEnd (Run.seq (Run.region ?_))
  refine Run.opG wantS_none (ex_move rfl) rfl ?_
  refine Run.opG wantS_none (ex_move rfl) rfl ?_
  obtain ⟨r34, hr34, h⟩ := bnd_some h
  refine Run.callP wantS_none (ex_call rfl mkk198 cal198) rfl (cmp_Compare_ok F r28.1 r31.1 _ _ hr34) ?_
  refine Run.opG wantS_none (ex_move rfl) rfl ?_
  refine Run.opG wantS_none (ex_move rfl) rfl ?_
  obtain ⟨r37, hr37, h⟩ := bnd_some h
  refine Run.callP wantS_none (ex_call rfl mkk198 cal198) rfl (cmp_Compare_ok F r28.2 r31.2 _ _ hr37) ?_
  refine Run.opX wantS_none rfl (ExG.built (enc := enc3) (l := ([r34, r37] : List Int)) (z := 1) rfl elt25 rfl rfl rfl enc3_len hH26) ?_
  rintro s40 M41 (hH41 : Has (ro (frozen M)) M41 [.vec 3 1 ([r34, r37] : List Int).length s40 (([r34, r37] : List Int).flatMap enc3), .obj b25 (.row 146 .whole [(.int .i64 a1.top), (.int .i64 a1.under)]), .obj b22 (.row 146 .whole [(.int .i64 a0.top), (.int .i64 a0.under)])])
  obtain ⟨r43, hr43, h⟩ := bnd_some h
  refine Run.callP wantS_none (ex_call rfl mkk94 cal94) rfl (cmp_Or_ok F ([r34, r37] : List Int) s40 _ _ (hH41.slc (i := 0) rfl enc3_len) hr43) ?_
  refine Run.opG wantS_none (ex_assign rfl) rfl ?_
  refine Run.opsEnd ?_
  cases h
  exact Run.ret Tryz.func170 rfl (res_tmp rfl res_nil) rfl

theorem mkk170 : makeK Tryz.prog 170 = none := by kernel_rfl
theorem cal170 : callable Tryz.prog 170 = true := by kernel_rfl
abbrev bank_quotient_isAtLeast_post (r : Bool) : SV → Mem → Prop := fun s _ => s = (.bool r)

def bank_quotient_isAtLeast (F : Nat) (a0 a1 : S_bank_quotient) : Option (Bool) :=
  bnd (bank_quotient_compare F a0 a1) fun r28 =>
  some (decide ((0 : Int) ≤ r28))

theorem bank_quotient_isAtLeast_ok (F : Nat) (a0 a1 : S_bank_quotient) (r : Bool) (M : Mem) (h : bank_quotient_isAtLeast F a0 a1 = some r) : CallsM Tryz.prog 131 [(.agg [(.int .i64 a0.top), (.int .i64 a0.under)]), (.agg [(.int .i64 a1.top), (.int .i64 a1.under)])] M (fun s M' => s = (.bool r) ∧ M' = M) := by
  refine CallsM.plain Tryz.func131 rfl rfl rfl (show Run _ _ _ (bank_quotient_isAtLeast_post r) _ _ _ from ?_)
  rw [bank_quotient_isAtLeast] at h
  have hH := Has.nil (frozen M)
  refine Run.seq (Run.region ?_)
  refine Run.opX wantS_none rfl (ExG.box rfl rfl hH) ?_
  rintro _ M23 ⟨b22, rfl, hH23⟩
  refine Run.opX wantS_none rfl (ExG.box rfl rfl hH23) ?_
  rintro _ M26 ⟨b25, rfl, hH26⟩
  refine Run.opG wantS_none (ex_assign rfl) rfl ?_
  refine Run.opsEnd (Run.seq (Run.region ?_))
  refine Run.opG wantS_none (ex_loadA rfl (hH26.cells (i := 1) rfl 0 rfl) rdLe_rfl agg146 rfl rfl rfl) rfl ?_
  refine Run.opG wantS_none (ex_loadA rfl (hH26.cells (i := 0) rfl 0 rfl) rdLe_rfl agg146 rfl rfl rfl) rfl ?_
  obtain ⟨r28, hr28, h⟩ := bnd_some h
  refine Run.callP wantS_none (ex_call rfl mkk170 cal170) rfl (bank_quotient_compare_ok F a0 a1 _ _ hr28) ?_
  refine Run.opG wantS_none (ex_geq rfl rfl) rfl ?_
  refine Run.opG wantS_none (ex_assign rfl) rfl ?_
  refine Run.opsEnd ?_
  cases h
  exact Run.ret Tryz.func131 rfl (res_tmp rfl res_nil) rfl

theorem mkk131 : makeK Tryz.prog 131 = none := by kernel_rfl
theorem cal131 : callable Tryz.prog 131 = true := by kernel_rfl
abbrev bank_isLoud_post (r : Bool) : SV → Mem → Prop := fun s _ => s = (.bool r)

def bank_isLoud_1 (F : Nat) (v14 : Bool) : Option (Bool) :=
  some v14

theorem bank_isLoud_1_ok (F : Nat) : ∀ (v14 : Bool) (Fr : Rd) (M : Mem) (r : Bool) (hH : Has Fr M []), bank_isLoud_1 F v14 = some r → Run Tryz.prog ⟨⟨90, [], none⟩, []⟩ 15 (bank_isLoud_post r) [(14, (.bool v14))] [itemC Tryz.prog 90 [1, 0] 10, codeC Tryz.prog 90 [1, 1]] M := by
  intro v14 Fr M r hH h
  rw [bank_isLoud_1] at h
  refine Run.opG wantS_none (ex_assign rfl) rfl ?_
  refine Run.opsEnd ?_
  cases h
  exact Run.ret Tryz.func90 rfl (res_tmp rfl res_nil) rfl

def bank_isLoud (F : Nat) (a0 a1 : Int) : Option (Bool) :=
  bif (decide ((0 : Int) < a0)) then
    bnd (bank_quotient_isAtLeast F (S_bank_quotient.mk a0 1) (S_bank_quotient.mk a1 a0)) fun r23 =>
    bank_isLoud_1 F r23
  else
    bank_isLoud_1 F false

theorem bank_isLoud_ok (F : Nat) (a0 a1 : Int) (r : Bool) (M : Mem) (h : bank_isLoud F a0 a1 = some r) : CallsM Tryz.prog 90 [(.int .i64 a0), (.int .i64 a1)] M (fun s M' => s = (.bool r) ∧ M' = M) := by
  refine CallsM.plain Tryz.func90 rfl rfl rfl (show Run _ _ _ (bank_isLoud_post r) _ _ _ from ?_)
  rw [bank_isLoud] at h
  have hH := Has.nil (frozen M)
  refine Run.seq (Run.region ?_)
  refine Run.opG wantS_none (ex_assign rfl) rfl ?_
  refine Run.opsEnd (Run.seq (Run.region ?_))
  refine Run.opG wantS_none (ex_move rfl) rfl ?_
  refine Run.opG wantS_none (ex_gtr rfl rfl) rfl ?_
  refine Run.opG wantS_none (ex_move rfl) rfl ?_
  rcases btf ((decide ((0 : Int) < a0))) with hc21 | hc21
  · have h := bif_t hc21 h
    refine Run.opG (wantS_yes' rfl rfl hc21) (ex_move rfl) rfl ?_
    refine Run.opG (wantS_yes' rfl rfl hc21) (ex_build (r := [(.int .i64 a0), (.int .i64 1)]) rfl zer146 pls146 rfl) rfl ?_
    refine Run.opG (wantS_yes' rfl rfl hc21) (ex_move rfl) rfl ?_
    refine Run.opG (wantS_yes' rfl rfl hc21) (ex_move rfl) rfl ?_
    refine Run.opG (wantS_yes' rfl rfl hc21) (ex_build (r := [(.int .i64 a1), (.int .i64 a0)]) rfl zer146 pls146 rfl) rfl ?_
    obtain ⟨r23, hr23, h⟩ := bnd_some h
    refine Run.callP (wantS_yes' rfl rfl hc21) (ex_call rfl mkk131 cal131) rfl (bank_quotient_isAtLeast_ok F (S_bank_quotient.mk a0 1) (S_bank_quotient.mk a1 a0) _ _ hr23) ?_
    refine Run.opG wantS_none (ex_pickT' rfl hc21 rfl rfl) rfl ?_
    exact Run.pick [14] (bank_isLoud_1_ok F r23 _ _ _ hH h)
  · have h := bif_f hc21 h
    refine Run.no (wantS_not' rfl rfl hc21) rfl ?_
    refine Run.no (wantS_not' rfl rfl hc21) rfl ?_
    refine Run.no (wantS_not' rfl rfl hc21) rfl ?_
    refine Run.no (wantS_not' rfl rfl hc21) rfl ?_
    refine Run.no (wantS_not' rfl rfl hc21) rfl ?_
    refine Run.no (wantS_not' rfl rfl hc21) rfl ?_
    refine Run.opG wantS_none (ex_pickF' rfl hc21 rfl rfl) rfl ?_
    exact Run.pick [14] (bank_isLoud_1_ok F false _ _ _ hH h)

theorem mkk90 : makeK Tryz.prog 90 = none := by kernel_rfl
theorem cal90 : callable Tryz.prog 90 = true := by kernel_rfl
theorem plan89_1_0 : planOf Tryz.prog (opsC (atC Tryz.prog 89 [1, 0])) = some [.fl 0, .fl 1, .fl 2, .fl 3, .fl 4, .fl 5, .fl 6, .fl 7, .fl 8, .fl 12, .fl 13, .fl 14, .fl 15, .fl 16, .fl 17, .an 9 [17, 16, 15, 14, 13, 12, 7, 6, 5, 4, 3, 2, 1, 0], .fl 10, .fl 11, .an 18 [], .fl 19, .sync] := by kernel_rfl
abbrev bank_sure_post (r : Int) : SV → Mem → Prop := fun s _ => s = (.int .i64 r)

def bank_sure_1 (F : Nat) : Nat → Int → Int → (List Int) → Int → Int → Option (Int)
  | 0, _, _, _, _, _ => none
  | N + 1, v5, v6, c22_0, c25_0, c28_0 =>
    bif (decide (v5 < v6)) then
      bnd (c22_0[(65 : Nat)]?) fun x32 =>
      bnd (c22_0[(65 : Nat)]?) fun x34 =>
      bnd (bank_wave_reach F c22_0) fun r35 =>
      bnd (bank_isLoud F (w64 ((w64 ((w64 ((w64 (Int.fdiv (IntKind.wrap .u64 (w64 (v5 + v6))) (2 ^ (min 1 (IntKind.bits .u64))))) + (1 : Int))) * x32)) - (w64 (c25_0 * r35)))) (w64 (c28_0 * x34))) fun r37 =>
      bif (!r37) then
        (bank_sure_1 F N) (w64 ((w64 (Int.fdiv (IntKind.wrap .u64 (w64 (v5 + v6))) (2 ^ (min 1 (IntKind.bits .u64))))) + (1 : Int))) v6 c22_0 c25_0 c28_0
      else
        (bank_sure_1 F N) v5 (w64 (Int.fdiv (IntKind.wrap .u64 (w64 (v5 + v6))) (2 ^ (min 1 (IntKind.bits .u64))))) c22_0 c25_0 c28_0
    else
      some (w64 ((1 : Int) + v5))

theorem bank_sure_1_ok (F : Nat) : ∀ (N : Nat), ∀ (v5 v6 : Int) (c22_0 : (List Int)) (c25_0 c28_0 : Int) (sc22_0 : SV) (b22 b25 b28 : Pos) (Fr : Rd) (M : Mem) (r : Int) (hc22_0 : RopTo Fr sc22_0 (c22_0.flatMap enc3)) (hH : Has Fr M [.obj b22 (.row 72 .whole [sc22_0]), .obj b25 (.row 3 .whole [(.int .i64 c25_0)]), .obj b28 (.row 3 .whole [(.int .i64 c28_0)])]), bank_sure_1 F N v5 v6 c22_0 c25_0 c28_0 = some r → Run Tryz.prog ⟨⟨88, [], none⟩, [.mk ⟨41, [], none⟩ 10 (treeOf []) [itemC Tryz.prog 41 [1, 0] 1, codeC Tryz.prog 41 [1, 1]]]⟩ 26 (bank_sure_post r) [(1, (.fn (.func 89) [] [(.ptr b22 0), (.ptr b25 0), (.ptr b28 0)])), (5, (.int .i64 v5)), (6, (.int .i64 v6))] [codeC Tryz.prog 88 [1, 1, 0, 0, 0], loopC Tryz.prog 88 [1, 1, 0, 0, 0], .inBlock 0, codeC Tryz.prog 88 [1, 1, 1]] M := by
  intro N
  induction N with
  | zero =>
    intro v5 v6 c22_0 c25_0 c28_0 sc22_0 b22 b25 b28 Fr M r hc22_0 hH h
    simp [bank_sure_1] at h
  | succ N ih =>
    intro v5 v6 c22_0 c25_0 c28_0 sc22_0 b22 b25 b28 Fr M r hc22_0 hH h
    rw [bank_sure_1] at h
    refine Run.seq (Run.seq (Run.region ?_))
    refine Run.opG wantS_none (ex_move rfl) rfl ?_
    refine Run.opG wantS_none (ex_move rfl) rfl ?_
    refine Run.opG wantS_none (ex_lss rfl rfl) rfl ?_
    refine Run.opsEnd ?_
    rcases btf ((decide (v5 < v6))) with hc30 | hc30
    · have h := bif_t hc30 h
      refine Run.condT' rfl hc30 ?_
      refine Run.skip (Run.block (Run.seq (Run.region ?_)))
      refine Run.opG wantS_none (ex_move rfl) rfl ?_
      refine Run.opG wantS_none (ex_move rfl) rfl ?_
      refine Run.opG wantS_none (ex_add rfl rfl) rfl ?_
      refine Run.opG wantS_none (ex_conv rfl uvk3_163 cvk3_163) rfl ?_
      refine Run.opG wantS_none (ex_shr (j := 1) rfl rfl) rfl ?_
      refine Run.opG wantS_none (ex_conv rfl uvk163_3 cvk163_3) rfl ?_
      refine Run.opG wantS_none (ex_assign rfl) rfl ?_
      refine Run.opsEnd (Run.seq (Run.region ?_))
      refine Run.opG wantS_none (ex_move rfl) rfl ?_
      refine Run.opG wantS_none (ex_move rfl) rfl ?_
      refine Run.enter wantS_none (ex_closure rfl rfl mkk89 cal89) Tryz.func89 rfl rfl ?_
      refine Run.seq (Run.region ?_)
      refine Run.opG wantS_none (ex_assign rfl) rfl ?_
      refine Run.opsEnd (Run.seq ?_)
      refine Run.drawG plan89_1_0 ?_
      refine DrawG.fl rfl (ev_ex wantS_none (ex_move rfl)) rfl ?_
      refine DrawG.fl rfl (ev_ex wantS_none (ex_add rfl rfl)) rfl ?_
      refine DrawG.fl rfl (ev_ex wantS_none (ex_load1 rfl (hH.cells (i := 0) rfl 0 rfl) rdLe_rfl agg72)) rfl ?_
      obtain ⟨b31, hq31, hr31⟩ := rop_open hc22_0
      refine DrawG.fl rfl (ev_ex wantS_none (ex_nilR rfl hq31)) rfl ?_
      refine DrawG.fl rfl (ev_ex wantS_none (ex_fieldAddr rfl off105_2)) rfl ?_
      obtain ⟨x32, hx32, h⟩ := bnd_some h
      refine DrawG.fl rfl (ev_ex wantS_none (ex_load1 rfl (hH.ptrF (rop_at (enc := enc3) (a := x32) hr31 enc3_len hx32)) rdLe_rfl agg3)) rfl ?_
      refine DrawG.fl rfl (ev_ex wantS_none (ex_mul rfl rfl)) rfl ?_
      refine DrawG.fl rfl (ev_ex wantS_none (ex_load1 rfl (hH.cells (i := 1) rfl 0 rfl) rdLe_rfl agg3)) rfl ?_
      refine DrawG.fl rfl (ev_ex wantS_none (ex_load1 rfl (hH.cells (i := 0) rfl 0 rfl) rdLe_rfl agg72)) rfl ?_
      refine DrawG.fl rfl (ev_ex wantS_none (ex_load1 rfl (hH.cells (i := 2) rfl 0 rfl) rdLe_rfl agg3)) rfl ?_
      refine DrawG.fl rfl (ev_ex wantS_none (ex_load1 rfl (hH.cells (i := 0) rfl 0 rfl) rdLe_rfl agg72)) rfl ?_
      obtain ⟨b33, hq33, hr33⟩ := rop_open hc22_0
      refine DrawG.fl rfl (ev_ex wantS_none (ex_nilR rfl hq33)) rfl ?_
      refine DrawG.fl rfl (ev_ex wantS_none (ex_fieldAddr rfl off105_2)) rfl ?_
      obtain ⟨x34, hx34, h⟩ := bnd_some h
      refine DrawG.fl rfl (ev_ex wantS_none (ex_load1 rfl (hH.ptrF (rop_at (enc := enc3) (a := x34) hr33 enc3_len hx34)) rdLe_rfl agg3)) rfl ?_
      refine DrawG.fl rfl (ev_ex wantS_none (ex_mul rfl rfl)) rfl ?_
      obtain ⟨r35, hr35, h⟩ := bnd_some h
      refine DrawG.callP rfl wantS_none (ex_call rfl mkk91 cal91) rfl (bank_wave_reach_ok F c22_0 sc22_0 _ _ (hH.ropF hc22_0) hr35) (st_cons rfl (ev_ex wantS_none (ex_mul rfl rfl)) rfl rfl rfl (st_cons rfl (ev_ex wantS_none (ex_load1 rfl (hH.ptrF (rop_at (enc := enc3) (a := x34) hr33 enc3_len hx34)) rdLe_rfl agg3)) rfl rfl rfl (st_cons rfl (ev_ex wantS_none (ex_fieldAddr rfl off105_2)) rfl rfl rfl (st_cons rfl (ev_ex wantS_none (ex_nilR rfl hq33)) rfl rfl rfl (st_cons rfl (ev_ex wantS_none (ex_load1 rfl (hH.cells (i := 0) rfl 0 rfl) rdLe_rfl agg72)) rfl rfl (rop_self hc22_0) (st_cons rfl (ev_ex wantS_none (ex_load1 rfl (hH.cells (i := 2) rfl 0 rfl) rdLe_rfl agg3)) rfl rfl rfl (st_cons rfl (ev_ex wantS_none (ex_load1 rfl (hH.cells (i := 1) rfl 0 rfl) rdLe_rfl agg3)) rfl rfl rfl (st_cons rfl (ev_ex wantS_none (ex_mul rfl rfl)) rfl rfl rfl (st_cons rfl (ev_ex wantS_none (ex_load1 rfl (hH.ptrF (rop_at (enc := enc3) (a := x32) hr31 enc3_len hx32)) rdLe_rfl agg3)) rfl rfl rfl (st_cons rfl (ev_ex wantS_none (ex_fieldAddr rfl off105_2)) rfl rfl rfl (st_cons rfl (ev_ex wantS_none (ex_nilR rfl hq31)) rfl rfl rfl (st_cons rfl (ev_ex wantS_none (ex_load1 rfl (hH.cells (i := 0) rfl 0 rfl) rdLe_rfl agg72)) rfl rfl (rop_self hc22_0) (st_cons rfl (ev_ex wantS_none (ex_add rfl rfl)) rfl rfl rfl (st_cons rfl (ev_ex wantS_none (ex_move rfl)) rfl rfl rfl st_nil)))))))))))))) ?_
      refine DrawG.fl rfl (ev_ex wantS_none (ex_mul rfl rfl)) rfl ?_
      refine DrawG.fl rfl (ev_ex wantS_none (ex_sub rfl rfl)) rfl ?_
      obtain ⟨r37, hr37, h⟩ := bnd_some h
      refine DrawG.callP rfl wantS_none (ex_call rfl mkk90 cal90) rfl (bank_isLoud_ok F (w64 ((w64 ((w64 ((w64 (Int.fdiv (IntKind.wrap .u64 (w64 (v5 + v6))) (2 ^ (min 1 (IntKind.bits .u64))))) + (1 : Int))) * x32)) - (w64 (c25_0 * r35)))) (w64 (c28_0 * x34)) _ _ hr37) st_nil ?_
      refine DrawG.fl rfl (ev_ex wantS_none (ex_assign rfl)) rfl ?_
      refine DrawG.sync ?_
      refine DrawG.nil ?_
      refine Run.retTo Tryz.func89 rfl (res_tmp rfl res_nil) rfl ?_
      refine Run.opG wantS_none (ex_not rfl) rfl ?_
      refine Run.opsEnd ?_
      rcases btf ((!r37)) with hc39 | hc39
      · have h := bif_t hc39 h
        refine Run.condT' rfl hc39 ?_
        refine Run.region ?_
        refine Run.opG wantS_none (ex_move rfl) rfl ?_
        refine Run.opG wantS_none (ex_add rfl rfl) rfl ?_
        refine Run.opG wantS_none (ex_assign rfl) rfl ?_
        refine Run.opsEnd (Run.inBlock (Run.inLoop ?_))
        exact Run.low (.cons (fle_pick [] rfl) .nil) (Run.pick [1, 5, 6] (ih (w64 ((w64 (Int.fdiv (IntKind.wrap .u64 (w64 (v5 + v6))) (2 ^ (min 1 (IntKind.bits .u64))))) + (1 : Int))) v6 c22_0 c25_0 c28_0 sc22_0 b22 b25 b28 _ _ _ hc22_0 hH h))
      · have h := bif_f hc39 h
        refine Run.condF' rfl hc39 ?_
        refine Run.region ?_
        refine Run.opG wantS_none (ex_move rfl) rfl ?_
        refine Run.opG wantS_none (ex_assign rfl) rfl ?_
        refine Run.opsEnd (Run.inBlock (Run.inLoop ?_))
        exact Run.low (.cons (fle_pick [] rfl) .nil) (Run.pick [1, 5, 6] (ih v5 (w64 (Int.fdiv (IntKind.wrap .u64 (w64 (v5 + v6))) (2 ^ (min 1 (IntKind.bits .u64))))) c22_0 c25_0 c28_0 sc22_0 b22 b25 b28 _ _ _ hc22_0 hH h))
    · have h := bif_f hc30 h
      refine Run.condF' rfl hc30 ?_
      refine Run.exit rfl (Run.seq (Run.region ?_))
      refine Run.opG wantS_none (ex_move rfl) rfl ?_
      refine Run.opG wantS_none (ex_assign rfl) rfl ?_
      refine Run.opsEnd ?_
      refine Run.retTo Tryz.func88 rfl (res_tmp rfl res_nil) rfl ?_
      refine Run.opG wantS_none (ex_add rfl rfl) rfl ?_
      refine Run.opG wantS_none (ex_assign rfl) rfl ?_
      refine Run.opsEnd ?_
      cases h
      exact Run.ret Tryz.func41 rfl (res_tmp rfl res_nil) rfl

def bank_sure (F : Nat) (a0 : (List Int)) (a1 a2 : Int) : Option (Int) :=
  bank_sure_1 F F (0 : Int) (1048576 : Int) a0 a1 a2

theorem bank_sure_ok (F : Nat) (a0 : (List Int)) (a1 a2 : Int) (s0 : SV) (r : Int) (M : Mem) (hs0 : RopTo (rd M) s0 (a0.flatMap enc3)) (h : bank_sure F a0 a1 a2 = some r) : CallsM Tryz.prog 41 [s0, (.int .i64 a1), (.int .i64 a2)] M (fun s M' => s = (.int .i64 r) ∧ M' = M) := by
  refine CallsM.plain Tryz.func41 rfl rfl rfl (show Run _ _ _ (bank_sure_post r) _ _ _ from ?_)
  rw [bank_sure] at h
  replace hs0 := hs0.mono (rdLe_frozen M)
  have hH := Has.nil (frozen M)
  refine Run.seq (Run.region ?_)
  refine Run.opX wantS_none rfl (ExG.box rfl (cells_one (rop_one hs0)) hH) ?_
  rintro _ M23 ⟨b22, rfl, hH23⟩
  refine Run.opX wantS_none rfl (ExG.box rfl rfl hH23) ?_
  rintro _ M26 ⟨b25, rfl, hH26⟩
  refine Run.opX wantS_none rfl (ExG.box rfl rfl hH26) ?_
  rintro _ M29 ⟨b28, rfl, hH29⟩
  refine Run.opG wantS_none (ex_assign rfl) rfl ?_
  refine Run.opsEnd (Run.seq (Run.region ?_))
  refine Run.opG wantS_none (ex_makeFunc rfl rfl) rfl ?_
  refine Run.enter wantS_none (ex_call rfl mkk88 cal88) Tryz.func88 rfl rfl ?_
  refine Run.seq (Run.region ?_)
  refine Run.opG wantS_none (ex_assign rfl) rfl ?_
  refine Run.opsEnd (Run.seq (Run.region ?_))
  refine Run.opG wantS_none (ex_move rfl) rfl ?_
  refine Run.opG wantS_none (ex_assign rfl) rfl ?_
  refine Run.opG wantS_none (ex_assign rfl) rfl ?_
  refine Run.opsEnd (Run.seq (Run.block (Run.loop ?_)))
  exact Run.low (.cons (fle_pick [] rfl) .nil) (Run.pick [1, 5, 6] (bank_sure_1_ok F F (0 : Int) (1048576 : Int) a0 a1 a2 s0 b22 b25 b28 _ _ _ hs0 (hH29.pick [2, 1, 0] rfl rfl) h))

abbrev bank_areBounds_post (r : Bool) : SV → Mem → Prop := fun s _ => s = (.bool r)

def bank_areBounds_1 (F : Nat) (v10 : Bool) : Option (Bool) :=
  some v10

theorem bank_areBounds_1_ok (F : Nat) : ∀ (v10 : Bool) (Fr : Rd) (M : Mem) (r : Bool) (hH : Has Fr M []), bank_areBounds_1 F v10 = some r → Run Tryz.prog ⟨⟨40, [], none⟩, []⟩ 11 (bank_areBounds_post r) [(10, (.bool v10))] [itemC Tryz.prog 40 [1, 0] 6, codeC Tryz.prog 40 [1, 1]] M := by
  intro v10 Fr M r hH h
  rw [bank_areBounds_1] at h
  refine Run.opG wantS_none (ex_assign rfl) rfl ?_
  refine Run.opsEnd ?_
  cases h
  exact Run.ret Tryz.func40 rfl (res_tmp rfl res_nil) rfl

def bank_areBounds (F : Nat) (a0 a1 : Int) : Option (Bool) :=
  bnd (bank_isFrom F (1 : Int) a0 (1048576 : Int)) fun r22 =>
  bif r22 then
    bnd (bank_isFrom F (0 : Int) a1 (65536 : Int)) fun r26 =>
    bank_areBounds_1 F r26
  else
    bank_areBounds_1 F false

theorem bank_areBounds_ok (F : Nat) (a0 a1 : Int) (r : Bool) (M : Mem) (h : bank_areBounds F a0 a1 = some r) : CallsM Tryz.prog 40 [(.int .i64 a0), (.int .i64 a1)] M (fun s M' => s = (.bool r) ∧ M' = M) := by
  refine CallsM.plain Tryz.func40 rfl rfl rfl (show Run _ _ _ (bank_areBounds_post r) _ _ _ from ?_)
  rw [bank_areBounds] at h
  have hH := Has.nil (frozen M)
  refine Run.seq (Run.region ?_)
  refine Run.opG wantS_none (ex_assign rfl) rfl ?_
  refine Run.opsEnd (Run.seq (Run.region ?_))
  refine Run.opG wantS_none (ex_move rfl) rfl ?_
  obtain ⟨r22, hr22, h⟩ := bnd_some h
  refine Run.callP wantS_none (ex_call rfl mkk39 cal39) rfl (bank_isFrom_ok F (1 : Int) a0 (1048576 : Int) _ _ hr22) ?_
  refine Run.opG wantS_none (ex_move rfl) rfl ?_
  rcases btf (r22) with hc24 | hc24
  · have h := bif_t hc24 h
    refine Run.opG (wantS_yes' rfl rfl hc24) (ex_move rfl) rfl ?_
    obtain ⟨r26, hr26, h⟩ := bnd_some h
    refine Run.callP (wantS_yes' rfl rfl hc24) (ex_call rfl mkk39 cal39) rfl (bank_isFrom_ok F (0 : Int) a1 (65536 : Int) _ _ hr26) ?_
    refine Run.opG wantS_none (ex_pickT' rfl hc24 rfl rfl) rfl ?_
    exact Run.pick [10] (bank_areBounds_1_ok F r26 _ _ _ hH h)
  · have h := bif_f hc24 h
    refine Run.no (wantS_not' rfl rfl hc24) rfl ?_
    refine Run.no (wantS_not' rfl rfl hc24) rfl ?_
    refine Run.opG wantS_none (ex_pickF' rfl hc24 rfl rfl) rfl ?_
    exact Run.pick [10] (bank_areBounds_1_ok F false _ _ _ hH h)

theorem mkk40 : makeK Tryz.prog 40 = none := by kernel_rfl
theorem cal40 : callable Tryz.prog 40 = true := by kernel_rfl
theorem mkk41 : makeK Tryz.prog 41 = none := by kernel_rfl
theorem cal41 : callable Tryz.prog 41 = true := by kernel_rfl
abbrev bank_Sure_post (r : Int × Int) : SV → Mem → Prop := fun s _ => s = (.tuple [(.int .i64 r.1), (.int .i64 r.2)])

def bank_Sure_2 (F : Nat) (v2 v3 v4 : Int) (v34 : Bool) : Option (Int × Int) :=
  bif v34 then
    some ((0 : Int), (8 : Int))
  else
    none

theorem bank_Sure_2_ok (F : Nat) : ∀ (v2 v3 v4 : Int) (v34 : Bool) (Fr : Rd) (M : Mem) (r : Int × Int) (hH : Has Fr M [tb0, tb1, tb2, tb3]), bank_Sure_2 F v2 v3 v4 v34 = some r → Run Tryz.prog ⟨⟨15, [], none⟩, []⟩ 44 (bank_Sure_post r) [(2, (.int .i64 v2)), (3, (.int .i64 v3)), (4, (.int .i64 v4)), (12, .nilp), (34, (.bool v34))] [itemC Tryz.prog 15 [1, 1, 0, 0, 1, 1, 0] 9, codeC Tryz.prog 15 [1, 1, 0, 0, 1, 1, 1], .inBlock 0, codeC Tryz.prog 15 [1, 1, 1]] M := by
  intro v2 v3 v4 v34 Fr M r hH h
  rw [bank_Sure_2] at h
  refine Run.opG wantS_none (ex_assign rfl) rfl ?_
  refine Run.opsEnd ?_
  rcases btf (v34) with hc68 | hc68
  · have h := bif_t hc68 h
    refine Run.condT' rfl hc68 ?_
    refine Run.seq (Run.region ?_)
    refine Run.opG wantS_none (ex_assign rfl) rfl ?_
    refine Run.opG wantS_none (ex_assign rfl) rfl ?_
    refine Run.opsEnd ?_
    cases h
    exact Run.ret Tryz.func15 rfl (res_tmp rfl (res_tmp rfl res_nil)) rfl
  · have h := bif_f hc68 h
    refine Run.condF' rfl hc68 ?_
    refine Run.skip (Run.inBlock (Run.seq (Run.region ?_)))
    refine Run.opG wantS_none (ex_move rfl) rfl ?_
    refine Run.opG wantS_none (ex_move rfl) rfl ?_
    refine Run.opG wantS_none (ex_move rfl) rfl ?_
    refine Run.opG wantS_none (ex_move rfl) rfl ?_
    refine Run.opG wantS_none (ex_mul rfl rfl) rfl ?_
    cases h

def bank_Sure_3 (F : Nat) (v2 v3 v4 : Int) (v34 : Bool) (l39 : (List Int)) : Option (Int × Int) :=
  bif v34 then
    some ((0 : Int), (8 : Int))
  else
    bnd (bank_sure F l39 v2 (w64 (v4 * v3))) fun r80 =>
    bif (decide ((1048576 : Int) < r80)) then
      some ((0 : Int), (4 : Int))
    else
      some (r80, (0 : Int))

theorem bank_Sure_3_ok (F : Nat) : ∀ (v2 v3 v4 : Int) (v34 : Bool) (l39 : (List Int)) (b39 : Pos) (Fr : Rd) (M : Mem) (r : Int × Int) (hH : Has Fr M [.obj b39 (.row 105 .whole (l39.flatMap enc3)), tb0, tb1, tb2, tb3]), bank_Sure_3 F v2 v3 v4 v34 l39 = some r → Run Tryz.prog ⟨⟨15, [], none⟩, []⟩ 44 (bank_Sure_post r) [(2, (.int .i64 v2)), (3, (.int .i64 v3)), (4, (.int .i64 v4)), (12, (.ptr b39 0)), (34, (.bool v34))] [itemC Tryz.prog 15 [1, 1, 0, 0, 1, 1, 0] 9, codeC Tryz.prog 15 [1, 1, 0, 0, 1, 1, 1], .inBlock 0, codeC Tryz.prog 15 [1, 1, 1]] M := by
  intro v2 v3 v4 v34 l39 b39 Fr M r hH h
  rw [bank_Sure_3] at h
  refine Run.opG wantS_none (ex_assign rfl) rfl ?_
  refine Run.opsEnd ?_
  rcases btf (v34) with hc78 | hc78
  · have h := bif_t hc78 h
    refine Run.condT' rfl hc78 ?_
    refine Run.seq (Run.region ?_)
    refine Run.opG wantS_none (ex_assign rfl) rfl ?_
    refine Run.opG wantS_none (ex_assign rfl) rfl ?_
    refine Run.opsEnd ?_
    cases h
    exact Run.ret Tryz.func15 rfl (res_tmp rfl (res_tmp rfl res_nil)) rfl
  · have h := bif_f hc78 h
    refine Run.condF' rfl hc78 ?_
    refine Run.skip (Run.inBlock (Run.seq (Run.region ?_)))
    refine Run.opG wantS_none (ex_move rfl) rfl ?_
    refine Run.opG wantS_none (ex_move rfl) rfl ?_
    refine Run.opG wantS_none (ex_move rfl) rfl ?_
    refine Run.opG wantS_none (ex_move rfl) rfl ?_
    refine Run.opG wantS_none (ex_mul rfl rfl) rfl ?_
    obtain ⟨r80, hr80, h⟩ := bnd_some h
    refine Run.callP wantS_none (ex_call rfl mkk41 cal41) rfl (bank_sure_ok F l39 v2 (w64 (v4 * v3)) (.ptr b39 0) _ _ (hH.ropO (i := 0) rfl) hr80) ?_
    refine Run.opG wantS_none (ex_assign rfl) rfl ?_
    refine Run.opsEnd (Run.seq (Run.seq (Run.region ?_)))
    refine Run.opG wantS_none (ex_move rfl) rfl ?_
    refine Run.opG wantS_none (ex_gtr rfl rfl) rfl ?_
    refine Run.opsEnd ?_
    rcases btf ((decide ((1048576 : Int) < r80))) with hc82 | hc82
    · have h := bif_t hc82 h
      refine Run.condT' rfl hc82 ?_
      refine Run.seq (Run.region ?_)
      refine Run.opG wantS_none (ex_assign rfl) rfl ?_
      refine Run.opG wantS_none (ex_assign rfl) rfl ?_
      refine Run.opsEnd ?_
      cases h
      exact Run.ret Tryz.func15 rfl (res_tmp rfl (res_tmp rfl res_nil)) rfl
    · have h := bif_f hc82 h
      refine Run.condF' rfl hc82 ?_
      refine Run.skip (Run.seq (Run.region ?_))
      refine Run.opG wantS_none (ex_move rfl) rfl ?_
      refine Run.opG wantS_none (ex_assign rfl) rfl ?_
      refine Run.opG wantS_none (ex_assign rfl) rfl ?_
      refine Run.opsEnd ?_
      cases h
      exact Run.ret Tryz.func15 rfl (res_tmp rfl (res_tmp rfl res_nil)) rfl

def bank_Sure_1 (F : Nat) : Nat → Int → Int → Int → Int → Int → S_api_Chirp → (List Int) → Option (Int × Int)
  | 0, _, _, _, _, _, _, _ => none
  | N + 1, v10, v11, v2_f2, v3_f2, v4_f2, c36, l39 =>
    bif (decide (v11 < v10)) then
      bnd (bank_table F (Int.tmod (w64 ((w64 (c36.P * v11)) + (w64 ((w64 (c36.Q * v11)) * v11)))) (64 : Int))) fun r42 =>
      bnd (inA v11 64) fun o44 =>
      bnd (upd l39 (((0 + o44 * 1) : Nat) : Int) r42) fun l45 =>
      (bank_Sure_1 F N) v10 (w64 (v11 + (1 : Int))) v2_f2 v3_f2 v4_f2 c36 l45
    else
      bnd (bank_wave_samples F l39) fun l48 =>
      bnd (bank_wave_samples F l39) fun l51 =>
      bnd (bank_product F l48 l51) fun r54 =>
      bnd (upd l39 ((65 : Nat) : Int) r54) fun l57 =>
      bnd (bank_wave_isSilent F l57) fun r60 =>
      bif r60 then
        bif (!((4 : Int) == (0 : Int))) then
          some ((0 : Int), (4 : Int))
        else
          bnd (bank_isFrom F (0 : Int) v2_f2 (32768 : Int)) fun r65 =>
          bif (!r65) then
            bank_Sure_2 F v2_f2 v3_f2 v4_f2 true
          else
            bnd (bank_areBounds F v3_f2 v4_f2) fun r71 =>
            bank_Sure_2 F v2_f2 v3_f2 v4_f2 (!r71)
      else
        bif (!((0 : Int) == (0 : Int))) then
          some ((0 : Int), (0 : Int))
        else
          bnd (bank_isFrom F (0 : Int) v2_f2 (32768 : Int)) fun r75 =>
          bif (!r75) then
            bank_Sure_3 F v2_f2 v3_f2 v4_f2 true l57
          else
            bnd (bank_areBounds F v3_f2 v4_f2) fun r84 =>
            bank_Sure_3 F v2_f2 v3_f2 v4_f2 (!r84) l57

theorem bank_Sure_1_ok (F : Nat) : ∀ (N : Nat), ∀ (v10 v11 v2_f2 v3_f2 v4_f2 : Int) (c36 : S_api_Chirp) (l39 : (List Int)) (b36 b39 : Pos) (Fr : Rd) (M : Mem) (r : Int × Int) (hH : Has Fr M [.obj b36 (.row 27 .whole [(.int .i64 c36.P), (.int .i64 c36.Q)]), .obj b39 (.row 105 .whole (l39.flatMap enc3)), tb0, tb1, tb2, tb3]), bank_Sure_1 F N v10 v11 v2_f2 v3_f2 v4_f2 c36 l39 = some r → Run Tryz.prog ⟨⟨26, [], none⟩, [.mk ⟨38, [], none⟩ 20 (treeOf []) [itemC Tryz.prog 38 [1, 1, 0] 2, codeC Tryz.prog 38 [1, 1, 1]], .mk ⟨15, [], none⟩ 44 (treeOf [(2, (.int .i64 v2_f2)), (3, (.int .i64 v3_f2)), (4, (.int .i64 v4_f2))]) [itemC Tryz.prog 15 [1, 0] 2, codeC Tryz.prog 15 [1, 1]]]⟩ 42 (bank_Sure_post r) [(3, (.ptr b36 0)), (5, (.ptr b39 0)), (10, (.int .i64 v10)), (11, (.int .i64 v11))] [codeC Tryz.prog 26 [1, 1, 0, 1, 0, 0], loopC Tryz.prog 26 [1, 1, 0, 1, 0, 0], .inBlock 0, codeC Tryz.prog 26 [1, 1, 1]] M := by
  intro N
  induction N with
  | zero =>
    intro v10 v11 v2_f2 v3_f2 v4_f2 c36 l39 b36 b39 Fr M r hH h
    simp [bank_Sure_1] at h
  | succ N ih =>
    intro v10 v11 v2_f2 v3_f2 v4_f2 c36 l39 b36 b39 Fr M r hH h
    rw [bank_Sure_1] at h
    refine Run.seq (Run.region ?_)
    refine Run.opG wantS_none (ex_lss rfl rfl) rfl ?_
    refine Run.opsEnd (Run.seq ?_)
    rcases btf ((decide (v11 < v10))) with hc41 | hc41
    · have h := bif_t hc41 h
      refine Run.condT' rfl hc41 ?_
      refine Run.skip (Run.seq (Run.block (Run.seq (Run.region ?_))))
      refine Run.opG wantS_none (ex_move rfl) rfl ?_
      refine Run.opG wantS_none (ex_assign rfl) rfl ?_
      refine Run.opsEnd ?_
      refine Run.drawG plan26_1_1_0_1_0_0_1_1_0_0_1 ?_
      refine DrawG.fl rfl (ev_ex wantS_none (ex_move rfl)) rfl ?_
      refine DrawG.fl rfl (ev_ex wantS_none (ex_move rfl)) rfl ?_
      refine DrawG.fl rfl (ev_ex wantS_none (ex_fieldAddr rfl off27_0)) rfl ?_
      refine DrawG.fl rfl (ev_ex wantS_none (ex_load1 rfl (hH.cells (i := 0) rfl 0 rfl) rdLe_rfl agg3)) rfl ?_
      refine DrawG.fl rfl (ev_ex wantS_none (ex_move rfl)) rfl ?_
      refine DrawG.fl rfl (ev_ex wantS_none (ex_mul rfl rfl)) rfl ?_
      refine DrawG.fl rfl (ev_ex wantS_none (ex_fieldAddr rfl off27_1)) rfl ?_
      refine DrawG.fl rfl (ev_ex wantS_none (ex_load1 rfl (hH.cells (i := 0) rfl 1 rfl) rdLe_rfl agg3)) rfl ?_
      refine DrawG.fl rfl (ev_ex wantS_none (ex_move rfl)) rfl ?_
      refine DrawG.fl rfl (ev_ex wantS_none (ex_mul rfl rfl)) rfl ?_
      refine DrawG.fl rfl (ev_ex wantS_none (ex_move rfl)) rfl ?_
      refine DrawG.fl rfl (ev_ex wantS_none (ex_mul rfl rfl)) rfl ?_
      refine DrawG.fl rfl (ev_ex wantS_none (ex_add rfl rfl)) rfl ?_
      refine DrawG.fl rfl (ev_ex wantS_none (ex_rem rfl rfl (by decide))) rfl ?_
      refine DrawG.fl rfl (ev_ex wantS_none (ex_nilP rfl)) rfl ?_
      refine DrawG.fl rfl (ev_ex wantS_none (ex_fieldAddr rfl off105_0)) rfl ?_
      obtain ⟨r42, hr42, h⟩ := bnd_some h
      refine DrawG.callP rfl wantS_none (ex_call rfl mkk72 cal72) rfl (bank_table_ok F (Int.tmod (w64 ((w64 (c36.P * v11)) + (w64 ((w64 (c36.Q * v11)) * v11)))) (64 : Int)) _ _ (fixH hH (List.mem_of_getElem? (i := 2) rfl) (List.mem_of_getElem? (i := 3) rfl) (List.mem_of_getElem? (i := 4) rfl) (List.mem_of_getElem? (i := 5) rfl)) hr42) (st_cons rfl (ev_ex wantS_none (ex_fieldAddr rfl off105_0)) rfl rfl rfl (st_cons rfl (ev_ex wantS_none (ex_nilP rfl)) rfl rfl rfl (st_cons rfl (ev_ex wantS_none (ex_move rfl)) rfl rfl rfl (st_cons rfl (ev_ex wantS_none (ex_move rfl)) rfl rfl rfl st_nil)))) ?_
      obtain ⟨o44, ho44, h⟩ := bnd_some h
      refine DrawG.fl rfl (ev_ex wantS_none (ex_elX rfl rfl (arr_place (inA_natIn ho44) els103))) rfl ?_
      obtain ⟨l45, hl45, h⟩ := bnd_some h
      refine DrawG.opX rfl wantS_none rfl (ExG.storeA rfl rfl hH (i := 1) rfl hl45 sz3 rfl enc3_len enc3_ones) ?_
      rintro _ M46 ⟨rfl, (hH46 : Has Fr M46 [.obj b36 (.row 27 .whole [(.int .i64 c36.P), (.int .i64 c36.Q)]), .obj b39 (.row 105 .whole (l45.flatMap enc3)), tb0, tb1, tb2, tb3])⟩
      refine ⟨st_nil, ?_⟩
      refine DrawG.sync ?_
      refine DrawG.nil ?_
      refine Run.inBlock (Run.region ?_)
      refine Run.opG wantS_none (ex_add rfl rfl) rfl ?_
      refine Run.opG wantS_none (ex_move rfl) rfl ?_
      refine Run.opsEnd (Run.inLoop ?_)
      exact Run.low (.cons (fle_pick [] rfl) (.cons (fle_pick [2, 3, 4] rfl) .nil)) (Run.pick [3, 5, 10, 11] (ih v10 (w64 (v11 + (1 : Int))) v2_f2 v3_f2 v4_f2 c36 l45 b36 b39 _ _ _ hH46 h))
    · have h := bif_f hc41 h
      refine Run.condF' rfl hc41 ?_
      refine Run.exit rfl (Run.seq (Run.region ?_))
      refine Run.opG wantS_none (ex_move rfl) rfl ?_
      refine Run.opG wantS_none (ex_move rfl) rfl ?_
      obtain ⟨l48, hl48, h⟩ := bnd_some h
      have hs48 := bank_wave_samples_slc F hH (i := 1) rfl hl48
      refine Run.callP wantS_none (ex_call rfl mkk27 cal27) rfl (bank_wave_samples_ok F hH (i := 1) rfl hl48) ?_
      refine Run.opG wantS_none (ex_move rfl) rfl ?_
      obtain ⟨l51, hl51, h⟩ := bnd_some h
      have hs51 := bank_wave_samples_slc F hH (i := 1) rfl hl51
      refine Run.callP wantS_none (ex_call rfl mkk27 cal27) rfl (bank_wave_samples_ok F hH (i := 1) rfl hl51) ?_
      obtain ⟨r54, hr54, h⟩ := bnd_some h
      refine Run.callP wantS_none (ex_call rfl mkk73 cal73) rfl (bank_product_ok F l48 l51 (.slice b39 0 l48.length 64) (.slice b39 0 l51.length 64) _ _ hs48 hs51 hr54) ?_
      refine Run.opG wantS_none (ex_nilP rfl) rfl ?_
      refine Run.opG wantS_none (ex_fieldAddr rfl off105_2) rfl ?_
      obtain ⟨l57, hl57, h⟩ := bnd_some h
      refine Run.opX wantS_none rfl (ExG.storeA rfl rfl hH (i := 1) rfl hl57 sz3 rfl enc3_len enc3_ones) ?_
      rintro _ M58 ⟨rfl, (hH58 : Has Fr M58 [.obj b36 (.row 27 .whole [(.int .i64 c36.P), (.int .i64 c36.Q)]), .obj b39 (.row 105 .whole (l57.flatMap enc3)), tb0, tb1, tb2, tb3])⟩
      refine Run.opsEnd (Run.seq (Run.region ?_))
      refine Run.opG wantS_none (ex_move rfl) rfl ?_
      refine Run.opG wantS_none (ex_assign rfl) rfl ?_
      refine Run.opsEnd ?_
      refine Run.retTo Tryz.func26 rfl (res_tmp rfl res_nil) rfl ?_
      refine Run.opG wantS_none (ex_assign rfl) rfl ?_
      refine Run.opsEnd (Run.seq (Run.seq (Run.region ?_)))
      refine Run.opG wantS_none (ex_move rfl) rfl ?_
      obtain ⟨r60, hr60, h⟩ := bnd_some h
      refine Run.callP wantS_none (ex_call rfl mkk75 cal75) rfl (bank_wave_isSilent_ok F l57 (.ptr b39 0) _ _ (hH58.ropO (i := 1) rfl) hr60) ?_
      refine Run.opsEnd ?_
      rcases btf (r60) with hc62 | hc62
      · have h := bif_t hc62 h
        refine Run.condT' rfl hc62 ?_
        refine Run.seq (Run.region ?_)
        refine Run.opG wantS_none (ex_assign rfl) rfl ?_
        refine Run.opG wantS_none (ex_assign rfl) rfl ?_
        refine Run.opsEnd ?_
        refine Run.retTo Tryz.func38 rfl (res_tmp rfl (res_tmp rfl res_nil)) rfl ?_
        refine Run.opG wantS_none (ex_move rfl) rfl ?_
        refine Run.opG wantS_none (ex_extract rfl rfl) rfl ?_
        refine Run.opG wantS_none (ex_extract rfl rfl) rfl ?_
        refine Run.opG wantS_none (ex_assign rfl) rfl ?_
        refine Run.opG wantS_none (ex_assign rfl) rfl ?_
        refine Run.opsEnd (Run.seq (Run.block (Run.seq (Run.region ?_))))
        refine Run.opG wantS_none (ex_move rfl) rfl ?_
        refine Run.opG wantS_none (ex_neq rfl rfl) rfl ?_
        refine Run.opG wantS_none (ex_assign rfl) rfl ?_
        refine Run.opsEnd ?_
        rcases btf ((!((4 : Int) == (0 : Int)))) with hc63 | hc63
        · have h := bif_t hc63 h
          refine Run.condT' rfl hc63 ?_
          refine Run.seq (Run.region ?_)
          refine Run.opG wantS_none (ex_move rfl) rfl ?_
          refine Run.opG wantS_none (ex_assign rfl) rfl ?_
          refine Run.opG wantS_none (ex_assign rfl) rfl ?_
          refine Run.opsEnd ?_
          cases h
          exact Run.ret Tryz.func15 rfl (res_tmp rfl (res_tmp rfl res_nil)) rfl
        · have h := bif_f hc63 h
          refine Run.condF' rfl hc63 ?_
          refine Run.seq (Run.region ?_)
          refine Run.opG wantS_none (ex_move rfl) rfl ?_
          obtain ⟨r65, hr65, h⟩ := bnd_some h
          refine Run.callP wantS_none (ex_call rfl mkk39 cal39) rfl (bank_isFrom_ok F (0 : Int) v2_f2 (32768 : Int) _ _ hr65) ?_
          refine Run.opG wantS_none (ex_not rfl) rfl ?_
          refine Run.opG wantS_none (ex_move rfl) rfl ?_
          rcases btf ((!r65)) with hc67 | hc67
          · have h := bif_t hc67 h
            refine Run.no (wantS_not' rfl rfl hc67) rfl ?_
            refine Run.no (wantS_not' rfl rfl hc67) rfl ?_
            refine Run.no (wantS_not' rfl rfl hc67) rfl ?_
            refine Run.no (wantS_not' rfl rfl hc67) rfl ?_
            refine Run.opG wantS_none (ex_pickT' rfl hc67 rfl rfl) rfl ?_
            exact Run.pick [2, 3, 4, 12, 34] (bank_Sure_2_ok F v2_f2 v3_f2 v4_f2 true _ _ _ (hH58.pick [2, 3, 4, 5] rfl rfl) h)
          · have h := bif_f hc67 h
            refine Run.opG (wantS_yes' rfl rfl hc67) (ex_move rfl) rfl ?_
            refine Run.opG (wantS_yes' rfl rfl hc67) (ex_move rfl) rfl ?_
            obtain ⟨r71, hr71, h⟩ := bnd_some h
            refine Run.callP (wantS_yes' rfl rfl hc67) (ex_call rfl mkk40 cal40) rfl (bank_areBounds_ok F v3_f2 v4_f2 _ _ hr71) ?_
            refine Run.opG (wantS_yes' rfl rfl hc67) (ex_not rfl) rfl ?_
            refine Run.opG wantS_none (ex_pickF' rfl hc67 rfl rfl) rfl ?_
            exact Run.pick [2, 3, 4, 12, 34] (bank_Sure_2_ok F v2_f2 v3_f2 v4_f2 (!r71) _ _ _ (hH58.pick [2, 3, 4, 5] rfl rfl) h)
      · have h := bif_f hc62 h
        refine Run.condF' rfl hc62 ?_
        refine Run.skip (Run.seq (Run.region ?_))
        refine Run.opG wantS_none (ex_move rfl) rfl ?_
        refine Run.opG wantS_none (ex_assign rfl) rfl ?_
        refine Run.opG wantS_none (ex_assign rfl) rfl ?_
        refine Run.opsEnd ?_
        refine Run.retTo Tryz.func38 rfl (res_tmp rfl (res_tmp rfl res_nil)) rfl ?_
        refine Run.opG wantS_none (ex_move rfl) rfl ?_
        refine Run.opG wantS_none (ex_extract rfl rfl) rfl ?_
        refine Run.opG wantS_none (ex_extract rfl rfl) rfl ?_
        refine Run.opG wantS_none (ex_assign rfl) rfl ?_
        refine Run.opG wantS_none (ex_assign rfl) rfl ?_
        refine Run.opsEnd (Run.seq (Run.block (Run.seq (Run.region ?_))))
        refine Run.opG wantS_none (ex_move rfl) rfl ?_
        refine Run.opG wantS_none (ex_neq rfl rfl) rfl ?_
        refine Run.opG wantS_none (ex_assign rfl) rfl ?_
        refine Run.opsEnd ?_
        rcases btf ((!((0 : Int) == (0 : Int)))) with hc73 | hc73
        · have h := bif_t hc73 h
          refine Run.condT' rfl hc73 ?_
          refine Run.seq (Run.region ?_)
          refine Run.opG wantS_none (ex_move rfl) rfl ?_
          refine Run.opG wantS_none (ex_assign rfl) rfl ?_
          refine Run.opG wantS_none (ex_assign rfl) rfl ?_
          refine Run.opsEnd ?_
          cases h
          exact Run.ret Tryz.func15 rfl (res_tmp rfl (res_tmp rfl res_nil)) rfl
        · have h := bif_f hc73 h
          refine Run.condF' rfl hc73 ?_
          refine Run.seq (Run.region ?_)
          refine Run.opG wantS_none (ex_move rfl) rfl ?_
          obtain ⟨r75, hr75, h⟩ := bnd_some h
          refine Run.callP wantS_none (ex_call rfl mkk39 cal39) rfl (bank_isFrom_ok F (0 : Int) v2_f2 (32768 : Int) _ _ hr75) ?_
          refine Run.opG wantS_none (ex_not rfl) rfl ?_
          refine Run.opG wantS_none (ex_move rfl) rfl ?_
          rcases btf ((!r75)) with hc77 | hc77
          · have h := bif_t hc77 h
            refine Run.no (wantS_not' rfl rfl hc77) rfl ?_
            refine Run.no (wantS_not' rfl rfl hc77) rfl ?_
            refine Run.no (wantS_not' rfl rfl hc77) rfl ?_
            refine Run.no (wantS_not' rfl rfl hc77) rfl ?_
            refine Run.opG wantS_none (ex_pickT' rfl hc77 rfl rfl) rfl ?_
            exact Run.pick [2, 3, 4, 12, 34] (bank_Sure_3_ok F v2_f2 v3_f2 v4_f2 true l57 b39 _ _ _ (hH58.pick [1, 2, 3, 4, 5] rfl rfl) h)
          · have h := bif_f hc77 h
            refine Run.opG (wantS_yes' rfl rfl hc77) (ex_move rfl) rfl ?_
            refine Run.opG (wantS_yes' rfl rfl hc77) (ex_move rfl) rfl ?_
            obtain ⟨r84, hr84, h⟩ := bnd_some h
            refine Run.callP (wantS_yes' rfl rfl hc77) (ex_call rfl mkk40 cal40) rfl (bank_areBounds_ok F v3_f2 v4_f2 _ _ hr84) ?_
            refine Run.opG (wantS_yes' rfl rfl hc77) (ex_not rfl) rfl ?_
            refine Run.opG wantS_none (ex_pickF' rfl hc77 rfl rfl) rfl ?_
            exact Run.pick [2, 3, 4, 12, 34] (bank_Sure_3_ok F v2_f2 v3_f2 v4_f2 (!r84) l57 b39 _ _ _ (hH58.pick [1, 2, 3, 4, 5] rfl rfl) h)

def bank_Sure (F : Nat) (a0 : Int) (a1 : S_api_Chirp) (a2 a3 a4 : Int) : Option (Int × Int) :=
  bnd (bank_CheckChirp F a0 a1) fun r32 =>
  bif (!(r32 == (0 : Int))) then
    some ((0 : Int), r32)
  else
    bank_Sure_1 F F a0 (0 : Int) a2 a3 a4 a1 ([0, 0, 0, 0, 0, 0, 0, 0, 0, 0, 0, 0, 0, 0, 0, 0, 0, 0, 0, 0, 0, 0, 0, 0, 0, 0, 0, 0, 0, 0, 0, 0, 0, 0, 0, 0, 0, 0, 0, 0, 0, 0, 0, 0, 0, 0, 0, 0, 0, 0, 0, 0, 0, 0, 0, 0, 0, 0, 0, 0, 0, 0, 0, 0, a0, 0] : List Int)

theorem bank_Sure_ok (F : Nat) (a0 : Int) (a1 : S_api_Chirp) (a2 a3 a4 : Int) (r : Int × Int) (M : Mem) (hfx : FixIn M fixes) (h : bank_Sure F a0 a1 a2 a3 a4 = some r) : CallsM Tryz.prog 15 [(.int .i64 a0), (.agg [(.int .i64 a1.P), (.int .i64 a1.Q)]), (.int .i64 a2), (.int .i64 a3), (.int .i64 a4)] M (fun s M' => s = (.tuple [(.int .i64 r.1), (.int .i64 r.2)]) ∧ M' = M) := by
  refine CallsM.plain Tryz.func15 rfl rfl rfl (show Run _ _ _ (bank_Sure_post r) _ _ _ from ?_)
  rw [bank_Sure] at h
  have hH : Has (ro (frozen M)) (frozen M) [tb0, tb1, tb2, tb3] := Has.ofFix hfx.frozen
  refine Run.seq (Run.region ?_)
  refine Run.opX wantS_none rfl (ExG.box rfl rfl hH) ?_
  rintro _ M27 ⟨b26, rfl, hH27⟩
  refine Run.opG wantS_none (ex_assign rfl) rfl ?_
  refine Run.opG wantS_none (ex_assign rfl) rfl ?_
  refine Run.opsEnd (Run.seq (Run.region ?_))
  refine Run.opG wantS_none (ex_move rfl) rfl ?_
  refine Run.opG wantS_none (ex_loadA rfl (hH27.cells (i := 0) rfl 0 rfl) rdLe_rfl agg27 rfl rfl rfl) rfl ?_
  refine Run.enter wantS_none (ex_call rfl mkk38 cal38) Tryz.func38 rfl rfl ?_
  refine Run.seq (Run.region ?_)
  refine Run.opX wantS_none rfl (ExG.box rfl rfl hH27) ?_
  rintro _ M30 ⟨b29, rfl, hH30⟩
  refine Run.opG wantS_none (ex_assign rfl) rfl ?_
  refine Run.opG wantS_none (ex_assign rfl) rfl ?_
  refine Run.opsEnd (Run.seq (Run.seq (Run.region ?_)))
  refine Run.opG wantS_none (ex_move rfl) rfl ?_
  refine Run.opG wantS_none (ex_loadA rfl (hH30.cells (i := 0) rfl 0 rfl) rdLe_rfl agg27 rfl rfl rfl) rfl ?_
  obtain ⟨r32, hr32, h⟩ := bnd_some h
  refine Run.callP wantS_none (ex_call rfl mkk25 cal25) rfl (bank_CheckChirp_ok F a0 a1 _ _ hr32) ?_
  refine Run.opG wantS_none (ex_assign rfl) rfl ?_
  refine Run.opsEnd (Run.seq (Run.region ?_))
  refine Run.opG wantS_none (ex_move rfl) rfl ?_
  refine Run.opG wantS_none (ex_neq rfl rfl) rfl ?_
  refine Run.opsEnd ?_
  rcases btf ((!(r32 == (0 : Int)))) with hc34 | hc34
  · have h := bif_t hc34 h
    refine Run.condT' rfl hc34 ?_
    refine Run.seq (Run.region ?_)
    refine Run.opG wantS_none (ex_move rfl) rfl ?_
    refine Run.opG wantS_none (ex_assign rfl) rfl ?_
    refine Run.opG wantS_none (ex_assign rfl) rfl ?_
    refine Run.opsEnd ?_
    refine Run.retTo Tryz.func38 rfl (res_tmp rfl (res_tmp rfl res_nil)) rfl ?_
    refine Run.opG wantS_none (ex_move rfl) rfl ?_
    refine Run.opG wantS_none (ex_extract rfl rfl) rfl ?_
    refine Run.opG wantS_none (ex_extract rfl rfl) rfl ?_
    refine Run.opG wantS_none (ex_assign rfl) rfl ?_
    refine Run.opG wantS_none (ex_assign rfl) rfl ?_
    refine Run.opsEnd (Run.seq (Run.block (Run.seq (Run.region ?_))))
    refine Run.opG wantS_none (ex_move rfl) rfl ?_
    refine Run.opG wantS_none (ex_neq rfl rfl) rfl ?_
    refine Run.opG wantS_none (ex_assign rfl) rfl ?_
    refine Run.opsEnd ?_
    refine Run.condT' rfl hc34 ?_
    refine Run.seq (Run.region ?_)
    refine Run.opG wantS_none (ex_move rfl) rfl ?_
    refine Run.opG wantS_none (ex_assign rfl) rfl ?_
    refine Run.opG wantS_none (ex_assign rfl) rfl ?_
    refine Run.opsEnd ?_
    cases h
    exact Run.ret Tryz.func15 rfl (res_tmp rfl (res_tmp rfl res_nil)) rfl
  · have h := bif_f hc34 h
    refine Run.condF' rfl hc34 ?_
    refine Run.skip (Run.seq (Run.region ?_))
    refine Run.opG wantS_none (ex_move rfl) rfl ?_
    refine Run.opG wantS_none (ex_loadA rfl (hH30.cells (i := 0) rfl 0 rfl) rdLe_rfl agg27 rfl rfl rfl) rfl ?_
    refine Run.enter wantS_none (ex_call rfl mkk26 cal26) Tryz.func26 rfl rfl ?_
    refine Run.seq (Run.region ?_)
    refine Run.opX wantS_none rfl (ExG.box rfl rfl hH30) ?_
    rintro _ M37 ⟨b36, rfl, hH37⟩
    refine Run.opG wantS_none (ex_assign rfl) rfl ?_
    refine Run.opsEnd (Run.seq (Run.region ?_))
    refine Run.opG wantS_none (ex_move rfl) rfl ?_
    refine Run.opG wantS_none (ex_build (r := [(.int .i64 0), (.int .i64 0), (.int .i64 0), (.int .i64 0), (.int .i64 0), (.int .i64 0), (.int .i64 0), (.int .i64 0), (.int .i64 0), (.int .i64 0), (.int .i64 0), (.int .i64 0), (.int .i64 0), (.int .i64 0), (.int .i64 0), (.int .i64 0), (.int .i64 0), (.int .i64 0), (.int .i64 0), (.int .i64 0), (.int .i64 0), (.int .i64 0), (.int .i64 0), (.int .i64 0), (.int .i64 0), (.int .i64 0), (.int .i64 0), (.int .i64 0), (.int .i64 0), (.int .i64 0), (.int .i64 0), (.int .i64 0), (.int .i64 0), (.int .i64 0), (.int .i64 0), (.int .i64 0), (.int .i64 0), (.int .i64 0), (.int .i64 0), (.int .i64 0), (.int .i64 0), (.int .i64 0), (.int .i64 0), (.int .i64 0), (.int .i64 0), (.int .i64 0), (.int .i64 0), (.int .i64 0), (.int .i64 0), (.int .i64 0), (.int .i64 0), (.int .i64 0), (.int .i64 0), (.int .i64 0), (.int .i64 0), (.int .i64 0), (.int .i64 0), (.int .i64 0), (.int .i64 0), (.int .i64 0), (.int .i64 0), (.int .i64 0), (.int .i64 0), (.int .i64 0), (.int .i64 a0), (.int .i64 0)]) rfl zer105 pls105 rfl) rfl ?_
    refine Run.opX wantS_none rfl (ExG.box (c := ([0, 0, 0, 0, 0, 0, 0, 0, 0, 0, 0, 0, 0, 0, 0, 0, 0, 0, 0, 0, 0, 0, 0, 0, 0, 0, 0, 0, 0, 0, 0, 0, 0, 0, 0, 0, 0, 0, 0, 0, 0, 0, 0, 0, 0, 0, 0, 0, 0, 0, 0, 0, 0, 0, 0, 0, 0, 0, 0, 0, 0, 0, 0, 0, a0, 0] : List Int).flatMap enc3) rfl rfl hH37) ?_
    rintro _ M40 ⟨b39, rfl, hH40⟩
    refine Run.opG wantS_none (ex_assign rfl) rfl ?_
    refine Run.opsEnd (Run.seq (Run.seq (Run.region ?_)))
    refine Run.opG wantS_none (ex_move rfl) rfl ?_
    refine Run.opG wantS_none (ex_move rfl) rfl ?_
    refine Run.opsEnd (Run.block (Run.loop ?_))
    exact Run.low (.cons (fle_pick [] rfl) (.cons (fle_pick [2, 3, 4] rfl) .nil)) (Run.pick [3, 5, 10, 11] (bank_Sure_1_ok F F a0 (0 : Int) a2 a3 a4 a1 ([0, 0, 0, 0, 0, 0, 0, 0, 0, 0, 0, 0, 0, 0, 0, 0, 0, 0, 0, 0, 0, 0, 0, 0, 0, 0, 0, 0, 0, 0, 0, 0, 0, 0, 0, 0, 0, 0, 0, 0, 0, 0, 0, 0, 0, 0, 0, 0, 0, 0, 0, 0, 0, 0, 0, 0, 0, 0, 0, 0, 0, 0, 0, 0, a0, 0] : List Int) b36 b39 _ _ _ (hH40.pick [1, 0, 4, 5, 6, 7] rfl rfl) h))

theorem mkk15 : makeK Tryz.prog 15 = none := by kernel_rfl
theorem cal15 : callable Tryz.prog 15 = true := by kernel_rfl
theorem mkk7 : makeK Tryz.prog 7 = none := by kernel_rfl
theorem cal7 : callable Tryz.prog 7 = true := by kernel_rfl
abbrev bank_Wave_h1_post (e_v0 : Int) (e_v1 : S_api_Chirp) (Fr0 : Rd) (Hr : List Ent) (r : (List Int) × Int) : SV → Mem → Prop := fun s Me => ∃ q1, s = (.tuple [q1, (.int .i64 r.2)]) ∧ ∃ F9 : Rd, RdLe Fr0 F9 ∧ Slc F9 1 (FlatR enc3) q1 r.1 ∧ Has F9 Me (([tb0, tb1, tb2, tb3] : List Ent) ++ Hr)

def bank_Wave_h1_1 (F : Nat) (e_v0 : Int) (e_v1 : S_api_Chirp) : Nat → Int → Int → S_api_Chirp → (List Int) → Option ((List Int) × Int)
  | 0, _, _, _, _ => none
  | N + 1, v10, v11, c35, l38 =>
    bif (decide (v11 < v10)) then
      bnd (bank_table F (Int.tmod (w64 ((w64 (c35.P * v11)) + (w64 ((w64 (c35.Q * v11)) * v11)))) (64 : Int))) fun r41 =>
      bnd (inA v11 64) fun o43 =>
      bnd (upd l38 (((0 + o43 * 1) : Nat) : Int) r41) fun l44 =>
      (bank_Wave_h1_1 F e_v0 e_v1 N) v10 (w64 (v11 + (1 : Int))) c35 l44
    else
      bnd (bank_wave_samples F l38) fun l47 =>
      bnd (bank_wave_samples F l38) fun l50 =>
      bnd (bank_product F l47 l50) fun r53 =>
      bnd (upd l38 ((65 : Nat) : Int) r53) fun l56 =>
      bnd (l56[(64 : Nat)]?) fun x61 =>
      bnd (subP 64 0 x61) fun r62 =>
      bnd (parL l56 (0 + r62.1) r62.2) fun l62 =>
      some (l62, (0 : Int))

theorem bank_Wave_h1_1_ok (F : Nat) (e_v0 : Int) (e_v1 : S_api_Chirp) (Fr0 : Rd) (Hr : List Ent) : ∀ (N : Nat), ∀ (v10 v11 : Int) (c35 : S_api_Chirp) (l38 : (List Int)) (b35 b38 : Pos) (Fr : Rd) (M : Mem) (r : (List Int) × Int) (hfle : RdLe Fr0 Fr) (hH : Has Fr M (([.obj b35 (.row 27 .whole [(.int .i64 c35.P), (.int .i64 c35.Q)]), .obj b38 (.row 105 .whole (l38.flatMap enc3)), tb0, tb1, tb2, tb3] : List Ent) ++ Hr)), bank_Wave_h1_1 F e_v0 e_v1 N v10 v11 c35 l38 = some r → Run Tryz.prog ⟨⟨26, [], none⟩, [.mk ⟨7, [], none⟩ 17 (treeOf []) [itemC Tryz.prog 7 [1, 1, 0] 2, codeC Tryz.prog 7 [1, 1, 1]]]⟩ 42 (bank_Wave_h1_post e_v0 e_v1 Fr0 Hr r) [(3, (.ptr b35 0)), (5, (.ptr b38 0)), (10, (.int .i64 v10)), (11, (.int .i64 v11))] [codeC Tryz.prog 26 [1, 1, 0, 1, 0, 0], loopC Tryz.prog 26 [1, 1, 0, 1, 0, 0], .inBlock 0, codeC Tryz.prog 26 [1, 1, 1]] M := by
  intro N
  induction N with
  | zero =>
    intro v10 v11 c35 l38 b35 b38 Fr M r hfle hH h
    simp [bank_Wave_h1_1] at h
  | succ N ih =>
    intro v10 v11 c35 l38 b35 b38 Fr M r hfle hH h
    rw [bank_Wave_h1_1] at h
    refine Run.seq (Run.region ?_)
    refine Run.opG wantS_none (ex_lss rfl rfl) rfl ?_
    refine Run.opsEnd (Run.seq ?_)
    rcases btf ((decide (v11 < v10))) with hc40 | hc40
    · have h := bif_t hc40 h
      refine Run.condT' rfl hc40 ?_
      refine Run.skip (Run.seq (Run.block (Run.seq (Run.region ?_))))
      refine Run.opG wantS_none (ex_move rfl) rfl ?_
      refine Run.opG wantS_none (ex_assign rfl) rfl ?_
      refine Run.opsEnd ?_
      refine Run.drawG plan26_1_1_0_1_0_0_1_1_0_0_1 ?_
      refine DrawG.fl rfl (ev_ex wantS_none (ex_move rfl)) rfl ?_
      refine DrawG.fl rfl (ev_ex wantS_none (ex_move rfl)) rfl ?_
      refine DrawG.fl rfl (ev_ex wantS_none (ex_fieldAddr rfl off27_0)) rfl ?_
      refine DrawG.fl rfl (ev_ex wantS_none (ex_load1 rfl (hH.cells (i := 0) rfl 0 rfl) rdLe_rfl agg3)) rfl ?_
      refine DrawG.fl rfl (ev_ex wantS_none (ex_move rfl)) rfl ?_
      refine DrawG.fl rfl (ev_ex wantS_none (ex_mul rfl rfl)) rfl ?_
      refine DrawG.fl rfl (ev_ex wantS_none (ex_fieldAddr rfl off27_1)) rfl ?_
      refine DrawG.fl rfl (ev_ex wantS_none (ex_load1 rfl (hH.cells (i := 0) rfl 1 rfl) rdLe_rfl agg3)) rfl ?_
      refine DrawG.fl rfl (ev_ex wantS_none (ex_move rfl)) rfl ?_
      refine DrawG.fl rfl (ev_ex wantS_none (ex_mul rfl rfl)) rfl ?_
      refine DrawG.fl rfl (ev_ex wantS_none (ex_move rfl)) rfl ?_
      refine DrawG.fl rfl (ev_ex wantS_none (ex_mul rfl rfl)) rfl ?_
      refine DrawG.fl rfl (ev_ex wantS_none (ex_add rfl rfl)) rfl ?_
      refine DrawG.fl rfl (ev_ex wantS_none (ex_rem rfl rfl (by decide))) rfl ?_
      refine DrawG.fl rfl (ev_ex wantS_none (ex_nilP rfl)) rfl ?_
      refine DrawG.fl rfl (ev_ex wantS_none (ex_fieldAddr rfl off105_0)) rfl ?_
      obtain ⟨r41, hr41, h⟩ := bnd_some h
      refine DrawG.callP rfl wantS_none (ex_call rfl mkk72 cal72) rfl (bank_table_ok F (Int.tmod (w64 ((w64 (c35.P * v11)) + (w64 ((w64 (c35.Q * v11)) * v11)))) (64 : Int)) _ _ (fixH hH (List.mem_of_getElem? (i := 2) rfl) (List.mem_of_getElem? (i := 3) rfl) (List.mem_of_getElem? (i := 4) rfl) (List.mem_of_getElem? (i := 5) rfl)) hr41) (st_cons rfl (ev_ex wantS_none (ex_fieldAddr rfl off105_0)) rfl rfl rfl (st_cons rfl (ev_ex wantS_none (ex_nilP rfl)) rfl rfl rfl (st_cons rfl (ev_ex wantS_none (ex_move rfl)) rfl rfl rfl (st_cons rfl (ev_ex wantS_none (ex_move rfl)) rfl rfl rfl st_nil)))) ?_
      obtain ⟨o43, ho43, h⟩ := bnd_some h
      refine DrawG.fl rfl (ev_ex wantS_none (ex_elX rfl rfl (arr_place (inA_natIn ho43) els103))) rfl ?_
      obtain ⟨l44, hl44, h⟩ := bnd_some h
      refine DrawG.opX rfl wantS_none rfl (ExG.storeA rfl rfl hH (i := 1) rfl hl44 sz3 rfl enc3_len enc3_ones) ?_
      rintro _ M45 ⟨rfl, (hH45 : Has Fr M45 (([.obj b35 (.row 27 .whole [(.int .i64 c35.P), (.int .i64 c35.Q)]), .obj b38 (.row 105 .whole (l44.flatMap enc3)), tb0, tb1, tb2, tb3] : List Ent) ++ Hr))⟩
      refine ⟨st_nil, ?_⟩
      refine DrawG.sync ?_
      refine DrawG.nil ?_
      refine Run.inBlock (Run.region ?_)
      refine Run.opG wantS_none (ex_add rfl rfl) rfl ?_
      refine Run.opG wantS_none (ex_move rfl) rfl ?_
      refine Run.opsEnd (Run.inLoop ?_)
      exact Run.low (.cons (fle_pick [] rfl) .nil) (Run.pick [3, 5, 10, 11] (ih v10 (w64 (v11 + (1 : Int))) c35 l44 b35 b38 _ _ _ hfle hH45 h))
    · have h := bif_f hc40 h
      refine Run.condF' rfl hc40 ?_
      refine Run.exit rfl (Run.seq (Run.region ?_))
      refine Run.opG wantS_none (ex_move rfl) rfl ?_
      refine Run.opG wantS_none (ex_move rfl) rfl ?_
      obtain ⟨l47, hl47, h⟩ := bnd_some h
      have hs47 := bank_wave_samples_slc F hH (i := 1) rfl hl47
      refine Run.callP wantS_none (ex_call rfl mkk27 cal27) rfl (bank_wave_samples_ok F hH (i := 1) rfl hl47) ?_
      refine Run.opG wantS_none (ex_move rfl) rfl ?_
      obtain ⟨l50, hl50, h⟩ := bnd_some h
      have hs50 := bank_wave_samples_slc F hH (i := 1) rfl hl50
      refine Run.callP wantS_none (ex_call rfl mkk27 cal27) rfl (bank_wave_samples_ok F hH (i := 1) rfl hl50) ?_
      obtain ⟨r53, hr53, h⟩ := bnd_some h
      refine Run.callP wantS_none (ex_call rfl mkk73 cal73) rfl (bank_product_ok F l47 l50 (.slice b38 0 l47.length 64) (.slice b38 0 l50.length 64) _ _ hs47 hs50 hr53) ?_
      refine Run.opG wantS_none (ex_nilP rfl) rfl ?_
      refine Run.opG wantS_none (ex_fieldAddr rfl off105_2) rfl ?_
      obtain ⟨l56, hl56, h⟩ := bnd_some h
      refine Run.opX wantS_none rfl (ExG.storeA rfl rfl hH (i := 1) rfl hl56 sz3 rfl enc3_len enc3_ones) ?_
      rintro _ M57 ⟨rfl, (hH57 : Has Fr M57 (([.obj b35 (.row 27 .whole [(.int .i64 c35.P), (.int .i64 c35.Q)]), .obj b38 (.row 105 .whole (l56.flatMap enc3)), tb0, tb1, tb2, tb3] : List Ent) ++ Hr))⟩
      refine Run.opsEnd (Run.seq (Run.region ?_))
      refine Run.opG wantS_none (ex_move rfl) rfl ?_
      refine Run.opG wantS_none (ex_assign rfl) rfl ?_
      refine Run.opsEnd ?_
      refine Run.retTo Tryz.func26 rfl (res_tmp rfl res_nil) rfl ?_
      refine Run.freezeO (t := 15) (i := 1) rfl hH57 rfl ?_
      intro F59 M59 hle59 (hH59 : Has F59 M59 (([.obj b35 (.row 27 .whole [(.int .i64 c35.P), (.int .i64 c35.Q)]), .vec 0 0 0 .nils [], tb0, tb1, tb2, tb3] : List Ent) ++ Hr)) hp59
      have hf59 := rop_of hp59
      refine Run.enter wantS_none (ex_call rfl mkk27 cal27) Tryz.func27 rfl rfl ?_
      refine Run.seq (Run.region ?_)
      refine Run.opG wantS_none (ex_assign rfl) rfl ?_
      refine Run.opsEnd (Run.seq ?_)
      refine Run.drawG plan27_1_0 ?_
      refine DrawG.fl rfl (ev_ex wantS_none (ex_move rfl)) rfl ?_
      refine DrawG.fl rfl (ev_ex wantS_none (ex_nilP rfl)) rfl ?_
      refine DrawG.fl rfl (ev_ex wantS_none (ex_fieldAddr rfl off105_0)) rfl ?_
      refine DrawG.fl rfl (ev_ex wantS_none (ex_move rfl)) rfl ?_
      refine DrawG.fl rfl (ev_ex wantS_none (ex_nilP rfl)) rfl ?_
      refine DrawG.fl rfl (ev_ex wantS_none (ex_fieldAddr rfl off105_1)) rfl ?_
      obtain ⟨x61, hx61, h⟩ := bnd_some h
      refine DrawG.fl rfl (ev_ex wantS_none (ex_load1 rfl (hH59.ptrF (rop_at (enc := enc3) (a := x61) hf59 enc3_len hx61)) rdLe_rfl agg3)) rfl ?_
      obtain ⟨r62, hr62, h⟩ := bnd_some h
      obtain ⟨l62, hl62, h⟩ := bnd_some h
      obtain ⟨s62, hx62, hs62⟩ := rop_cutH (P := Tryz.prog) (t := 103) (off := 0) (k0 := .i64) hf59 enc3_len hr62 slk103 hl62
      refine DrawG.fl rfl (ev_ex wantS_none (ex_slX rfl (argO_none) (argO_some rfl) hx62)) rfl ?_
      refine DrawG.fl rfl (ev_ex wantS_none (ex_assign rfl)) rfl ?_
      refine DrawG.sync ?_
      refine DrawG.nil ?_
      refine Run.retTo Tryz.func27 rfl (res_tmp rfl res_nil) rfl ?_
      refine Run.opG wantS_none (ex_assign rfl) rfl ?_
      refine Run.opG wantS_none (ex_assign rfl) rfl ?_
      refine Run.opsEnd ?_
      cases h
      exact Run.ret Tryz.func7 rfl (res_tmp rfl (res_tmp rfl res_nil)) ⟨_, rfl, F59, (fun b c hb => hle59 b c (hfle b c hb)), hs62, hH59.pickT [2, 3, 4, 5] rfl rfl⟩

def bank_Wave_h1 (F : Nat) (e_v0 : Int) (e_v1 : S_api_Chirp) : Option ((List Int) × Int) :=
  bnd (bank_CheckChirp F e_v0 e_v1) fun r31 =>
  bif (!(r31 == (0 : Int))) then
    some ([], r31)
  else
    bank_Wave_h1_1 F e_v0 e_v1 F e_v0 (0 : Int) e_v1 ([0, 0, 0, 0, 0, 0, 0, 0, 0, 0, 0, 0, 0, 0, 0, 0, 0, 0, 0, 0, 0, 0, 0, 0, 0, 0, 0, 0, 0, 0, 0, 0, 0, 0, 0, 0, 0, 0, 0, 0, 0, 0, 0, 0, 0, 0, 0, 0, 0, 0, 0, 0, 0, 0, 0, 0, 0, 0, 0, 0, 0, 0, 0, 0, e_v0, 0] : List Int)

theorem bank_Wave_h1_ok (F : Nat) : ∀ (e_v0 : Int) (e_v1 : S_api_Chirp) (Fr0 : Rd) (Hr : List Ent) (M : Mem) (r : (List Int) × Int) (hH : Has Fr0 M (([tb0, tb1, tb2, tb3] : List Ent) ++ Hr)) (h : bank_Wave_h1 F e_v0 e_v1 = some r), CallsM Tryz.prog 7 [(.int .i64 e_v0), (.agg [(.int .i64 e_v1.P), (.int .i64 e_v1.Q)])] M (bank_Wave_h1_post e_v0 e_v1 Fr0 Hr r) := by
  intro e_v0 e_v1 Fr0 Hr M r hH h
  refine CallsM.run Tryz.func7 rfl rfl (show Run _ _ _ (bank_Wave_h1_post e_v0 e_v1 Fr0 Hr r) _ _ _ from ?_)
  rw [bank_Wave_h1] at h
  refine Run.seq (Run.region ?_)
  refine Run.opX wantS_none rfl (ExG.box rfl rfl hH) ?_
  rintro _ M29 ⟨b28, rfl, (hH29 : Has Fr0 M29 (([.obj b28 (.row 27 .whole [(.int .i64 e_v1.P), (.int .i64 e_v1.Q)]), tb0, tb1, tb2, tb3] : List Ent) ++ Hr))⟩
  refine Run.opG wantS_none (ex_assign rfl) rfl ?_
  refine Run.opG wantS_none (ex_assign rfl) rfl ?_
  refine Run.opsEnd (Run.seq (Run.seq (Run.region ?_)))
  refine Run.opG wantS_none (ex_move rfl) rfl ?_
  refine Run.opG wantS_none (ex_loadA rfl (hH29.cells (i := 0) rfl 0 rfl) rdLe_rfl agg27 rfl rfl rfl) rfl ?_
  obtain ⟨r31, hr31, h⟩ := bnd_some h
  refine Run.callP wantS_none (ex_call rfl mkk25 cal25) rfl (bank_CheckChirp_ok F e_v0 e_v1 _ _ hr31) ?_
  refine Run.opG wantS_none (ex_assign rfl) rfl ?_
  refine Run.opsEnd (Run.seq (Run.region ?_))
  refine Run.opG wantS_none (ex_move rfl) rfl ?_
  refine Run.opG wantS_none (ex_neq rfl rfl) rfl ?_
  refine Run.opsEnd ?_
  rcases btf ((!(r31 == (0 : Int)))) with hc33 | hc33
  · have h := bif_t hc33 h
    refine Run.condT' rfl hc33 ?_
    refine Run.seq (Run.region ?_)
    refine Run.opG wantS_none (ex_move rfl) rfl ?_
    refine Run.opG wantS_none (ex_assign rfl) rfl ?_
    refine Run.opG wantS_none (ex_assign rfl) rfl ?_
    refine Run.opsEnd ?_
    cases h
    exact Run.ret Tryz.func7 rfl (res_tmp rfl (res_tmp rfl res_nil)) ⟨_, rfl, Fr0, (fun b c hb => hb), slc_nil, hH29.pickT [1, 2, 3, 4] rfl rfl⟩
  · have h := bif_f hc33 h
    refine Run.condF' rfl hc33 ?_
    refine Run.skip (Run.seq (Run.region ?_))
    refine Run.opG wantS_none (ex_move rfl) rfl ?_
    refine Run.opG wantS_none (ex_loadA rfl (hH29.cells (i := 0) rfl 0 rfl) rdLe_rfl agg27 rfl rfl rfl) rfl ?_
    refine Run.enter wantS_none (ex_call rfl mkk26 cal26) Tryz.func26 rfl rfl ?_
    refine Run.seq (Run.region ?_)
    refine Run.opX wantS_none rfl (ExG.box rfl rfl hH29) ?_
    rintro _ M36 ⟨b35, rfl, (hH36 : Has Fr0 M36 (([.obj b35 (.row 27 .whole [(.int .i64 e_v1.P), (.int .i64 e_v1.Q)]), .obj b28 (.row 27 .whole [(.int .i64 e_v1.P), (.int .i64 e_v1.Q)]), tb0, tb1, tb2, tb3] : List Ent) ++ Hr))⟩
    refine Run.opG wantS_none (ex_assign rfl) rfl ?_
    refine Run.opsEnd (Run.seq (Run.region ?_))
    refine Run.opG wantS_none (ex_move rfl) rfl ?_
    refine Run.opG wantS_none (ex_build (r := [(.int .i64 0), (.int .i64 0), (.int .i64 0), (.int .i64 0), (.int .i64 0), (.int .i64 0), (.int .i64 0), (.int .i64 0), (.int .i64 0), (.int .i64 0), (.int .i64 0), (.int .i64 0), (.int .i64 0), (.int .i64 0), (.int .i64 0), (.int .i64 0), (.int .i64 0), (.int .i64 0), (.int .i64 0), (.int .i64 0), (.int .i64 0), (.int .i64 0), (.int .i64 0), (.int .i64 0), (.int .i64 0), (.int .i64 0), (.int .i64 0), (.int .i64 0), (.int .i64 0), (.int .i64 0), (.int .i64 0), (.int .i64 0), (.int .i64 0), (.int .i64 0), (.int .i64 0), (.int .i64 0), (.int .i64 0), (.int .i64 0), (.int .i64 0), (.int .i64 0), (.int .i64 0), (.int .i64 0), (.int .i64 0), (.int .i64 0), (.int .i64 0), (.int .i64 0), (.int .i64 0), (.int .i64 0), (.int .i64 0), (.int .i64 0), (.int .i64 0), (.int .i64 0), (.int .i64 0), (.int .i64 0), (.int .i64 0), (.int .i64 0), (.int .i64 0), (.int .i64 0), (.int .i64 0), (.int .i64 0), (.int .i64 0), (.int .i64 0), (.int .i64 0), (.int .i64 0), (.int .i64 e_v0), (.int .i64 0)]) rfl zer105 pls105 rfl) rfl ?_
    refine Run.opX wantS_none rfl (ExG.box (c := ([0, 0, 0, 0, 0, 0, 0, 0, 0, 0, 0, 0, 0, 0, 0, 0, 0, 0, 0, 0, 0, 0, 0, 0, 0, 0, 0, 0, 0, 0, 0, 0, 0, 0, 0, 0, 0, 0, 0, 0, 0, 0, 0, 0, 0, 0, 0, 0, 0, 0, 0, 0, 0, 0, 0, 0, 0, 0, 0, 0, 0, 0, 0, 0, e_v0, 0] : List Int).flatMap enc3) rfl rfl hH36) ?_
    rintro _ M39 ⟨b38, rfl, (hH39 : Has Fr0 M39 (([.obj b38 (.row 105 .whole (([0, 0, 0, 0, 0, 0, 0, 0, 0, 0, 0, 0, 0, 0, 0, 0, 0, 0, 0, 0, 0, 0, 0, 0, 0, 0, 0, 0, 0, 0, 0, 0, 0, 0, 0, 0, 0, 0, 0, 0, 0, 0, 0, 0, 0, 0, 0, 0, 0, 0, 0, 0, 0, 0, 0, 0, 0, 0, 0, 0, 0, 0, 0, 0, e_v0, 0] : List Int).flatMap enc3)), .obj b35 (.row 27 .whole [(.int .i64 e_v1.P), (.int .i64 e_v1.Q)]), .obj b28 (.row 27 .whole [(.int .i64 e_v1.P), (.int .i64 e_v1.Q)]), tb0, tb1, tb2, tb3] : List Ent) ++ Hr))⟩
    refine Run.opG wantS_none (ex_assign rfl) rfl ?_
    refine Run.opsEnd (Run.seq (Run.seq (Run.region ?_)))
    refine Run.opG wantS_none (ex_move rfl) rfl ?_
    refine Run.opG wantS_none (ex_move rfl) rfl ?_
    refine Run.opsEnd (Run.block (Run.loop ?_))
    exact Run.low (.cons (fle_pick [] rfl) .nil) (Run.pick [3, 5, 10, 11] (bank_Wave_h1_1_ok F e_v0 e_v1 Fr0 Hr F e_v0 (0 : Int) e_v1 ([0, 0, 0, 0, 0, 0, 0, 0, 0, 0, 0, 0, 0, 0, 0, 0, 0, 0, 0, 0, 0, 0, 0, 0, 0, 0, 0, 0, 0, 0, 0, 0, 0, 0, 0, 0, 0, 0, 0, 0, 0, 0, 0, 0, 0, 0, 0, 0, 0, 0, 0, 0, 0, 0, 0, 0, 0, 0, 0, 0, 0, 0, 0, 0, e_v0, 0] : List Int) b35 b38 _ _ _ (fun b c hb => hb) (hH39.pickT [1, 0, 3, 4, 5, 6] rfl rfl) h))

theorem agg45 : aggSize Tryz.prog 45 = some (some 9) := by kernel_rfl
theorem off45_3 : fieldOff Tryz.prog 45 3 = some 3 := by kernel_rfl
abbrev ref00_Clamp_post (r : Int) : SV → Mem → Prop := fun s _ => s = (.int .i64 r)

def ref00_Clamp (F : Nat) (a0 a1 a2 : Int) : Option (Int) :=
  some (max a1 (min a0 a2))

theorem ref00_Clamp_ok (F : Nat) (a0 a1 a2 r : Int) (M : Mem) (h : ref00_Clamp F a0 a1 a2 = some r) : CallsM Tryz.prog 42 [(.int .i64 a0), (.int .i64 a1), (.int .i64 a2)] M (fun s M' => s = (.int .i64 r) ∧ M' = M) := by
  refine CallsM.plain Tryz.func42 rfl rfl rfl (show Run _ _ _ (ref00_Clamp_post r) _ _ _ from ?_)
  rw [ref00_Clamp] at h
  have hH := Has.nil (frozen M)
  refine Run.seq (Run.region ?_)
  refine Run.opG wantS_none (ex_assign rfl) rfl ?_
  refine Run.opsEnd (Run.seq (Run.region ?_))
  refine Run.opG wantS_none (ex_move rfl) rfl ?_
  refine Run.opG wantS_none (ex_move rfl) rfl ?_
  refine Run.opG wantS_none (ex_move rfl) rfl ?_
  refine Run.opG wantS_none (ex_min rfl rfl) rfl ?_
  refine Run.opG wantS_none (ex_max rfl rfl) rfl ?_
  refine Run.opG wantS_none (ex_assign rfl) rfl ?_
  refine Run.opsEnd ?_
  cases h
  exact Run.ret Tryz.func42 rfl (res_tmp rfl res_nil) rfl

theorem mkk42 : makeK Tryz.prog 42 = none := by kernel_rfl
theorem cal42 : callable Tryz.prog 42 = true := by kernel_rfl
theorem appt25_25 : appT Tryz.prog 25 25 = some (⟨1, 8, [(.int .i64 0)], 3⟩ : Elt) := by kernel_rfl
theorem plan16_1_1_0_1_0_0_1_0_0_0 : planOf Tryz.prog (opsC (atC Tryz.prog 16 [1, 1, 0, 1, 0, 0, 1, 0, 0, 0])) = some [.fl 0, .fl 1, .fl 2, .fl 3, .fl 4, .fl 5, .fl 6, .fl 7, .fl 8, .fl 9, .an 10 [], .fl 11, .sync] := by kernel_rfl
abbrev law07_buried_post (r : (List Int)) : SV → Mem → Prop := fun s Me => ∃ q1, s = q1 ∧ Has (fun _ => none) Me [.vec 3 1 r.length q1 (r.flatMap enc3)]

def law07_buried_3 (F : Nat) (hd1 : (List Int) → Int → Int → Int → Int → (List S_api_Chirp) → Int → Int → Int → (List Int) → Int → Int → Int → (List Int) → Option ((List Int))) (v1 : (List Int)) (v2 v3 v10 v11 c22_0 : Int) (c22_1 : (List S_api_Chirp)) (c22_2 c22_3 c22_4 : Int) (c22_5 : (List Int)) (c22_6 c22_7 c22_8 : Int) (l24 : (List Int)) : Option ((List Int)) :=
  bnd (apd 8 l24 ([v11] : List Int)) fun l39 =>
  hd1 v1 v2 v3 (w64 (v10 + (1 : Int))) c22_0 c22_1 c22_2 c22_3 c22_4 c22_5 c22_6 c22_7 c22_8 l39

theorem law07_buried_3_ok (F : Nat) (hd1 : (List Int) → Int → Int → Int → Int → (List S_api_Chirp) → Int → Int → Int → (List Int) → Int → Int → Int → (List Int) → Option ((List Int))) (hhd1 : ∀ (v1 : (List Int)) (v2 v3 v10 c22_0 : Int) (c22_1 : (List S_api_Chirp)) (c22_2 c22_3 c22_4 : Int) (c22_5 : (List Int)) (c22_6 c22_7 c22_8 : Int) (l24 : (List Int)) (sv1 sc22_1 sc22_5 : SV) (b22 : Pos) (s24 : SV) (Fr : Rd) (M : Mem) (r : (List Int)) (hv1 : Slc Fr 1 (FlatR enc3) sv1 v1) (hc22_1 : Slc Fr 2 (FlatR enc27) sc22_1 c22_1) (hc22_5 : Slc Fr 1 (FlatR enc3) sc22_5 c22_5) (hH : Has Fr M [.obj b22 (.row 45 .whole [(.int .i64 c22_0), sc22_1, (.int .i64 c22_2), (.int .i64 c22_3), (.int .i64 c22_4), sc22_5, (.int .i64 c22_6), (.int .i64 c22_7), (.int .i64 c22_8)]), .vec 3 1 l24.length s24 (l24.flatMap enc3)]), hd1 v1 v2 v3 v10 c22_0 c22_1 c22_2 c22_3 c22_4 c22_5 c22_6 c22_7 c22_8 l24 = some r → Run Tryz.prog ⟨⟨16, [], none⟩, []⟩ 56 (law07_buried_post r) [(1, sv1), (2, (.int .i64 v2)), (3, (.int .i64 v3)), (4, (.ptr b22 0)), (9, s24), (10, (.int .i64 v10))] [codeC Tryz.prog 16 [1, 1, 0, 1, 0, 0], loopC Tryz.prog 16 [1, 1, 0, 1, 0, 0], .inBlock 0, codeC Tryz.prog 16 [1, 1, 1]] M) : ∀ (v1 : (List Int)) (v2 v3 v10 v11 c22_0 : Int) (c22_1 : (List S_api_Chirp)) (c22_2 c22_3 c22_4 : Int) (c22_5 : (List Int)) (c22_6 c22_7 c22_8 : Int) (l24 : (List Int)) (sv1 sc22_1 sc22_5 : SV) (b22 : Pos) (s24 : SV) (Fr : Rd) (M : Mem) (r : (List Int)) (hv1 : Slc Fr 1 (FlatR enc3) sv1 v1) (hc22_1 : Slc Fr 2 (FlatR enc27) sc22_1 c22_1) (hc22_5 : Slc Fr 1 (FlatR enc3) sc22_5 c22_5) (hH : Has Fr M [.obj b22 (.row 45 .whole [(.int .i64 c22_0), sc22_1, (.int .i64 c22_2), (.int .i64 c22_3), (.int .i64 c22_4), sc22_5, (.int .i64 c22_6), (.int .i64 c22_7), (.int .i64 c22_8)]), .vec 3 1 l24.length s24 (l24.flatMap enc3)]), law07_buried_3 F hd1 v1 v2 v3 v10 v11 c22_0 c22_1 c22_2 c22_3 c22_4 c22_5 c22_6 c22_7 c22_8 l24 = some r → Run Tryz.prog ⟨⟨16, [], none⟩, []⟩ 56 (law07_buried_post r) [(1, sv1), (2, (.int .i64 v2)), (3, (.int .i64 v3)), (4, (.ptr b22 0)), (9, s24), (10, (.int .i64 v10)), (11, (.int .i64 v11))] [itemC Tryz.prog 16 [1, 1, 0, 1, 0, 0, 1, 0, 0, 1, 1] 0, .inBlock 1, codeC Tryz.prog 16 [1, 1, 0, 1, 0, 0, 1, 1], loopC Tryz.prog 16 [1, 1, 0, 1, 0, 0], .inBlock 0, codeC Tryz.prog 16 [1, 1, 1]] M := by
  intro v1 v2 v3 v10 v11 c22_0 c22_1 c22_2 c22_3 c22_4 c22_5 c22_6 c22_7 c22_8 l24 sv1 sc22_1 sc22_5 b22 s24 Fr M r hv1 hc22_1 hc22_5 hH h
  rw [law07_buried_3] at h
  refine Run.opG wantS_none (ex_move rfl) rfl ?_
  refine Run.opG wantS_none (ex_move rfl) rfl ?_
  refine Run.opX wantS_none rfl (ExG.built (enc := enc3) (l := ([v11] : List Int)) (z := 1) rfl elt25 rfl rfl rfl enc3_len hH) ?_
  rintro s35 M36 (hH36 : Has Fr M36 [.vec 3 1 ([v11] : List Int).length s35 (([v11] : List Int).flatMap enc3), .obj b22 (.row 45 .whole [(.int .i64 c22_0), sc22_1, (.int .i64 c22_2), (.int .i64 c22_3), (.int .i64 c22_4), sc22_5, (.int .i64 c22_6), (.int .i64 c22_7), (.int .i64 c22_8)]), .vec 3 1 l24.length s24 (l24.flatMap enc3)])
  obtain ⟨l39, hl39, h⟩ := bnd_some h
  refine Run.opX wantS_none rfl (ExG.append rfl rfl hH36 (i := 2) rfl enc3_len rfl enc3_ones appt25_25 rfl (len_slc (hH36.slc (i := 0) rfl enc3_len)) (first_slc (hH36.slc (i := 0) rfl enc3_len) (rdLe_rdRow _) enc3_len) hl39) ?_
  rintro s39 M41 (hH41 : Has Fr M41 [.vec 3 1 ([v11] : List Int).length s35 (([v11] : List Int).flatMap enc3), .obj b22 (.row 45 .whole [(.int .i64 c22_0), sc22_1, (.int .i64 c22_2), (.int .i64 c22_3), (.int .i64 c22_4), sc22_5, (.int .i64 c22_6), (.int .i64 c22_7), (.int .i64 c22_8)]), .vec 3 1 l39.length s39 (l39.flatMap enc3)])
  refine Run.opG wantS_none (ex_assign rfl) rfl ?_
  refine Run.opsEnd (Run.inBlock (Run.region ?_))
  refine Run.opG wantS_none (ex_move rfl) rfl ?_
  refine Run.opG wantS_none (ex_add rfl rfl) rfl ?_
  refine Run.opG wantS_none (ex_assign rfl) rfl ?_
  refine Run.opsEnd (Run.inLoop ?_)
  exact Run.pick [1, 2, 3, 4, 9, 10] (hhd1 v1 v2 v3 (w64 (v10 + (1 : Int))) c22_0 c22_1 c22_2 c22_3 c22_4 c22_5 c22_6 c22_7 c22_8 l39 sv1 sc22_1 sc22_5 b22 s39 _ _ _ hv1 hc22_1 hc22_5 (hH41.pick [1, 2] rfl rfl) h)

def law07_buried_2 (F : Nat) (hd1 : (List Int) → Int → Int → Int → Int → (List S_api_Chirp) → Int → Int → Int → (List Int) → Int → Int → Int → (List Int) → Option ((List Int))) (v1 : (List Int)) (v2 v3 v10 v11 : Int) (v40 : Bool) (c22_0 : Int) (c22_1 : (List S_api_Chirp)) (c22_2 c22_3 c22_4 : Int) (c22_5 : (List Int)) (c22_6 c22_7 c22_8 : Int) (l24 : (List Int)) : Option ((List Int)) :=
  bif v40 then
    bnd (idx v1 (w64 (v10 - v3))) fun x33 =>
    law07_buried_3 F hd1 v1 v2 v3 v10 (w64 (v11 + (w64 (v2 * x33)))) c22_0 c22_1 c22_2 c22_3 c22_4 c22_5 c22_6 c22_7 c22_8 l24
  else
    law07_buried_3 F hd1 v1 v2 v3 v10 v11 c22_0 c22_1 c22_2 c22_3 c22_4 c22_5 c22_6 c22_7 c22_8 l24

theorem law07_buried_2_ok (F : Nat) (hd1 : (List Int) → Int → Int → Int → Int → (List S_api_Chirp) → Int → Int → Int → (List Int) → Int → Int → Int → (List Int) → Option ((List Int))) (hhd1 : ∀ (v1 : (List Int)) (v2 v3 v10 c22_0 : Int) (c22_1 : (List S_api_Chirp)) (c22_2 c22_3 c22_4 : Int) (c22_5 : (List Int)) (c22_6 c22_7 c22_8 : Int) (l24 : (List Int)) (sv1 sc22_1 sc22_5 : SV) (b22 : Pos) (s24 : SV) (Fr : Rd) (M : Mem) (r : (List Int)) (hv1 : Slc Fr 1 (FlatR enc3) sv1 v1) (hc22_1 : Slc Fr 2 (FlatR enc27) sc22_1 c22_1) (hc22_5 : Slc Fr 1 (FlatR enc3) sc22_5 c22_5) (hH : Has Fr M [.obj b22 (.row 45 .whole [(.int .i64 c22_0), sc22_1, (.int .i64 c22_2), (.int .i64 c22_3), (.int .i64 c22_4), sc22_5, (.int .i64 c22_6), (.int .i64 c22_7), (.int .i64 c22_8)]), .vec 3 1 l24.length s24 (l24.flatMap enc3)]), hd1 v1 v2 v3 v10 c22_0 c22_1 c22_2 c22_3 c22_4 c22_5 c22_6 c22_7 c22_8 l24 = some r → Run Tryz.prog ⟨⟨16, [], none⟩, []⟩ 56 (law07_buried_post r) [(1, sv1), (2, (.int .i64 v2)), (3, (.int .i64 v3)), (4, (.ptr b22 0)), (9, s24), (10, (.int .i64 v10))] [codeC Tryz.prog 16 [1, 1, 0, 1, 0, 0], loopC Tryz.prog 16 [1, 1, 0, 1, 0, 0], .inBlock 0, codeC Tryz.prog 16 [1, 1, 1]] M) : ∀ (v1 : (List Int)) (v2 v3 v10 v11 : Int) (v40 : Bool) (c22_0 : Int) (c22_1 : (List S_api_Chirp)) (c22_2 c22_3 c22_4 : Int) (c22_5 : (List Int)) (c22_6 c22_7 c22_8 : Int) (l24 : (List Int)) (sv1 sc22_1 sc22_5 : SV) (b22 : Pos) (s24 : SV) (Fr : Rd) (M : Mem) (r : (List Int)) (hv1 : Slc Fr 1 (FlatR enc3) sv1 v1) (hc22_1 : Slc Fr 2 (FlatR enc27) sc22_1 c22_1) (hc22_5 : Slc Fr 1 (FlatR enc3) sc22_5 c22_5) (hH : Has Fr M [.obj b22 (.row 45 .whole [(.int .i64 c22_0), sc22_1, (.int .i64 c22_2), (.int .i64 c22_3), (.int .i64 c22_4), sc22_5, (.int .i64 c22_6), (.int .i64 c22_7), (.int .i64 c22_8)]), .vec 3 1 l24.length s24 (l24.flatMap enc3)]), law07_buried_2 F hd1 v1 v2 v3 v10 v11 v40 c22_0 c22_1 c22_2 c22_3 c22_4 c22_5 c22_6 c22_7 c22_8 l24 = some r → Run Tryz.prog ⟨⟨16, [], none⟩, []⟩ 56 (law07_buried_post r) [(1, sv1), (2, (.int .i64 v2)), (3, (.int .i64 v3)), (4, (.ptr b22 0)), (9, s24), (10, (.int .i64 v10)), (11, (.int .i64 v11)), (40, (.bool v40))] [codeC Tryz.prog 16 [1, 1, 0, 1, 0, 0, 1, 0, 0, 1, 0, 1], codeC Tryz.prog 16 [1, 1, 0, 1, 0, 0, 1, 0, 0, 1, 1], .inBlock 1, codeC Tryz.prog 16 [1, 1, 0, 1, 0, 0, 1, 1], loopC Tryz.prog 16 [1, 1, 0, 1, 0, 0], .inBlock 0, codeC Tryz.prog 16 [1, 1, 1]] M := by
  intro v1 v2 v3 v10 v11 v40 c22_0 c22_1 c22_2 c22_3 c22_4 c22_5 c22_6 c22_7 c22_8 l24 sv1 sc22_1 sc22_5 b22 s24 Fr M r hv1 hc22_1 hc22_5 hH h
  rw [law07_buried_2] at h
  rcases btf (v40) with hc31 | hc31
  · have h := bif_t hc31 h
    refine Run.condT' rfl hc31 ?_
    refine Run.region ?_
    refine Run.opG wantS_none (ex_move rfl) rfl ?_
    refine Run.opG wantS_none (ex_move rfl) rfl ?_
    refine Run.opG wantS_none (ex_move rfl) rfl ?_
    refine Run.opG wantS_none (ex_move rfl) rfl ?_
    refine Run.opG wantS_none (ex_move rfl) rfl ?_
    refine Run.opG wantS_none (ex_sub rfl rfl) rfl ?_
    obtain ⟨x33, hx33, h⟩ := bnd_some h
    obtain ⟨p33, o33, _, hx33, hp33, rfl⟩ := sl_elem (P := Tryz.prog) (t := 25) (kk := .i64) hv1 hx33 els25
    refine Run.opG wantS_none (ex_elX rfl rfl hx33) rfl ?_
    refine Run.opG wantS_none (ex_load1 rfl (hH.ptrF hp33) rdLe_rfl agg3) rfl ?_
    refine Run.opG wantS_none (ex_mul rfl rfl) rfl ?_
    refine Run.opG wantS_none (ex_add rfl rfl) rfl ?_
    refine Run.opG wantS_none (ex_assign rfl) rfl ?_
    refine Run.opsEnd (Run.region ?_)
    exact Run.pick [1, 2, 3, 4, 9, 10, 11] (law07_buried_3_ok F hd1 hhd1 v1 v2 v3 v10 (w64 (v11 + (w64 (v2 * x33)))) c22_0 c22_1 c22_2 c22_3 c22_4 c22_5 c22_6 c22_7 c22_8 l24 sv1 sc22_1 sc22_5 b22 s24 _ _ _ hv1 hc22_1 hc22_5 hH h)
  · have h := bif_f hc31 h
    refine Run.condF' rfl hc31 ?_
    refine Run.skip (Run.region ?_)
    exact Run.pick [1, 2, 3, 4, 9, 10, 11] (law07_buried_3_ok F hd1 hhd1 v1 v2 v3 v10 v11 c22_0 c22_1 c22_2 c22_3 c22_4 c22_5 c22_6 c22_7 c22_8 l24 sv1 sc22_1 sc22_5 b22 s24 _ _ _ hv1 hc22_1 hc22_5 hH h)

def law07_buried_1 (F : Nat) : Nat → (List Int) → Int → Int → Int → Int → (List S_api_Chirp) → Int → Int → Int → (List Int) → Int → Int → Int → (List Int) → Option ((List Int))
  | 0, _, _, _, _, _, _, _, _, _, _, _, _, _, _ => none
  | N + 1, v1, v2, v3, v10, c22_0, c22_1, c22_2, c22_3, c22_4, c22_5, c22_6, c22_7, c22_8, l24 =>
    bif (decide (v10 < (c22_5.length : Int))) then
      bnd (idx c22_5 v10) fun x27 =>
      bnd (ref00_Clamp F x27 (w64 (-c22_6)) c22_6) fun r28 =>
      bif (decide (v3 ≤ v10)) then
        law07_buried_2 F (law07_buried_1 F N) v1 v2 v3 v10 r28 (decide ((w64 (v10 - v3)) < (v1.length : Int))) c22_0 c22_1 c22_2 c22_3 c22_4 c22_5 c22_6 c22_7 c22_8 l24
      else
        law07_buried_2 F (law07_buried_1 F N) v1 v2 v3 v10 r28 false c22_0 c22_1 c22_2 c22_3 c22_4 c22_5 c22_6 c22_7 c22_8 l24
    else
      some l24

theorem law07_buried_1_ok (F : Nat) : ∀ (N : Nat), ∀ (v1 : (List Int)) (v2 v3 v10 c22_0 : Int) (c22_1 : (List S_api_Chirp)) (c22_2 c22_3 c22_4 : Int) (c22_5 : (List Int)) (c22_6 c22_7 c22_8 : Int) (l24 : (List Int)) (sv1 sc22_1 sc22_5 : SV) (b22 : Pos) (s24 : SV) (Fr : Rd) (M : Mem) (r : (List Int)) (hv1 : Slc Fr 1 (FlatR enc3) sv1 v1) (hc22_1 : Slc Fr 2 (FlatR enc27) sc22_1 c22_1) (hc22_5 : Slc Fr 1 (FlatR enc3) sc22_5 c22_5) (hH : Has Fr M [.obj b22 (.row 45 .whole [(.int .i64 c22_0), sc22_1, (.int .i64 c22_2), (.int .i64 c22_3), (.int .i64 c22_4), sc22_5, (.int .i64 c22_6), (.int .i64 c22_7), (.int .i64 c22_8)]), .vec 3 1 l24.length s24 (l24.flatMap enc3)]), law07_buried_1 F N v1 v2 v3 v10 c22_0 c22_1 c22_2 c22_3 c22_4 c22_5 c22_6 c22_7 c22_8 l24 = some r → Run Tryz.prog ⟨⟨16, [], none⟩, []⟩ 56 (law07_buried_post r) [(1, sv1), (2, (.int .i64 v2)), (3, (.int .i64 v3)), (4, (.ptr b22 0)), (9, s24), (10, (.int .i64 v10))] [codeC Tryz.prog 16 [1, 1, 0, 1, 0, 0], loopC Tryz.prog 16 [1, 1, 0, 1, 0, 0], .inBlock 0, codeC Tryz.prog 16 [1, 1, 1]] M := by
  intro N
  induction N with
  | zero =>
    intro v1 v2 v3 v10 c22_0 c22_1 c22_2 c22_3 c22_4 c22_5 c22_6 c22_7 c22_8 l24 sv1 sc22_1 sc22_5 b22 s24 Fr M r hv1 hc22_1 hc22_5 hH h
    simp [law07_buried_1] at h
  | succ N ih =>
    intro v1 v2 v3 v10 c22_0 c22_1 c22_2 c22_3 c22_4 c22_5 c22_6 c22_7 c22_8 l24 sv1 sc22_1 sc22_5 b22 s24 Fr M r hv1 hc22_1 hc22_5 hH h
    rw [law07_buried_1] at h
    refine Run.seq (Run.seq (Run.region ?_))
    refine Run.opG wantS_none (ex_move rfl) rfl ?_
    refine Run.opG wantS_none (ex_fieldAddr rfl off45_5) rfl ?_
    refine Run.opG wantS_none (ex_load1 rfl (hH.cells (i := 0) rfl 5 rfl) rdLe_rfl agg25) rfl ?_
    refine Run.opG wantS_none (ex_len' rfl hc22_5 lenk25) rfl ?_
    refine Run.opG wantS_none (ex_lss rfl rfl) rfl ?_
    refine Run.opsEnd ?_
    rcases btf ((decide (v10 < (c22_5.length : Int)))) with hc26 | hc26
    · have h := bif_t hc26 h
      refine Run.condT' rfl hc26 ?_
      refine Run.skip (Run.seq (Run.block (Run.seq ?_)))
      refine Run.drawG plan16_1_1_0_1_0_0_1_0_0_0 ?_
      refine DrawG.fl rfl (ev_ex wantS_none (ex_fieldAddr rfl off45_5)) rfl ?_
      refine DrawG.fl rfl (ev_ex wantS_none (ex_load1 rfl (hH.cells (i := 0) rfl 5 rfl) rdLe_rfl agg25)) rfl ?_
      refine DrawG.fl rfl (ev_ex wantS_none (ex_move rfl)) rfl ?_
      obtain ⟨x27, hx27, h⟩ := bnd_some h
      obtain ⟨p27, o27, _, hx27, hp27, rfl⟩ := sl_elem (P := Tryz.prog) (t := 25) (kk := .i64) hc22_5 hx27 els25
      refine DrawG.fl rfl (ev_ex wantS_none (ex_elX rfl rfl hx27)) rfl ?_
      refine DrawG.fl rfl (ev_ex wantS_none (ex_load1 rfl (hH.ptrF hp27) rdLe_rfl agg3)) rfl ?_
      refine DrawG.fl rfl (ev_ex wantS_none (ex_fieldAddr rfl off45_6)) rfl ?_
      refine DrawG.fl rfl (ev_ex wantS_none (ex_load1 rfl (hH.cells (i := 0) rfl 6 rfl) rdLe_rfl agg3)) rfl ?_
      refine DrawG.fl rfl (ev_ex wantS_none (ex_neg rfl)) rfl ?_
      refine DrawG.fl rfl (ev_ex wantS_none (ex_fieldAddr rfl off45_6)) rfl ?_
      refine DrawG.fl rfl (ev_ex wantS_none (ex_load1 rfl (hH.cells (i := 0) rfl 6 rfl) rdLe_rfl agg3)) rfl ?_
      obtain ⟨r28, hr28, h⟩ := bnd_some h
      refine DrawG.callP rfl wantS_none (ex_call rfl mkk42 cal42) rfl (ref00_Clamp_ok F x27 (w64 (-c22_6)) c22_6 _ _ hr28) st_nil ?_
      refine DrawG.fl rfl (ev_ex wantS_none (ex_assign rfl)) rfl ?_
      refine DrawG.sync ?_
      refine DrawG.nil ?_
      refine Run.seq (Run.seq (Run.region ?_))
      refine Run.opG wantS_none (ex_move rfl) rfl ?_
      refine Run.opG wantS_none (ex_move rfl) rfl ?_
      refine Run.opG wantS_none (ex_geq rfl rfl) rfl ?_
      refine Run.opG wantS_none (ex_move rfl) rfl ?_
      rcases btf ((decide (v3 ≤ v10))) with hc30 | hc30
      · have h := bif_t hc30 h
        refine Run.opG (wantS_yes' rfl rfl hc30) (ex_move rfl) rfl ?_
        refine Run.opG (wantS_yes' rfl rfl hc30) (ex_move rfl) rfl ?_
        refine Run.opG (wantS_yes' rfl rfl hc30) (ex_sub rfl rfl) rfl ?_
        refine Run.opG (wantS_yes' rfl rfl hc30) (ex_move rfl) rfl ?_
        refine Run.opG (wantS_yes' rfl rfl hc30) (ex_len' rfl hv1 lenk25) rfl ?_
        refine Run.opG (wantS_yes' rfl rfl hc30) (ex_lss rfl rfl) rfl ?_
        refine Run.opG wantS_none (ex_pickT' rfl hc30 rfl rfl) rfl ?_
        refine Run.opsEnd ?_
        exact Run.pick [1, 2, 3, 4, 9, 10, 11, 40] (law07_buried_2_ok F (law07_buried_1 F N) ih v1 v2 v3 v10 r28 (decide ((w64 (v10 - v3)) < (v1.length : Int))) c22_0 c22_1 c22_2 c22_3 c22_4 c22_5 c22_6 c22_7 c22_8 l24 sv1 sc22_1 sc22_5 b22 s24 _ _ _ hv1 hc22_1 hc22_5 hH h)
      · have h := bif_f hc30 h
        refine Run.no (wantS_not' rfl rfl hc30) rfl ?_
        refine Run.no (wantS_not' rfl rfl hc30) rfl ?_
        refine Run.no (wantS_not' rfl rfl hc30) rfl ?_
        refine Run.no (wantS_not' rfl rfl hc30) rfl ?_
        refine Run.no (wantS_not' rfl rfl hc30) rfl ?_
        refine Run.no (wantS_not' rfl rfl hc30) rfl ?_
        refine Run.opG wantS_none (ex_pickF' rfl hc30 rfl rfl) rfl ?_
        refine Run.opsEnd ?_
        exact Run.pick [1, 2, 3, 4, 9, 10, 11, 40] (law07_buried_2_ok F (law07_buried_1 F N) ih v1 v2 v3 v10 r28 false c22_0 c22_1 c22_2 c22_3 c22_4 c22_5 c22_6 c22_7 c22_8 l24 sv1 sc22_1 sc22_5 b22 s24 _ _ _ hv1 hc22_1 hc22_5 hH h)
    · have h := bif_f hc26 h
      refine Run.condF' rfl hc26 ?_
      refine Run.exit rfl (Run.seq (Run.region ?_))
      refine Run.opG wantS_none (ex_move rfl) rfl ?_
      refine Run.opG wantS_none (ex_assign rfl) rfl ?_
      refine Run.opsEnd ?_
      cases h
      exact Run.ret Tryz.func16 rfl (res_tmp rfl res_nil) ⟨_, rfl, (hH.pick [1] rfl rfl).upF (none_le _)⟩

def law07_buried (F : Nat) (a0 : S_ringdownlaw07_Signal) (a1 : (List Int)) (a2 a3 : Int) : Option ((List Int)) :=
  law07_buried_1 F F a1 a2 a3 (0 : Int) a0.Length a0.L a0.Which a0.More a0.Time a0.Noise a0.Bound a0.Variance a0.Floor ([] : List Int)

theorem law07_buried_ok (F : Nat) (a0 : S_ringdownlaw07_Signal) (a1 : (List Int)) (a2 a3 : Int) (s0 s1 s2 : SV) (r : (List Int)) (M : Mem) (hs0 : Slc (rd M) 2 (FlatR enc27) s0 a0.L) (hs1 : Slc (rd M) 1 (FlatR enc3) s1 a0.Noise) (hs2 : Slc (rd M) 1 (FlatR enc3) s2 a1) (h : law07_buried F a0 a1 a2 a3 = some r) : CallsM Tryz.prog 16 [(.agg [(.int .i64 a0.Length), s0, (.int .i64 a0.Which), (.int .i64 a0.More), (.int .i64 a0.Time), s1, (.int .i64 a0.Bound), (.int .i64 a0.Variance), (.int .i64 a0.Floor)]), s2, (.int .i64 a2), (.int .i64 a3)] M (fun s M' => ∃ q1, s = q1 ∧ New M M' [.vec 3 1 r.length q1 (r.flatMap enc3)]) := by
  refine CallsM.fresh (Q := law07_buried_post r) Tryz.func16 rfl rfl ?_ (by rintro s Me ⟨q1, rfl, hx⟩ ha hw; exact ⟨_, rfl, New.of rfl hx ha hw⟩)
  rw [law07_buried] at h
  replace hs0 := hs0.mono (rdLe_frozen M) (fun _ _ h => h)
  replace hs1 := hs1.mono (rdLe_frozen M) (fun _ _ h => h)
  replace hs2 := hs2.mono (rdLe_frozen M) (fun _ _ h => h)
  have hH := Has.nil (frozen M)
  refine Run.seq (Run.region ?_)
  refine Run.opX wantS_none rfl (ExG.box rfl rfl hH) ?_
  rintro _ M23 ⟨b22, rfl, hH23⟩
  refine Run.opG wantS_none (ex_assign rfl) rfl ?_
  refine Run.opsEnd (Run.seq (Run.region ?_))
  refine Run.opG wantS_none (ex_assign rfl) rfl ?_
  refine Run.opsEnd (Run.seq (Run.seq (Run.region ?_)))
  refine Run.opG wantS_none (ex_assign rfl) rfl ?_
  refine Run.opsEnd (Run.block (Run.loop ?_))
  have hH25 : Has (ro (frozen M)) M23 [.vec 3 1 ([] : List Int).length .nils (([] : List Int).flatMap enc3), .obj b22 (.row 45 .whole [(.int .i64 a0.Length), s0, (.int .i64 a0.Which), (.int .i64 a0.More), (.int .i64 a0.Time), s1, (.int .i64 a0.Bound), (.int .i64 a0.Variance), (.int .i64 a0.Floor)])] := hH23.nils 3 1
  exact Run.pick [1, 2, 3, 4, 9, 10] (law07_buried_1_ok F F a1 a2 a3 (0 : Int) a0.Length a0.L a0.Which a0.More a0.Time a0.Noise a0.Bound a0.Variance a0.Floor ([] : List Int) s2 s0 s1 b22 .nils _ _ _ hs2 hs0 hs1 (hH25.pick [1, 0] rfl rfl) h)

theorem mkk16 : makeK Tryz.prog 16 = none := by kernel_rfl
theorem cal16 : callable Tryz.prog 16 = true := by kernel_rfl
structure S_api_Hit where
  Time : Int
  Chirp : Int
  Out : Int

instance : Inhabited S_api_Hit := ⟨(S_api_Hit.mk (0 : Int) (0 : Int) (0 : Int))⟩

def enc54 (a : S_api_Hit) : List SV := [(.int .i64 a.Time), (.int .i64 a.Chirp), (.int .i64 a.Out)]
theorem enc54_len (a : S_api_Hit) : (enc54 a).length = 3 := rfl
theorem enc54_ones (a : S_api_Hit) : ones (enc54 a) = true := rfl
theorem zer27 : zerosOf Tryz.prog 27 = some [(.int .i64 0), (.int .i64 0)] := by kernel_rfl
theorem sz27 : szOf Tryz.prog 27 = some 2 := by kernel_rfl
abbrev bank_waveOf_h1_post (e_v0 : Int) (e_v1 : S_api_Chirp) (Fr0 : Rd) (Hr : List Ent) (r : (List Int)) : SV → Mem → Prop := fun s Me => ∃ q1, s = (.ptr q1 0) ∧ Has Fr0 Me (([.obj q1 (.row 105 .whole (r.flatMap enc3)), tb0, tb1, tb2, tb3] : List Ent) ++ Hr)

def bank_waveOf_h1_1 (F : Nat) (e_v0 : Int) (e_v1 : S_api_Chirp) : Nat → Int → Int → S_api_Chirp → (List Int) → Option ((List Int))
  | 0, _, _, _, _ => none
  | N + 1, v10, v11, c32, l35 =>
    bif (decide (v11 < v10)) then
      bnd (bank_table F (Int.tmod (w64 ((w64 (c32.P * v11)) + (w64 ((w64 (c32.Q * v11)) * v11)))) (64 : Int))) fun r38 =>
      bnd (inA v11 64) fun o40 =>
      bnd (upd l35 (((0 + o40 * 1) : Nat) : Int) r38) fun l41 =>
      (bank_waveOf_h1_1 F e_v0 e_v1 N) v10 (w64 (v11 + (1 : Int))) c32 l41
    else
      bnd (bank_wave_samples F l35) fun l44 =>
      bnd (bank_wave_samples F l35) fun l47 =>
      bnd (bank_product F l44 l47) fun r50 =>
      bnd (upd l35 ((65 : Nat) : Int) r50) fun l53 =>
      some l53

theorem bank_waveOf_h1_1_ok (F : Nat) (e_v0 : Int) (e_v1 : S_api_Chirp) (Fr0 : Rd) (Hr : List Ent) : ∀ (N : Nat), ∀ (v10 v11 : Int) (c32 : S_api_Chirp) (l35 : (List Int)) (b32 b35 : Pos) (M : Mem) (r : (List Int)) (hH : Has Fr0 M (([.obj b32 (.row 27 .whole [(.int .i64 c32.P), (.int .i64 c32.Q)]), .obj b35 (.row 105 .whole (l35.flatMap enc3)), tb0, tb1, tb2, tb3] : List Ent) ++ Hr)), bank_waveOf_h1_1 F e_v0 e_v1 N v10 v11 c32 l35 = some r → Run Tryz.prog ⟨⟨26, [], none⟩, []⟩ 42 (bank_waveOf_h1_post e_v0 e_v1 Fr0 Hr r) [(3, (.ptr b32 0)), (5, (.ptr b35 0)), (10, (.int .i64 v10)), (11, (.int .i64 v11))] [codeC Tryz.prog 26 [1, 1, 0, 1, 0, 0], loopC Tryz.prog 26 [1, 1, 0, 1, 0, 0], .inBlock 0, codeC Tryz.prog 26 [1, 1, 1]] M := by
  intro N
  induction N with
  | zero =>
    intro v10 v11 c32 l35 b32 b35 M r hH h
    simp [bank_waveOf_h1_1] at h
  | succ N ih =>
    intro v10 v11 c32 l35 b32 b35 M r hH h
    rw [bank_waveOf_h1_1] at h
    refine Run.seq (Run.region ?_)
    refine Run.opG wantS_none (ex_lss rfl rfl) rfl ?_
    refine Run.opsEnd (Run.seq ?_)
    rcases btf ((decide (v11 < v10))) with hc37 | hc37
    · have h := bif_t hc37 h
      refine Run.condT' rfl hc37 ?_
      refine Run.skip (Run.seq (Run.block (Run.seq (Run.region ?_))))
      refine Run.opG wantS_none (ex_move rfl) rfl ?_
      refine Run.opG wantS_none (ex_assign rfl) rfl ?_
      refine Run.opsEnd ?_
      refine Run.drawG plan26_1_1_0_1_0_0_1_1_0_0_1 ?_
      refine DrawG.fl rfl (ev_ex wantS_none (ex_move rfl)) rfl ?_
      refine DrawG.fl rfl (ev_ex wantS_none (ex_move rfl)) rfl ?_
      refine DrawG.fl rfl (ev_ex wantS_none (ex_fieldAddr rfl off27_0)) rfl ?_
      refine DrawG.fl rfl (ev_ex wantS_none (ex_load1 rfl (hH.cells (i := 0) rfl 0 rfl) rdLe_rfl agg3)) rfl ?_
      refine DrawG.fl rfl (ev_ex wantS_none (ex_move rfl)) rfl ?_
      refine DrawG.fl rfl (ev_ex wantS_none (ex_mul rfl rfl)) rfl ?_
      refine DrawG.fl rfl (ev_ex wantS_none (ex_fieldAddr rfl off27_1)) rfl ?_
      refine DrawG.fl rfl (ev_ex wantS_none (ex_load1 rfl (hH.cells (i := 0) rfl 1 rfl) rdLe_rfl agg3)) rfl ?_
      refine DrawG.fl rfl (ev_ex wantS_none (ex_move rfl)) rfl ?_
      refine DrawG.fl rfl (ev_ex wantS_none (ex_mul rfl rfl)) rfl ?_
      refine DrawG.fl rfl (ev_ex wantS_none (ex_move rfl)) rfl ?_
      refine DrawG.fl rfl (ev_ex wantS_none (ex_mul rfl rfl)) rfl ?_
      refine DrawG.fl rfl (ev_ex wantS_none (ex_add rfl rfl)) rfl ?_
      refine DrawG.fl rfl (ev_ex wantS_none (ex_rem rfl rfl (by decide))) rfl ?_
      refine DrawG.fl rfl (ev_ex wantS_none (ex_nilP rfl)) rfl ?_
      refine DrawG.fl rfl (ev_ex wantS_none (ex_fieldAddr rfl off105_0)) rfl ?_
      obtain ⟨r38, hr38, h⟩ := bnd_some h
      refine DrawG.callP rfl wantS_none (ex_call rfl mkk72 cal72) rfl (bank_table_ok F (Int.tmod (w64 ((w64 (c32.P * v11)) + (w64 ((w64 (c32.Q * v11)) * v11)))) (64 : Int)) _ _ (fixH hH (List.mem_of_getElem? (i := 2) rfl) (List.mem_of_getElem? (i := 3) rfl) (List.mem_of_getElem? (i := 4) rfl) (List.mem_of_getElem? (i := 5) rfl)) hr38) (st_cons rfl (ev_ex wantS_none (ex_fieldAddr rfl off105_0)) rfl rfl rfl (st_cons rfl (ev_ex wantS_none (ex_nilP rfl)) rfl rfl rfl (st_cons rfl (ev_ex wantS_none (ex_move rfl)) rfl rfl rfl (st_cons rfl (ev_ex wantS_none (ex_move rfl)) rfl rfl rfl st_nil)))) ?_
      obtain ⟨o40, ho40, h⟩ := bnd_some h
      refine DrawG.fl rfl (ev_ex wantS_none (ex_elX rfl rfl (arr_place (inA_natIn ho40) els103))) rfl ?_
      obtain ⟨l41, hl41, h⟩ := bnd_some h
      refine DrawG.opX rfl wantS_none rfl (ExG.storeA rfl rfl hH (i := 1) rfl hl41 sz3 rfl enc3_len enc3_ones) ?_
      rintro _ M42 ⟨rfl, (hH42 : Has Fr0 M42 (([.obj b32 (.row 27 .whole [(.int .i64 c32.P), (.int .i64 c32.Q)]), .obj b35 (.row 105 .whole (l41.flatMap enc3)), tb0, tb1, tb2, tb3] : List Ent) ++ Hr))⟩
      refine ⟨st_nil, ?_⟩
      refine DrawG.sync ?_
      refine DrawG.nil ?_
      refine Run.inBlock (Run.region ?_)
      refine Run.opG wantS_none (ex_add rfl rfl) rfl ?_
      refine Run.opG wantS_none (ex_move rfl) rfl ?_
      refine Run.opsEnd (Run.inLoop ?_)
      exact Run.pick [3, 5, 10, 11] (ih v10 (w64 (v11 + (1 : Int))) c32 l41 b32 b35 _ _ hH42 h)
    · have h := bif_f hc37 h
      refine Run.condF' rfl hc37 ?_
      refine Run.exit rfl (Run.seq (Run.region ?_))
      refine Run.opG wantS_none (ex_move rfl) rfl ?_
      refine Run.opG wantS_none (ex_move rfl) rfl ?_
      obtain ⟨l44, hl44, h⟩ := bnd_some h
      have hs44 := bank_wave_samples_slc F hH (i := 1) rfl hl44
      refine Run.callP wantS_none (ex_call rfl mkk27 cal27) rfl (bank_wave_samples_ok F hH (i := 1) rfl hl44) ?_
      refine Run.opG wantS_none (ex_move rfl) rfl ?_
      obtain ⟨l47, hl47, h⟩ := bnd_some h
      have hs47 := bank_wave_samples_slc F hH (i := 1) rfl hl47
      refine Run.callP wantS_none (ex_call rfl mkk27 cal27) rfl (bank_wave_samples_ok F hH (i := 1) rfl hl47) ?_
      obtain ⟨r50, hr50, h⟩ := bnd_some h
      refine Run.callP wantS_none (ex_call rfl mkk73 cal73) rfl (bank_product_ok F l44 l47 (.slice b35 0 l44.length 64) (.slice b35 0 l47.length 64) _ _ hs44 hs47 hr50) ?_
      refine Run.opG wantS_none (ex_nilP rfl) rfl ?_
      refine Run.opG wantS_none (ex_fieldAddr rfl off105_2) rfl ?_
      obtain ⟨l53, hl53, h⟩ := bnd_some h
      refine Run.opX wantS_none rfl (ExG.storeA rfl rfl hH (i := 1) rfl hl53 sz3 rfl enc3_len enc3_ones) ?_
      rintro _ M54 ⟨rfl, (hH54 : Has Fr0 M54 (([.obj b32 (.row 27 .whole [(.int .i64 c32.P), (.int .i64 c32.Q)]), .obj b35 (.row 105 .whole (l53.flatMap enc3)), tb0, tb1, tb2, tb3] : List Ent) ++ Hr))⟩
      refine Run.opsEnd (Run.seq (Run.region ?_))
      refine Run.opG wantS_none (ex_move rfl) rfl ?_
      refine Run.opG wantS_none (ex_assign rfl) rfl ?_
      refine Run.opsEnd ?_
      cases h
      exact Run.ret Tryz.func26 rfl (res_tmp rfl res_nil) ⟨_, rfl, (hH54.pickT [1, 2, 3, 4, 5] rfl rfl).upF (fun b c hb => hH54.base b c hb)⟩

def bank_waveOf_h1 (F : Nat) (e_v0 : Int) (e_v1 : S_api_Chirp) : Option ((List Int)) :=
  bank_waveOf_h1_1 F e_v0 e_v1 F e_v0 (0 : Int) e_v1 ([0, 0, 0, 0, 0, 0, 0, 0, 0, 0, 0, 0, 0, 0, 0, 0, 0, 0, 0, 0, 0, 0, 0, 0, 0, 0, 0, 0, 0, 0, 0, 0, 0, 0, 0, 0, 0, 0, 0, 0, 0, 0, 0, 0, 0, 0, 0, 0, 0, 0, 0, 0, 0, 0, 0, 0, 0, 0, 0, 0, 0, 0, 0, 0, e_v0, 0] : List Int)

theorem bank_waveOf_h1_ok (F : Nat) : ∀ (e_v0 : Int) (e_v1 : S_api_Chirp) (Fr0 : Rd) (Hr : List Ent) (M : Mem) (r : (List Int)) (hH : Has Fr0 M (([tb0, tb1, tb2, tb3] : List Ent) ++ Hr)) (h : bank_waveOf_h1 F e_v0 e_v1 = some r), CallsM Tryz.prog 26 [(.int .i64 e_v0), (.agg [(.int .i64 e_v1.P), (.int .i64 e_v1.Q)])] M (bank_waveOf_h1_post e_v0 e_v1 Fr0 Hr r) := by
  intro e_v0 e_v1 Fr0 Hr M r hH h
  refine CallsM.run Tryz.func26 rfl rfl (show Run _ _ _ (bank_waveOf_h1_post e_v0 e_v1 Fr0 Hr r) _ _ _ from ?_)
  rw [bank_waveOf_h1] at h
  refine Run.seq (Run.region ?_)
  refine Run.opX wantS_none rfl (ExG.box rfl rfl hH) ?_
  rintro _ M33 ⟨b32, rfl, (hH33 : Has Fr0 M33 (([.obj b32 (.row 27 .whole [(.int .i64 e_v1.P), (.int .i64 e_v1.Q)]), tb0, tb1, tb2, tb3] : List Ent) ++ Hr))⟩
  refine Run.opG wantS_none (ex_assign rfl) rfl ?_
  refine Run.opsEnd (Run.seq (Run.region ?_))
  refine Run.opG wantS_none (ex_move rfl) rfl ?_
  refine Run.opG wantS_none (ex_build (r := [(.int .i64 0), (.int .i64 0), (.int .i64 0), (.int .i64 0), (.int .i64 0), (.int .i64 0), (.int .i64 0), (.int .i64 0), (.int .i64 0), (.int .i64 0), (.int .i64 0), (.int .i64 0), (.int .i64 0), (.int .i64 0), (.int .i64 0), (.int .i64 0), (.int .i64 0), (.int .i64 0), (.int .i64 0), (.int .i64 0), (.int .i64 0), (.int .i64 0), (.int .i64 0), (.int .i64 0), (.int .i64 0), (.int .i64 0), (.int .i64 0), (.int .i64 0), (.int .i64 0), (.int .i64 0), (.int .i64 0), (.int .i64 0), (.int .i64 0), (.int .i64 0), (.int .i64 0), (.int .i64 0), (.int .i64 0), (.int .i64 0), (.int .i64 0), (.int .i64 0), (.int .i64 0), (.int .i64 0), (.int .i64 0), (.int .i64 0), (.int .i64 0), (.int .i64 0), (.int .i64 0), (.int .i64 0), (.int .i64 0), (.int .i64 0), (.int .i64 0), (.int .i64 0), (.int .i64 0), (.int .i64 0), (.int .i64 0), (.int .i64 0), (.int .i64 0), (.int .i64 0), (.int .i64 0), (.int .i64 0), (.int .i64 0), (.int .i64 0), (.int .i64 0), (.int .i64 0), (.int .i64 e_v0), (.int .i64 0)]) rfl zer105 pls105 rfl) rfl ?_
  refine Run.opX wantS_none rfl (ExG.box (c := ([0, 0, 0, 0, 0, 0, 0, 0, 0, 0, 0, 0, 0, 0, 0, 0, 0, 0, 0, 0, 0, 0, 0, 0, 0, 0, 0, 0, 0, 0, 0, 0, 0, 0, 0, 0, 0, 0, 0, 0, 0, 0, 0, 0, 0, 0, 0, 0, 0, 0, 0, 0, 0, 0, 0, 0, 0, 0, 0, 0, 0, 0, 0, 0, e_v0, 0] : List Int).flatMap enc3) rfl rfl hH33) ?_
  rintro _ M36 ⟨b35, rfl, (hH36 : Has Fr0 M36 (([.obj b35 (.row 105 .whole (([0, 0, 0, 0, 0, 0, 0, 0, 0, 0, 0, 0, 0, 0, 0, 0, 0, 0, 0, 0, 0, 0, 0, 0, 0, 0, 0, 0, 0, 0, 0, 0, 0, 0, 0, 0, 0, 0, 0, 0, 0, 0, 0, 0, 0, 0, 0, 0, 0, 0, 0, 0, 0, 0, 0, 0, 0, 0, 0, 0, 0, 0, 0, 0, e_v0, 0] : List Int).flatMap enc3)), .obj b32 (.row 27 .whole [(.int .i64 e_v1.P), (.int .i64 e_v1.Q)]), tb0, tb1, tb2, tb3] : List Ent) ++ Hr))⟩
  refine Run.opG wantS_none (ex_assign rfl) rfl ?_
  refine Run.opsEnd (Run.seq (Run.seq (Run.region ?_)))
  refine Run.opG wantS_none (ex_move rfl) rfl ?_
  refine Run.opG wantS_none (ex_move rfl) rfl ?_
  refine Run.opsEnd (Run.block (Run.loop ?_))
  exact Run.pick [3, 5, 10, 11] (bank_waveOf_h1_1_ok F e_v0 e_v1 Fr0 Hr F e_v0 (0 : Int) e_v1 ([0, 0, 0, 0, 0, 0, 0, 0, 0, 0, 0, 0, 0, 0, 0, 0, 0, 0, 0, 0, 0, 0, 0, 0, 0, 0, 0, 0, 0, 0, 0, 0, 0, 0, 0, 0, 0, 0, 0, 0, 0, 0, 0, 0, 0, 0, 0, 0, 0, 0, 0, 0, 0, 0, 0, 0, 0, 0, 0, 0, 0, 0, 0, 0, e_v0, 0] : List Int) b32 b35 _ _ (hH36.pickT [1, 0, 2, 3, 4, 5] rfl rfl) h)

theorem slk43 : slK Tryz.prog 43 = some (.sl 2) := by kernel_rfl
theorem agk27 : aggK Tryz.prog 27 = some (.st [⟨ "P", 3, 0, false, "", "", 0⟩, ⟨ "Q", 3, 1, false, "", "", 8⟩]) := by kernel_rfl
theorem aeq27 : aggEq Tryz.prog 27 = false := by kernel_rfl
theorem plan130_1_0_1_0_0_1_1_0_0_1_0 : planOf Tryz.prog (opsC (atC Tryz.prog 130 [1, 0, 1, 0, 0, 1, 1, 0, 0, 1, 0])) = some [.fl 0, .fl 1, .fl 2, .fl 3, .fl 4, .fl 5, .sync] := by kernel_rfl
end Go.Ev.BankSure
