/- Plain functions that say what functions of the program come to, and proofs of it, written by a program of the verifier's own. -/
import Derived.Test.YtdcgepenffjdcaaGreatDoorEvL8
import Derived.Test.YtdcgepenffjdcaaGreatDoorWorks
import Derived.KernelRfl
namespace Go.Ev.GlitchTransforms
open Go Go.Ev Go.Proofs
set_option maxRecDepth 100000
set_option linter.unusedVariables false

/-- The listed tables. -/
noncomputable def fixes : List (Nat × List SV) := Go.Proofs.YtdcgepenffjdcaaGreatDoor.works.fixes
noncomputable def tb0 : Ent := fixE (2, intCells .u8 [0, 1, 56, 2, 57, 49, 28, 3, 61, 58, 42, 50, 38, 29, 17, 4, 62, 47, 59, 36, 45, 43, 51, 22, 53, 39, 33, 30, 24, 18, 12, 5, 63, 55, 48, 27, 60, 41, 37, 16, 46, 35, 44, 21, 52, 32, 23, 11, 54, 26, 40, 15, 34, 20, 31, 10, 25, 14, 19, 9, 13, 8, 7, 6])
noncomputable def tb1 : Ent := fixE (5, intCells .u8 [0, 1, 28, 2, 29, 14, 24, 3, 30, 22, 20, 15, 25, 17, 4, 8, 31, 27, 13, 23, 21, 19, 16, 7, 26, 12, 18, 6, 11, 5, 10, 9])
noncomputable def tb2 : Ent := fixE (4, intCells .u64 [1, 10, 100, 1000, 10000, 100000, 1000000, 10000000, 100000000, 1000000000, 10000000000, 100000000000, 1000000000000, 10000000000000, 100000000000000, 1000000000000000, 10000000000000000, 100000000000000000, 1000000000000000000, 10000000000000000000])
/-- works() comes to true. -/
def works (_ : Nat) : Option Bool := some true
theorem works_ok (F : Nat) (r : Bool) {Fr : Rd} {H : List Ent} (M : Mem) (hH : Has Fr M H) (h0 : tb0 ∈ H) (h1 : tb1 ∈ H) (h2 : tb2 ∈ H) (h : works F = some r) : CallsM Tryz.prog 24 [] M fun s M' => s = .bool r ∧ M' = M := by
  cases h
  refine CallsM.closedFix (n := 300) (l := Go.Proofs.YtdcgepenffjdcaaGreatDoor.works.fixes) Go.Proofs.YtdcgepenffjdcaaGreatDoor.works.below Go.Proofs.YtdcgepenffjdcaaGreatDoor.works.plainF Go.Proofs.YtdcgepenffjdcaaGreatDoor.works.works_true (hH.fixIn fun x hx => ?_)
  simp only [Go.Proofs.YtdcgepenffjdcaaGreatDoor.works.fixes, List.mem_cons, List.not_mem_nil, or_false] at hx
  rcases hx with rfl | rfl | rfl
  · exact h0
  · exact h1
  · exact h2


def enc3 (a : Int) : List SV := [(.int .i64 a)]
theorem enc3_len (a : Int) : (enc3 a).length = 1 := rfl
theorem enc3_ones (a : Int) : ones (enc3 a) = true := rfl
theorem lenk22 : lenK Tryz.prog 22 = some .sl := by kernel_rfl
abbrev glitch_isFrom_post (r : Bool) : SV → Mem → Prop := fun s _ => s = (.bool r)

def glitch_isFrom_1 (F : Nat) (v14 : Bool) : Option (Bool) :=
  some v14

theorem glitch_isFrom_1_ok (F : Nat) : ∀ (v14 : Bool) (Fr : Rd) (M : Mem) (r : Bool) (hH : Has Fr M []), glitch_isFrom_1 F v14 = some r → Run Tryz.prog ⟨⟨98, [], none⟩, []⟩ 15 (glitch_isFrom_post r) [(14, (.bool v14))] [itemC Tryz.prog 98 [1, 0] 8, codeC Tryz.prog 98 [1, 1]] M := by
  intro v14 Fr M r hH h
  rw [glitch_isFrom_1] at h
  refine Run.opG wantS_none (ex_assign rfl) rfl ?_
  refine Run.opsEnd ?_
  cases h
  exact Run.ret Tryz.func98 rfl (res_tmp rfl res_nil) rfl

def glitch_isFrom (F : Nat) (a0 : Int) (a1 : Int) (a2 : Int) : Option (Bool) :=
  bif (decide (a0 ≤ a1)) then
    glitch_isFrom_1 F (decide (a1 ≤ a2))
  else
    glitch_isFrom_1 F false

theorem glitch_isFrom_ok (F : Nat) (a0 : Int) (a1 : Int) (a2 : Int) (r : Bool) (M : Mem) (h : glitch_isFrom F a0 a1 a2 = some r) : CallsM Tryz.prog 98 [(.int .i64 a0), (.int .i64 a1), (.int .i64 a2)] M (fun s M' => s = (.bool r) ∧ M' = M) := by
  refine CallsM.plain Tryz.func98 rfl rfl rfl (show Run _ _ _ (glitch_isFrom_post r) _ _ _ from ?_)
  rw [glitch_isFrom] at h
  have hH := Has.nil (frozen M)
  refine Run.seq (Run.region ?_)
  refine Run.opG wantS_none (ex_assign rfl) rfl ?_
  refine Run.opsEnd (Run.seq (Run.region ?_))
  refine Run.opG wantS_none (ex_move rfl) rfl ?_
  refine Run.opG wantS_none (ex_move rfl) rfl ?_
  refine Run.opG wantS_none (ex_leq rfl rfl) rfl ?_
  refine Run.opG wantS_none (ex_move rfl) rfl ?_
  rcases btf ((decide (a0 ≤ a1))) with hc1 | hc1
  · have h := bif_t hc1 h
    refine Run.opG (wantS_yes' rfl rfl hc1) (ex_move rfl) rfl ?_
    refine Run.opG (wantS_yes' rfl rfl hc1) (ex_move rfl) rfl ?_
    refine Run.opG (wantS_yes' rfl rfl hc1) (ex_leq rfl rfl) rfl ?_
    refine Run.opG wantS_none (ex_pickT' rfl hc1 rfl rfl) rfl ?_
    exact Run.pick [14] (glitch_isFrom_1_ok F (decide (a1 ≤ a2)) _ _ _ hH h)
  · have h := bif_f hc1 h
    refine Run.no (wantS_not' rfl rfl hc1) rfl ?_
    refine Run.no (wantS_not' rfl rfl hc1) rfl ?_
    refine Run.no (wantS_not' rfl rfl hc1) rfl ?_
    refine Run.opG wantS_none (ex_pickF' rfl hc1 rfl rfl) rfl ?_
    exact Run.pick [14] (glitch_isFrom_1_ok F false _ _ _ hH h)

theorem mkk98 : makeK Tryz.prog 98 = none := by kernel_rfl
theorem cal98 : callable Tryz.prog 98 = true := by kernel_rfl
abbrev glitch_isLength_post (r : Bool) : SV → Mem → Prop := fun s _ => s = (.bool r)

def glitch_isLength_1 (F : Nat) (v11 : Bool) : Option (Bool) :=
  some v11

theorem glitch_isLength_1_ok (F : Nat) : ∀ (v11 : Bool) (Fr : Rd) (M : Mem) (r : Bool) (hH : Has Fr M []), glitch_isLength_1 F v11 = some r → Run Tryz.prog ⟨⟨90, [], none⟩, []⟩ 12 (glitch_isLength_post r) [(11, (.bool v11))] [itemC Tryz.prog 90 [1, 0] 9, codeC Tryz.prog 90 [1, 1]] M := by
  intro v11 Fr M r hH h
  rw [glitch_isLength_1] at h
  refine Run.opG wantS_none (ex_assign rfl) rfl ?_
  refine Run.opsEnd ?_
  cases h
  exact Run.ret Tryz.func90 rfl (res_tmp rfl res_nil) rfl

def glitch_isLength (F : Nat) (a0 : Int) : Option (Bool) :=
  bnd (glitch_isFrom F (1 : Int) a0 (1024 : Int)) fun r1 =>
  bif r1 then
    bnd (bitZ Nat.land .i64 a0 (w64 (a0 - (1 : Int)))) fun z4 =>
    glitch_isLength_1 F (z4 == (0 : Int))
  else
    glitch_isLength_1 F false

theorem glitch_isLength_ok (F : Nat) (a0 : Int) (r : Bool) (M : Mem) (h : glitch_isLength F a0 = some r) : CallsM Tryz.prog 90 [(.int .i64 a0)] M (fun s M' => s = (.bool r) ∧ M' = M) := by
  refine CallsM.plain Tryz.func90 rfl rfl rfl (show Run _ _ _ (glitch_isLength_post r) _ _ _ from ?_)
  rw [glitch_isLength] at h
  have hH := Has.nil (frozen M)
  refine Run.seq (Run.region ?_)
  refine Run.opG wantS_none (ex_assign rfl) rfl ?_
  refine Run.opsEnd (Run.seq (Run.region ?_))
  refine Run.opG wantS_none (ex_move rfl) rfl ?_
  obtain ⟨r1, hr1, h⟩ := bnd_some h
  refine Run.callP wantS_none (ex_call rfl mkk98 cal98) rfl (glitch_isFrom_ok F (1 : Int) a0 (1024 : Int) _ _ hr1) ?_
  refine Run.opG wantS_none (ex_move rfl) rfl ?_
  rcases btf (r1) with hc3 | hc3
  · have h := bif_t hc3 h
    refine Run.opG (wantS_yes' rfl rfl hc3) (ex_move rfl) rfl ?_
    refine Run.opG (wantS_yes' rfl rfl hc3) (ex_move rfl) rfl ?_
    refine Run.opG (wantS_yes' rfl rfl hc3) (ex_sub rfl rfl) rfl ?_
    obtain ⟨z4, hz4, h⟩ := bnd_some h
    refine Run.opG (wantS_yes' rfl rfl hc3) (ex_and rfl rfl hz4) rfl ?_
    refine Run.opG (wantS_yes' rfl rfl hc3) (ex_eql rfl rfl) rfl ?_
    refine Run.opG wantS_none (ex_pickT' rfl hc3 rfl rfl) rfl ?_
    exact Run.pick [11] (glitch_isLength_1_ok F (z4 == (0 : Int)) _ _ _ hH h)
  · have h := bif_f hc3 h
    refine Run.no (wantS_not' rfl rfl hc3) rfl ?_
    refine Run.no (wantS_not' rfl rfl hc3) rfl ?_
    refine Run.no (wantS_not' rfl rfl hc3) rfl ?_
    refine Run.no (wantS_not' rfl rfl hc3) rfl ?_
    refine Run.no (wantS_not' rfl rfl hc3) rfl ?_
    refine Run.opG wantS_none (ex_pickF' rfl hc3 rfl rfl) rfl ?_
    exact Run.pick [11] (glitch_isLength_1_ok F false _ _ _ hH h)

theorem mkk90 : makeK Tryz.prog 90 = none := by kernel_rfl
theorem cal90 : callable Tryz.prog 90 = true := by kernel_rfl
theorem els22 : elems Tryz.prog 22 = some (.sl 1) := by kernel_rfl
theorem agg3 : aggSize Tryz.prog 3 = some none := by kernel_rfl
abbrev glitch_areFrom_post (r : Bool) : SV → Mem → Prop := fun s _ => s = (.bool r)

def glitch_areFrom_1 (F : Nat) : Nat → Int → (List Int) → Int → Int → Option (Bool)
  | 0, _, _, _, _ => none
  | N + 1, v1, v7, v8, v9 =>
    bif (decide (v9 < v8)) then
      bnd (idx v7 v9) fun x2 =>
      bnd (glitch_isFrom F (w64 (-v1)) x2 v1) fun r3 =>
      bif (!r3) then
        some false
      else
        (glitch_areFrom_1 F N) v1 v7 v8 (w64 (v9 + (1 : Int)))
    else
      some true

theorem glitch_areFrom_1_ok (F : Nat) : ∀ (N : Nat), ∀ (v1 : Int) (v7 : (List Int)) (v8 : Int) (v9 : Int) (sv7 : SV) (Fr : Rd) (M : Mem) (r : Bool) (hv7 : Slc Fr 1 (FlatR enc3) sv7 v7) (hH : Has Fr M []), glitch_areFrom_1 F N v1 v7 v8 v9 = some r → Run Tryz.prog ⟨⟨91, [], none⟩, []⟩ 20 (glitch_areFrom_post r) [(1, (.int .i64 v1)), (7, sv7), (8, (.int .i64 v8)), (9, (.int .i64 v9))] [codeC Tryz.prog 91 [1, 0, 1, 0, 0], loopC Tryz.prog 91 [1, 0, 1, 0, 0], .inBlock 0, codeC Tryz.prog 91 [1, 1]] M := by
  intro N
  induction N with
  | zero =>
    intro v1 v7 v8 v9 sv7 Fr M r hv7 hH h
    simp [glitch_areFrom_1] at h
  | succ N ih =>
    intro v1 v7 v8 v9 sv7 Fr M r hv7 hH h
    rw [glitch_areFrom_1] at h
    refine Run.seq (Run.region ?_)
    refine Run.opG wantS_none (ex_lss rfl rfl) rfl ?_
    refine Run.opsEnd (Run.seq ?_)
    rcases btf ((decide (v9 < v8))) with hc1 | hc1
    · have h := bif_t hc1 h
      refine Run.condT' rfl hc1 ?_
      refine Run.skip (Run.seq (Run.block (Run.seq (Run.region ?_))))
      obtain ⟨x2, hx2, h⟩ := bnd_some h
      obtain ⟨p2, o2, _, hx2, hp2, rfl⟩ := sl_elem (P := Tryz.prog) (t := 22) (kk := .i64) hv7 hx2 els22
      refine Run.opG wantS_none (ex_elX rfl rfl hx2) rfl ?_
      refine Run.opG wantS_none (ex_load1 rfl (hH.ptrF hp2) rdLe_rfl agg3) rfl ?_
      refine Run.opG wantS_none (ex_assign rfl) rfl ?_
      refine Run.opsEnd (Run.seq (Run.region ?_))
      refine Run.opG wantS_none (ex_move rfl) rfl ?_
      refine Run.opG wantS_none (ex_neg rfl) rfl ?_
      refine Run.opG wantS_none (ex_move rfl) rfl ?_
      refine Run.opG wantS_none (ex_move rfl) rfl ?_
      obtain ⟨r3, hr3, h⟩ := bnd_some h
      refine Run.callP wantS_none (ex_call rfl mkk98 cal98) rfl (glitch_isFrom_ok F (w64 (-v1)) x2 v1 _ _ hr3) ?_
      refine Run.opG wantS_none (ex_not rfl) rfl ?_
      refine Run.opsEnd ?_
      rcases btf ((!r3)) with hc5 | hc5
      · have h := bif_t hc5 h
        refine Run.condT' rfl hc5 ?_
        refine Run.seq (Run.region ?_)
        refine Run.opG wantS_none (ex_assign rfl) rfl ?_
        refine Run.opsEnd ?_
        cases h
        exact Run.ret Tryz.func91 rfl (res_tmp rfl res_nil) rfl
      · have h := bif_f hc5 h
        refine Run.condF' rfl hc5 ?_
        refine Run.skip (Run.inBlock (Run.region ?_))
        refine Run.opG wantS_none (ex_add rfl rfl) rfl ?_
        refine Run.opG wantS_none (ex_move rfl) rfl ?_
        refine Run.opsEnd (Run.inLoop ?_)
        exact Run.pick [1, 7, 8, 9] (ih v1 v7 v8 (w64 (v9 + (1 : Int))) sv7 _ _ _ hv7 hH h)
    · have h := bif_f hc1 h
      refine Run.condF' rfl hc1 ?_
      refine Run.exit rfl (Run.seq (Run.region ?_))
      refine Run.opG wantS_none (ex_assign rfl) rfl ?_
      refine Run.opsEnd ?_
      cases h
      exact Run.ret Tryz.func91 rfl (res_tmp rfl res_nil) rfl

def glitch_areFrom (F : Nat) (a0 : (List Int)) (a1 : Int) : Option (Bool) :=
  glitch_areFrom_1 F F a1 a0 (a0.length : Int) (0 : Int)

theorem glitch_areFrom_ok (F : Nat) (a0 : (List Int)) (a1 : Int) (s0 : SV) (r : Bool) (M : Mem) (hs0 : Slc (rd M) 1 (FlatR enc3) s0 a0) (h : glitch_areFrom F a0 a1 = some r) : CallsM Tryz.prog 91 [s0, (.int .i64 a1)] M (fun s M' => s = (.bool r) ∧ M' = M) := by
  refine CallsM.plain Tryz.func91 rfl rfl rfl (show Run _ _ _ (glitch_areFrom_post r) _ _ _ from ?_)
  rw [glitch_areFrom] at h
  replace hs0 := hs0.mono (rdLe_frozen M) (fun _ _ h => h)
  have hH := Has.nil (frozen M)
  refine Run.seq (Run.region ?_)
  refine Run.opG wantS_none (ex_assign rfl) rfl ?_
  refine Run.opsEnd (Run.seq (Run.seq (Run.region ?_)))
  refine Run.opG wantS_none (ex_move rfl) rfl ?_
  refine Run.opG wantS_none (ex_len' rfl hs0 lenk22) rfl ?_
  refine Run.opG wantS_none (ex_move rfl) rfl ?_
  refine Run.opsEnd (Run.block (Run.loop ?_))
  exact Run.pick [1, 7, 8, 9] (glitch_areFrom_1_ok F F a1 a0 (a0.length : Int) (0 : Int) s0 _ _ _ hs0 hH h)

theorem mkk91 : makeK Tryz.prog 91 = none := by kernel_rfl
theorem cal91 : callable Tryz.prog 91 = true := by kernel_rfl
abbrev glitch_isSignal_post (r : Bool) : SV → Mem → Prop := fun s _ => s = (.bool r)

def glitch_isSignal_1 (F : Nat) (v9 : Bool) : Option (Bool) :=
  some v9

theorem glitch_isSignal_1_ok (F : Nat) : ∀ (v9 : Bool) (Fr : Rd) (M : Mem) (r : Bool) (hH : Has Fr M []), glitch_isSignal_1 F v9 = some r → Run Tryz.prog ⟨⟨48, [], none⟩, []⟩ 10 (glitch_isSignal_post r) [(9, (.bool v9))] [itemC Tryz.prog 48 [1, 0] 7, codeC Tryz.prog 48 [1, 1]] M := by
  intro v9 Fr M r hH h
  rw [glitch_isSignal_1] at h
  refine Run.opG wantS_none (ex_assign rfl) rfl ?_
  refine Run.opsEnd ?_
  cases h
  exact Run.ret Tryz.func48 rfl (res_tmp rfl res_nil) rfl

def glitch_isSignal (F : Nat) (a0 : (List Int)) : Option (Bool) :=
  bnd (glitch_isLength F (a0.length : Int)) fun r1 =>
  bif r1 then
    bnd (glitch_areFrom F a0 (1048576 : Int)) fun r4 =>
    glitch_isSignal_1 F r4
  else
    glitch_isSignal_1 F false

theorem glitch_isSignal_ok (F : Nat) (a0 : (List Int)) (s0 : SV) (r : Bool) (M : Mem) (hs0 : Slc (rd M) 1 (FlatR enc3) s0 a0) (h : glitch_isSignal F a0 = some r) : CallsM Tryz.prog 48 [s0] M (fun s M' => s = (.bool r) ∧ M' = M) := by
  refine CallsM.plain Tryz.func48 rfl rfl rfl (show Run _ _ _ (glitch_isSignal_post r) _ _ _ from ?_)
  rw [glitch_isSignal] at h
  replace hs0 := hs0.mono (rdLe_frozen M) (fun _ _ h => h)
  have hH := Has.nil (frozen M)
  refine Run.seq (Run.region ?_)
  refine Run.opG wantS_none (ex_assign rfl) rfl ?_
  refine Run.opsEnd (Run.seq (Run.region ?_))
  refine Run.opG wantS_none (ex_move rfl) rfl ?_
  refine Run.opG wantS_none (ex_len' rfl hs0 lenk22) rfl ?_
  obtain ⟨r1, hr1, h⟩ := bnd_some h
  refine Run.callP wantS_none (ex_call rfl mkk90 cal90) rfl (glitch_isLength_ok F (a0.length : Int) _ _ hr1) ?_
  refine Run.opG wantS_none (ex_move rfl) rfl ?_
  rcases btf (r1) with hc3 | hc3
  · have h := bif_t hc3 h
    refine Run.opG (wantS_yes' rfl rfl hc3) (ex_move rfl) rfl ?_
    obtain ⟨r4, hr4, h⟩ := bnd_some h
    refine Run.callP (wantS_yes' rfl rfl hc3) (ex_call rfl mkk91 cal91) rfl (glitch_areFrom_ok F a0 (1048576 : Int) s0 _ _ (hH.slcF hs0) hr4) ?_
    refine Run.opG wantS_none (ex_pickT' rfl hc3 rfl rfl) rfl ?_
    exact Run.pick [9] (glitch_isSignal_1_ok F r4 _ _ _ hH h)
  · have h := bif_f hc3 h
    refine Run.no (wantS_not' rfl rfl hc3) rfl ?_
    refine Run.no (wantS_not' rfl rfl hc3) rfl ?_
    refine Run.opG wantS_none (ex_pickF' rfl hc3 rfl rfl) rfl ?_
    exact Run.pick [9] (glitch_isSignal_1_ok F false _ _ _ hH h)

theorem mkk48 : makeK Tryz.prog 48 = none := by kernel_rfl
theorem cal48 : callable Tryz.prog 48 = true := by kernel_rfl
abbrev glitch_CheckSignal_post (r : Int) : SV → Mem → Prop := fun s _ => s = (.int .i64 r)

def glitch_CheckSignal (F : Nat) (a0 : (List Int)) : Option (Int) :=
  bnd (glitch_isSignal F a0) fun r1 =>
  bif (!r1) then
    some (60 : Int)
  else
    some (0 : Int)

theorem glitch_CheckSignal_ok (F : Nat) (a0 : (List Int)) (s0 : SV) (r : Int) (M : Mem) (hs0 : Slc (rd M) 1 (FlatR enc3) s0 a0) (h : glitch_CheckSignal F a0 = some r) : CallsM Tryz.prog 15 [s0] M (fun s M' => s = (.int .i64 r) ∧ M' = M) := by
  refine CallsM.plain Tryz.func15 rfl rfl rfl (show Run _ _ _ (glitch_CheckSignal_post r) _ _ _ from ?_)
  rw [glitch_CheckSignal] at h
  replace hs0 := hs0.mono (rdLe_frozen M) (fun _ _ h => h)
  have hH := Has.nil (frozen M)
  refine Run.seq (Run.region ?_)
  refine Run.opG wantS_none (ex_assign rfl) rfl ?_
  refine Run.opsEnd (Run.seq (Run.seq (Run.region ?_)))
  refine Run.opG wantS_none (ex_move rfl) rfl ?_
  obtain ⟨r1, hr1, h⟩ := bnd_some h
  refine Run.callP wantS_none (ex_call rfl mkk48 cal48) rfl (glitch_isSignal_ok F a0 s0 _ _ (hH.slcF hs0) hr1) ?_
  refine Run.opG wantS_none (ex_not rfl) rfl ?_
  refine Run.opsEnd ?_
  rcases btf ((!r1)) with hc3 | hc3
  · have h := bif_t hc3 h
    refine Run.condT' rfl hc3 ?_
    refine Run.seq (Run.region ?_)
    refine Run.opG wantS_none (ex_assign rfl) rfl ?_
    refine Run.opsEnd ?_
    cases h
    exact Run.ret Tryz.func15 rfl (res_tmp rfl res_nil) rfl
  · have h := bif_f hc3 h
    refine Run.condF' rfl hc3 ?_
    refine Run.skip (Run.seq (Run.region ?_))
    refine Run.opG wantS_none (ex_assign rfl) rfl ?_
    refine Run.opsEnd ?_
    cases h
    exact Run.ret Tryz.func15 rfl (res_tmp rfl res_nil) rfl

theorem mkk15 : makeK Tryz.prog 15 = none := by kernel_rfl
theorem cal15 : callable Tryz.prog 15 = true := by kernel_rfl
abbrev ref06_power_post (r : Int) : SV → Mem → Prop := fun s _ => s = (.int .i64 r)

def ref06_power_1 (F : Nat) : Nat → Int → Int → Option (Int)
  | 0, _, _ => none
  | N + 1, v0, v3 =>
    bif (decide (v3 ≤ (10 : Int))) then
      bnd (shn v3) fun j2 =>
      bif (v0 == (w64 ((1 : Int) * 2 ^ (min j2 (IntKind.bits .i64))))) then
        some v3
      else
        (ref06_power_1 F N) v0 (w64 (v3 + (1 : Int)))
    else
      some ((-1) : Int)

theorem ref06_power_1_ok (F : Nat) : ∀ (N : Nat), ∀ (v0 : Int) (v3 : Int) (Fr : Rd) (M : Mem) (r : Int) (hH : Has Fr M []), ref06_power_1 F N v0 v3 = some r → Run Tryz.prog ⟨⟨49, [], none⟩, []⟩ 13 (ref06_power_post r) [(0, (.int .i64 v0)), (3, (.int .i64 v3))] [codeC Tryz.prog 49 [1, 0, 1, 0, 0], loopC Tryz.prog 49 [1, 0, 1, 0, 0], .inBlock 0, codeC Tryz.prog 49 [1, 1]] M := by
  intro N
  induction N with
  | zero =>
    intro v0 v3 Fr M r hH h
    simp [ref06_power_1] at h
  | succ N ih =>
    intro v0 v3 Fr M r hH h
    rw [ref06_power_1] at h
    refine Run.seq (Run.seq (Run.region ?_))
    refine Run.opG wantS_none (ex_move rfl) rfl ?_
    refine Run.opG wantS_none (ex_leq rfl rfl) rfl ?_
    refine Run.opsEnd ?_
    rcases btf ((decide (v3 ≤ (10 : Int)))) with hc1 | hc1
    · have h := bif_t hc1 h
      refine Run.condT' rfl hc1 ?_
      refine Run.skip (Run.seq (Run.block (Run.seq (Run.region ?_))))
      refine Run.opG wantS_none (ex_move rfl) rfl ?_
      refine Run.opG wantS_none (ex_move rfl) rfl ?_
      obtain ⟨j2, hj2, h⟩ := bnd_some h
      refine Run.opG wantS_none (ex_shl' rfl rfl hj2) rfl ?_
      refine Run.opG wantS_none (ex_eql rfl rfl) rfl ?_
      refine Run.opsEnd ?_
      rcases btf ((v0 == (w64 ((1 : Int) * 2 ^ (min j2 (IntKind.bits .i64)))))) with hc3 | hc3
      · have h := bif_t hc3 h
        refine Run.condT' rfl hc3 ?_
        refine Run.seq (Run.region ?_)
        refine Run.opG wantS_none (ex_move rfl) rfl ?_
        refine Run.opG wantS_none (ex_assign rfl) rfl ?_
        refine Run.opsEnd ?_
        cases h
        exact Run.ret Tryz.func49 rfl (res_tmp rfl res_nil) rfl
      · have h := bif_f hc3 h
        refine Run.condF' rfl hc3 ?_
        refine Run.skip (Run.inBlock (Run.region ?_))
        refine Run.opG wantS_none (ex_move rfl) rfl ?_
        refine Run.opG wantS_none (ex_add rfl rfl) rfl ?_
        refine Run.opG wantS_none (ex_assign rfl) rfl ?_
        refine Run.opsEnd (Run.inLoop ?_)
        exact Run.pick [0, 3] (ih v0 (w64 (v3 + (1 : Int))) _ _ _ hH h)
    · have h := bif_f hc1 h
      refine Run.condF' rfl hc1 ?_
      refine Run.exit rfl (Run.seq (Run.region ?_))
      refine Run.opG wantS_none (ex_assign rfl) rfl ?_
      refine Run.opsEnd ?_
      cases h
      exact Run.ret Tryz.func49 rfl (res_tmp rfl res_nil) rfl

def ref06_power (F : Nat) (a0 : Int) : Option (Int) :=
  ref06_power_1 F F a0 (0 : Int)

theorem ref06_power_ok (F : Nat) (a0 : Int) (r : Int) (M : Mem) (h : ref06_power F a0 = some r) : CallsM Tryz.prog 49 [(.int .i64 a0)] M (fun s M' => s = (.int .i64 r) ∧ M' = M) := by
  refine CallsM.plain Tryz.func49 rfl rfl rfl (show Run _ _ _ (ref06_power_post r) _ _ _ from ?_)
  rw [ref06_power] at h
  have hH := Has.nil (frozen M)
  refine Run.seq (Run.region ?_)
  refine Run.opG wantS_none (ex_assign rfl) rfl ?_
  refine Run.opsEnd (Run.seq (Run.seq (Run.region ?_)))
  refine Run.opG wantS_none (ex_assign rfl) rfl ?_
  refine Run.opsEnd (Run.block (Run.loop ?_))
  exact Run.pick [0, 3] (ref06_power_1_ok F F a0 (0 : Int) _ _ _ hH h)

theorem mkk49 : makeK Tryz.prog 49 = none := by kernel_rfl
theorem cal49 : callable Tryz.prog 49 = true := by kernel_rfl
abbrev ref00_In_post (r : Bool) : SV → Mem → Prop := fun s _ => s = (.bool r)

def ref00_In_1 (F : Nat) (v14 : Bool) : Option (Bool) :=
  some v14

theorem ref00_In_1_ok (F : Nat) : ∀ (v14 : Bool) (Fr : Rd) (M : Mem) (r : Bool) (hH : Has Fr M []), ref00_In_1 F v14 = some r → Run Tryz.prog ⟨⟨44, [], none⟩, []⟩ 15 (ref00_In_post r) [(14, (.bool v14))] [itemC Tryz.prog 44 [1, 0] 8, codeC Tryz.prog 44 [1, 1]] M := by
  intro v14 Fr M r hH h
  rw [ref00_In_1] at h
  refine Run.opG wantS_none (ex_assign rfl) rfl ?_
  refine Run.opsEnd ?_
  cases h
  exact Run.ret Tryz.func44 rfl (res_tmp rfl res_nil) rfl

def ref00_In (F : Nat) (a0 : Int) (a1 : Int) (a2 : Int) : Option (Bool) :=
  bif (decide (a1 ≤ a0)) then
    ref00_In_1 F (decide (a0 ≤ a2))
  else
    ref00_In_1 F false

theorem ref00_In_ok (F : Nat) (a0 : Int) (a1 : Int) (a2 : Int) (r : Bool) (M : Mem) (h : ref00_In F a0 a1 a2 = some r) : CallsM Tryz.prog 44 [(.int .i64 a0), (.int .i64 a1), (.int .i64 a2)] M (fun s M' => s = (.bool r) ∧ M' = M) := by
  refine CallsM.plain Tryz.func44 rfl rfl rfl (show Run _ _ _ (ref00_In_post r) _ _ _ from ?_)
  rw [ref00_In] at h
  have hH := Has.nil (frozen M)
  refine Run.seq (Run.region ?_)
  refine Run.opG wantS_none (ex_assign rfl) rfl ?_
  refine Run.opsEnd (Run.seq (Run.region ?_))
  refine Run.opG wantS_none (ex_move rfl) rfl ?_
  refine Run.opG wantS_none (ex_move rfl) rfl ?_
  refine Run.opG wantS_none (ex_leq rfl rfl) rfl ?_
  refine Run.opG wantS_none (ex_move rfl) rfl ?_
  rcases btf ((decide (a1 ≤ a0))) with hc1 | hc1
  · have h := bif_t hc1 h
    refine Run.opG (wantS_yes' rfl rfl hc1) (ex_move rfl) rfl ?_
    refine Run.opG (wantS_yes' rfl rfl hc1) (ex_move rfl) rfl ?_
    refine Run.opG (wantS_yes' rfl rfl hc1) (ex_leq rfl rfl) rfl ?_
    refine Run.opG wantS_none (ex_pickT' rfl hc1 rfl rfl) rfl ?_
    exact Run.pick [14] (ref00_In_1_ok F (decide (a0 ≤ a2)) _ _ _ hH h)
  · have h := bif_f hc1 h
    refine Run.no (wantS_not' rfl rfl hc1) rfl ?_
    refine Run.no (wantS_not' rfl rfl hc1) rfl ?_
    refine Run.no (wantS_not' rfl rfl hc1) rfl ?_
    refine Run.opG wantS_none (ex_pickF' rfl hc1 rfl rfl) rfl ?_
    exact Run.pick [14] (ref00_In_1_ok F false _ _ _ hH h)

theorem mkk44 : makeK Tryz.prog 44 = none := by kernel_rfl
theorem cal44 : callable Tryz.prog 44 = true := by kernel_rfl
abbrev ref06_samples_post (r : Bool) : SV → Mem → Prop := fun s _ => s = (.bool r)

def ref06_samples_1 (F : Nat) : Nat → (List Int) → Int → Option (Bool)
  | 0, _, _ => none
  | N + 1, v0, v3 =>
    bif (decide (v3 < (v0.length : Int))) then
      bnd (idx v0 v3) fun x2 =>
      bnd (ref00_In F x2 ((-1048576) : Int) (1048576 : Int)) fun r3 =>
      bif (!r3) then
        some false
      else
        (ref06_samples_1 F N) v0 (w64 (v3 + (1 : Int)))
    else
      some true

theorem ref06_samples_1_ok (F : Nat) : ∀ (N : Nat), ∀ (v0 : (List Int)) (v3 : Int) (sv0 : SV) (Fr : Rd) (M : Mem) (r : Bool) (hv0 : Slc Fr 1 (FlatR enc3) sv0 v0) (hH : Has Fr M []), ref06_samples_1 F N v0 v3 = some r → Run Tryz.prog ⟨⟨50, [], none⟩, []⟩ 16 (ref06_samples_post r) [(0, sv0), (3, (.int .i64 v3))] [codeC Tryz.prog 50 [1, 0, 1, 0, 0], loopC Tryz.prog 50 [1, 0, 1, 0, 0], .inBlock 0, codeC Tryz.prog 50 [1, 1]] M := by
  intro N
  induction N with
  | zero =>
    intro v0 v3 sv0 Fr M r hv0 hH h
    simp [ref06_samples_1] at h
  | succ N ih =>
    intro v0 v3 sv0 Fr M r hv0 hH h
    rw [ref06_samples_1] at h
    refine Run.seq (Run.seq (Run.region ?_))
    refine Run.opG wantS_none (ex_move rfl) rfl ?_
    refine Run.opG wantS_none (ex_move rfl) rfl ?_
    refine Run.opG wantS_none (ex_len' rfl hv0 lenk22) rfl ?_
    refine Run.opG wantS_none (ex_lss rfl rfl) rfl ?_
    refine Run.opsEnd ?_
    rcases btf ((decide (v3 < (v0.length : Int)))) with hc1 | hc1
    · have h := bif_t hc1 h
      refine Run.condT' rfl hc1 ?_
      refine Run.skip (Run.seq (Run.block (Run.seq (Run.region ?_))))
      refine Run.opG wantS_none (ex_move rfl) rfl ?_
      refine Run.opG wantS_none (ex_move rfl) rfl ?_
      obtain ⟨x2, hx2, h⟩ := bnd_some h
      obtain ⟨p2, o2, _, hx2, hp2, rfl⟩ := sl_elem (P := Tryz.prog) (t := 22) (kk := .i64) hv0 hx2 els22
      refine Run.opG wantS_none (ex_elX rfl rfl hx2) rfl ?_
      refine Run.opG wantS_none (ex_load1 rfl (hH.ptrF hp2) rdLe_rfl agg3) rfl ?_
      obtain ⟨r3, hr3, h⟩ := bnd_some h
      refine Run.callP wantS_none (ex_call rfl mkk44 cal44) rfl (ref00_In_ok F x2 ((-1048576) : Int) (1048576 : Int) _ _ hr3) ?_
      refine Run.opG wantS_none (ex_not rfl) rfl ?_
      refine Run.opsEnd ?_
      rcases btf ((!r3)) with hc5 | hc5
      · have h := bif_t hc5 h
        refine Run.condT' rfl hc5 ?_
        refine Run.seq (Run.region ?_)
        refine Run.opG wantS_none (ex_assign rfl) rfl ?_
        refine Run.opsEnd ?_
        cases h
        exact Run.ret Tryz.func50 rfl (res_tmp rfl res_nil) rfl
      · have h := bif_f hc5 h
        refine Run.condF' rfl hc5 ?_
        refine Run.skip (Run.inBlock (Run.region ?_))
        refine Run.opG wantS_none (ex_move rfl) rfl ?_
        refine Run.opG wantS_none (ex_add rfl rfl) rfl ?_
        refine Run.opG wantS_none (ex_assign rfl) rfl ?_
        refine Run.opsEnd (Run.inLoop ?_)
        exact Run.pick [0, 3] (ih v0 (w64 (v3 + (1 : Int))) sv0 _ _ _ hv0 hH h)
    · have h := bif_f hc1 h
      refine Run.condF' rfl hc1 ?_
      refine Run.exit rfl (Run.seq (Run.region ?_))
      refine Run.opG wantS_none (ex_assign rfl) rfl ?_
      refine Run.opsEnd ?_
      cases h
      exact Run.ret Tryz.func50 rfl (res_tmp rfl res_nil) rfl

def ref06_samples (F : Nat) (a0 : (List Int)) : Option (Bool) :=
  ref06_samples_1 F F a0 (0 : Int)

theorem ref06_samples_ok (F : Nat) (a0 : (List Int)) (s0 : SV) (r : Bool) (M : Mem) (hs0 : Slc (rd M) 1 (FlatR enc3) s0 a0) (h : ref06_samples F a0 = some r) : CallsM Tryz.prog 50 [s0] M (fun s M' => s = (.bool r) ∧ M' = M) := by
  refine CallsM.plain Tryz.func50 rfl rfl rfl (show Run _ _ _ (ref06_samples_post r) _ _ _ from ?_)
  rw [ref06_samples] at h
  replace hs0 := hs0.mono (rdLe_frozen M) (fun _ _ h => h)
  have hH := Has.nil (frozen M)
  refine Run.seq (Run.region ?_)
  refine Run.opG wantS_none (ex_assign rfl) rfl ?_
  refine Run.opsEnd (Run.seq (Run.seq (Run.region ?_)))
  refine Run.opG wantS_none (ex_assign rfl) rfl ?_
  refine Run.opsEnd (Run.block (Run.loop ?_))
  exact Run.pick [0, 3] (ref06_samples_1_ok F F a0 (0 : Int) s0 _ _ _ hs0 hH h)

theorem mkk50 : makeK Tryz.prog 50 = none := by kernel_rfl
theorem cal50 : callable Tryz.prog 50 = true := by kernel_rfl
abbrev ref06_CheckSignal_post (r : Int) : SV → Mem → Prop := fun s _ => s = (.int .i64 r)

def ref06_CheckSignal_1 (F : Nat) (v11 : Bool) : Option (Int) :=
  bif v11 then
    some (60 : Int)
  else
    some (0 : Int)

theorem ref06_CheckSignal_1_ok (F : Nat) : ∀ (v11 : Bool) (Fr : Rd) (M : Mem) (r : Int) (hH : Has Fr M []), ref06_CheckSignal_1 F v11 = some r → Run Tryz.prog ⟨⟨16, [], none⟩, []⟩ 12 (ref06_CheckSignal_post r) [(11, (.bool v11))] [codeC Tryz.prog 16 [1, 0, 1], codeC Tryz.prog 16 [1, 1]] M := by
  intro v11 Fr M r hH h
  rw [ref06_CheckSignal_1] at h
  rcases btf (v11) with hc4 | hc4
  · have h := bif_t hc4 h
    refine Run.condT' rfl hc4 ?_
    refine Run.seq (Run.region ?_)
    refine Run.opG wantS_none (ex_assign rfl) rfl ?_
    refine Run.opsEnd ?_
    cases h
    exact Run.ret Tryz.func16 rfl (res_tmp rfl res_nil) rfl
  · have h := bif_f hc4 h
    refine Run.condF' rfl hc4 ?_
    refine Run.skip (Run.seq (Run.region ?_))
    refine Run.opG wantS_none (ex_assign rfl) rfl ?_
    refine Run.opsEnd ?_
    cases h
    exact Run.ret Tryz.func16 rfl (res_tmp rfl res_nil) rfl

def ref06_CheckSignal (F : Nat) (a0 : (List Int)) : Option (Int) :=
  bnd (ref06_power F (a0.length : Int)) fun r1 =>
  bif (decide (r1 < (0 : Int))) then
    ref06_CheckSignal_1 F true
  else
    bnd (ref06_samples F a0) fun r5 =>
    ref06_CheckSignal_1 F (!r5)

theorem ref06_CheckSignal_ok (F : Nat) (a0 : (List Int)) (s0 : SV) (r : Int) (M : Mem) (hs0 : Slc (rd M) 1 (FlatR enc3) s0 a0) (h : ref06_CheckSignal F a0 = some r) : CallsM Tryz.prog 16 [s0] M (fun s M' => s = (.int .i64 r) ∧ M' = M) := by
  refine CallsM.plain Tryz.func16 rfl rfl rfl (show Run _ _ _ (ref06_CheckSignal_post r) _ _ _ from ?_)
  rw [ref06_CheckSignal] at h
  replace hs0 := hs0.mono (rdLe_frozen M) (fun _ _ h => h)
  have hH := Has.nil (frozen M)
  refine Run.seq (Run.region ?_)
  refine Run.opG wantS_none (ex_assign rfl) rfl ?_
  refine Run.opsEnd (Run.seq (Run.seq (Run.region ?_)))
  refine Run.opG wantS_none (ex_move rfl) rfl ?_
  refine Run.opG wantS_none (ex_len' rfl hs0 lenk22) rfl ?_
  obtain ⟨r1, hr1, h⟩ := bnd_some h
  refine Run.callP wantS_none (ex_call rfl mkk49 cal49) rfl (ref06_power_ok F (a0.length : Int) _ _ hr1) ?_
  refine Run.opG wantS_none (ex_lss rfl rfl) rfl ?_
  refine Run.opG wantS_none (ex_move rfl) rfl ?_
  rcases btf ((decide (r1 < (0 : Int)))) with hc3 | hc3
  · have h := bif_t hc3 h
    refine Run.no (wantS_not' rfl rfl hc3) rfl ?_
    refine Run.no (wantS_not' rfl rfl hc3) rfl ?_
    refine Run.no (wantS_not' rfl rfl hc3) rfl ?_
    refine Run.opG wantS_none (ex_pickT' rfl hc3 rfl rfl) rfl ?_
    refine Run.opsEnd ?_
    exact Run.pick [11] (ref06_CheckSignal_1_ok F true _ _ _ hH h)
  · have h := bif_f hc3 h
    refine Run.opG (wantS_yes' rfl rfl hc3) (ex_move rfl) rfl ?_
    obtain ⟨r5, hr5, h⟩ := bnd_some h
    refine Run.callP (wantS_yes' rfl rfl hc3) (ex_call rfl mkk50 cal50) rfl (ref06_samples_ok F a0 s0 _ _ (hH.slcF hs0) hr5) ?_
    refine Run.opG (wantS_yes' rfl rfl hc3) (ex_not rfl) rfl ?_
    refine Run.opG wantS_none (ex_pickF' rfl hc3 rfl rfl) rfl ?_
    refine Run.opsEnd ?_
    exact Run.pick [11] (ref06_CheckSignal_1_ok F (!r5) _ _ _ hH h)

theorem mkk16 : makeK Tryz.prog 16 = none := by kernel_rfl
theorem cal16 : callable Tryz.prog 16 = true := by kernel_rfl
theorem eqk22 : eqK Tryz.prog 22 = some .slice := by kernel_rfl
theorem elt22 : sliceElt Tryz.prog 22 = some (⟨1, 8, [(.int .i64 0)], 3⟩ : Elt) := by kernel_rfl
theorem appt22_22 : appT Tryz.prog 22 22 = some (⟨1, 8, [(.int .i64 0)], 3⟩ : Elt) := by kernel_rfl
abbrev slices_Clone_post (r : (List Int)) : SV → Mem → Prop := fun s Me => ∃ q1, s = q1 ∧ Has (fun _ => none) Me [.vec 3 1 r.length q1 (r.flatMap enc3)]

def slices_Clone (F : Nat) (a0 : (List Int)) : Option ((List Int)) :=
  bnd (apd 8 ([] : List Int) a0) fun l6 =>
  some l6

theorem slices_Clone_ok (F : Nat) (a0 : (List Int)) (s0 : SV) (r : (List Int)) (M : Mem) (hs0 : Slc (rd M) 1 (FlatR enc3) s0 a0) (h : slices_Clone F a0 = some r) : CallsM Tryz.prog 92 [s0] M (fun s M' => ∃ q1, s = q1 ∧ New M M' [.vec 3 1 r.length q1 (r.flatMap enc3)]) := by
  refine CallsM.fresh (Q := slices_Clone_post r) Tryz.func92 rfl rfl ?_ (by rintro s Me ⟨q1, rfl, hx⟩ ha hw; exact ⟨_, rfl, New.of rfl hx ha hw⟩)
  rw [slices_Clone] at h
  replace hs0 := hs0.mono (rdLe_frozen M) (fun _ _ h => h)
  have hH := Has.nil (frozen M)
  refine Run.seq (Run.region ?_)
  refine Run.opG wantS_none (ex_assign rfl) rfl ?_
  refine Run.opsEnd (Run.seq (Run.seq (Run.region ?_)))
  refine Run.opG wantS_none (ex_move rfl) rfl ?_
  rcases slc_or hs0 with ⟨rfl, rfl⟩ | hn1
  · have h : (
      some ([] : List Int)
      ) = some r := h
    refine Run.opG wantS_none (ex_nilT rfl rfl eqk22) rfl ?_
    refine Run.opsEnd ?_
    refine Run.condT' rfl rfl ?_
    refine Run.seq (Run.region ?_)
    refine Run.opG wantS_none (ex_assign rfl) rfl ?_
    refine Run.opsEnd ?_
    have hH3 : Has (ro (frozen M)) (frozen M) [.vec 3 1 ([] : List Int).length .nils (([] : List Int).flatMap enc3)] := hH.nils 3 1
    cases h
    exact Run.ret Tryz.func92 rfl (res_tmp rfl res_nil) ⟨_, rfl, (hH3.pick [0] rfl rfl).upF (none_le _)⟩
  · refine Run.opG wantS_none (ex_nilF rfl hn1 rfl eqk22) rfl ?_
    refine Run.opsEnd ?_
    refine Run.condF' rfl rfl ?_
    refine Run.skip (Run.seq (Run.region ?_))
    refine Run.opX wantS_none rfl (ExG.built (enc := enc3) (l := ([] : List Int)) (z := 1) rfl elt22 rfl rfl rfl enc3_len hH) ?_
    rintro s4 M5 (hH5 : Has (ro (frozen M)) M5 [.vec 3 1 ([] : List Int).length s4 (([] : List Int).flatMap enc3)])
    refine Run.opG wantS_none (ex_move rfl) rfl ?_
    obtain ⟨l6, hl6, h⟩ := bnd_some h
    refine Run.opX wantS_none rfl (ExG.append rfl rfl hH5 (i := 0) rfl enc3_len rfl enc3_ones appt22_22 rfl (len_slc hs0) (first_slc hs0 (rdLe_roF hH5) enc3_len) hl6) ?_
    rintro s6 M8 (hH8 : Has (ro (frozen M)) M8 [.vec 3 1 l6.length s6 (l6.flatMap enc3)])
    refine Run.opG wantS_none (ex_assign rfl) rfl ?_
    refine Run.opsEnd ?_
    cases h
    exact Run.ret Tryz.func92 rfl (res_tmp rfl res_nil) ⟨_, rfl, (hH8.pick [0] rfl rfl).upF (none_le _)⟩

theorem mkk92 : makeK Tryz.prog 92 = none := by kernel_rfl
theorem cal92 : callable Tryz.prog 92 = true := by kernel_rfl
theorem zer22 : zerosOf Tryz.prog 22 = some [.nils] := by kernel_rfl
theorem sz22 : szOf Tryz.prog 22 = some 1 := by kernel_rfl
theorem mkk93 : makeK Tryz.prog 93 = none := by kernel_rfl
theorem cal93 : callable Tryz.prog 93 = true := by kernel_rfl
theorem agg22 : aggSize Tryz.prog 22 = some none := by kernel_rfl
theorem slk22 : slK Tryz.prog 22 = some (.sl 1) := by kernel_rfl
theorem sz3 : szOf Tryz.prog 3 = some 1 := by kernel_rfl
theorem plan93_1_1_0_0_1_1_0_0_1 : planOf Tryz.prog (opsC (atC Tryz.prog 93 [1, 1, 0, 0, 1, 1, 0, 0, 1])) = some [.fl 0, .fl 1, .fl 2, .fl 3, .fl 4, .fl 5, .fl 6, .fl 7, .fl 8, .fl 9, .fl 10, .fl 11, .fl 12, .fl 13, .fl 14, .fl 15, .fl 16, .fl 17, .fl 18, .fl 19, .fl 20, .fl 21, .fl 22, .fl 23, .fl 24, .fl 25, .fl 26, .fl 27, .fl 28, .fl 29, .fl 30, .an 31 [29, 5, 4, 3, 2], .fl 32, .an 33 [], .sync] := by kernel_rfl
abbrev glitch_transform_post (r : (List Int)) : SV → Mem → Prop := fun s Me => ∃ q1, s = q1 ∧ Has (fun _ => none) Me [.vec 3 1 r.length q1 (r.flatMap enc3)]

def glitch_transform_2 (F : Nat) (hd1 : Int → (List Int) → Option ((List Int))) : Nat → Int → Int → Int → Int → (List Int) → (List Int) → Option ((List Int))
  | 0, _, _, _, _, _, _ => none
  | N + 1, v0, v10, v11, v5_f1, l2, l10 =>
    bif (decide (v11 < v10)) then
      bnd (idx l10 (w64 ((2 : Int) * v11))) fun x13 =>
      bnd (idx l10 (w64 ((w64 ((2 : Int) * v11)) + (1 : Int)))) fun x14 =>
      bnd (idx l10 (w64 ((2 : Int) * v11))) fun x15 =>
      bnd (idx l10 (w64 ((w64 ((2 : Int) * v11)) + (1 : Int)))) fun x16 =>
      bnd (inn l2 v11) fun o17 =>
      bnd (upd l2 o17 (w64 (x13 + x14))) fun l18 =>
      bnd (inn l18 (w64 (v0 + v11))) fun o20 =>
      bnd (upd l18 o20 (w64 (x15 - x16))) fun l21 =>
      (glitch_transform_2 F hd1 N) v0 v10 (w64 (v11 + (1 : Int))) v5_f1 l21 l10
    else
      hd1 (w64 (Int.tdiv v5_f1 (2 : Int))) l2

theorem glitch_transform_2_ok (F : Nat) (hd1 : Int → (List Int) → Option ((List Int))) (hhd1 : ∀ (v5 : Int) (l2 : (List Int)) (b4 : Pos) (s2 : SV) (Fr : Rd) (M : Mem) (r : (List Int)) (hH : Has Fr M [.obj b4 (.row 22 .whole [s2]), .vec 3 1 l2.length s2 (l2.flatMap enc3)]), hd1 v5 l2 = some r → Run Tryz.prog ⟨⟨51, [], none⟩, []⟩ 20 (glitch_transform_post r) [(3, (.ptr b4 0)), (4, (.fn (.func 93) [] [(.ptr b4 0)])), (5, (.int .i64 v5))] [codeC Tryz.prog 51 [1, 1, 1, 0, 1, 0, 0], loopC Tryz.prog 51 [1, 1, 1, 0, 1, 0, 0], .inBlock 0, codeC Tryz.prog 51 [1, 1, 1, 1]] M) : ∀ (N : Nat), ∀ (v0 : Int) (v10 : Int) (v11 : Int) (v5_f1 : Int) (l2 : (List Int)) (l10 : (List Int)) (b4 : Pos) (s2 : SV) (s10 : SV) (Fr : Rd) (M : Mem) (r : (List Int)) (hH : Has Fr M [.obj b4 (.row 22 .whole [s2]), .vec 3 1 l2.length s2 (l2.flatMap enc3), .vec 3 1 l10.length s10 (l10.flatMap enc3)]), glitch_transform_2 F hd1 N v0 v10 v11 v5_f1 l2 l10 = some r → Run Tryz.prog ⟨⟨93, [], none⟩, [.mk ⟨51, [], none⟩ 20 (treeOf [(3, (.ptr b4 0)), (4, (.fn (.func 93) [] [(.ptr b4 0)])), (5, (.int .i64 v5_f1))]) [itemC Tryz.prog 51 [1, 1, 1, 0, 1, 0, 0, 1, 0, 0] 2, .inBlock 1, codeC Tryz.prog 51 [1, 1, 1, 0, 1, 0, 0, 1, 1], loopC Tryz.prog 51 [1, 1, 1, 0, 1, 0, 0], .inBlock 0, codeC Tryz.prog 51 [1, 1, 1, 1]]]⟩ 47 (glitch_transform_post r) [(0, (.int .i64 v0)), (1, (.ptr b4 0)), (3, s10), (10, (.int .i64 v10)), (11, (.int .i64 v11))] [codeC Tryz.prog 93 [1, 1, 0, 0], loopC Tryz.prog 93 [1, 1, 0, 0], .inBlock 0] M := by
  intro N
  induction N with
  | zero =>
    intro v0 v10 v11 v5_f1 l2 l10 b4 s2 s10 Fr M r hH h
    simp [glitch_transform_2] at h
  | succ N ih =>
    intro v0 v10 v11 v5_f1 l2 l10 b4 s2 s10 Fr M r hH h
    rw [glitch_transform_2] at h
    refine Run.seq (Run.region ?_)
    refine Run.opG wantS_none (ex_lss rfl rfl) rfl ?_
    refine Run.opsEnd (Run.seq ?_)
    rcases btf ((decide (v11 < v10))) with hc12 | hc12
    · have h := bif_t hc12 h
      refine Run.condT' rfl hc12 ?_
      refine Run.skip (Run.seq (Run.block (Run.seq (Run.region ?_))))
      refine Run.opG wantS_none (ex_move rfl) rfl ?_
      refine Run.opG wantS_none (ex_assign rfl) rfl ?_
      refine Run.opsEnd ?_
      refine Run.drawG plan93_1_1_0_0_1_1_0_0_1 ?_
      refine DrawG.fl rfl (ev_ex wantS_none (ex_load1 rfl (hH.cells (i := 0) rfl 0 rfl) rdLe_rfl agg22)) rfl ?_
      refine DrawG.fl rfl (ev_ex wantS_none (ex_move rfl)) rfl ?_
      refine DrawG.fl rfl (ev_ex wantS_none (ex_load1 rfl (hH.cells (i := 0) rfl 0 rfl) rdLe_rfl agg22)) rfl ?_
      refine DrawG.fl rfl (ev_ex wantS_none (ex_move rfl)) rfl ?_
      refine DrawG.fl rfl (ev_ex wantS_none (ex_move rfl)) rfl ?_
      refine DrawG.fl rfl (ev_ex wantS_none (ex_add rfl rfl)) rfl ?_
      refine DrawG.fl rfl (ev_ex wantS_none (ex_move rfl)) rfl ?_
      refine DrawG.fl rfl (ev_ex wantS_none (ex_move rfl)) rfl ?_
      refine DrawG.fl rfl (ev_ex wantS_none (ex_mul rfl rfl)) rfl ?_
      obtain ⟨x13, hx13, h⟩ := bnd_some h
      obtain ⟨p13, o13, hb13, hx13, he13⟩ := vec_elem (P := Tryz.prog) (t := 22) (kk := .i64) hH (i := 2) rfl hx13 els22
      refine DrawG.fl rfl (ev_ex wantS_none (ex_elX rfl rfl hx13)) rfl ?_
      refine DrawG.fl rfl (ev_ex wantS_none (ex_load1 rfl (hH.at (enc := enc3) (a := x13) (i := 2) rfl hb13 he13 enc3_len) rdLe_rfl agg3)) rfl ?_
      refine DrawG.fl rfl (ev_ex wantS_none (ex_move rfl)) rfl ?_
      refine DrawG.fl rfl (ev_ex wantS_none (ex_move rfl)) rfl ?_
      refine DrawG.fl rfl (ev_ex wantS_none (ex_mul rfl rfl)) rfl ?_
      refine DrawG.fl rfl (ev_ex wantS_none (ex_add rfl rfl)) rfl ?_
      obtain ⟨x14, hx14, h⟩ := bnd_some h
      obtain ⟨p14, o14, hb14, hx14, he14⟩ := vec_elem (P := Tryz.prog) (t := 22) (kk := .i64) hH (i := 2) rfl hx14 els22
      refine DrawG.fl rfl (ev_ex wantS_none (ex_elX rfl rfl hx14)) rfl ?_
      refine DrawG.fl rfl (ev_ex wantS_none (ex_load1 rfl (hH.at (enc := enc3) (a := x14) (i := 2) rfl hb14 he14 enc3_len) rdLe_rfl agg3)) rfl ?_
      refine DrawG.fl rfl (ev_ex wantS_none (ex_add rfl rfl)) rfl ?_
      refine DrawG.fl rfl (ev_ex wantS_none (ex_move rfl)) rfl ?_
      refine DrawG.fl rfl (ev_ex wantS_none (ex_move rfl)) rfl ?_
      refine DrawG.fl rfl (ev_ex wantS_none (ex_mul rfl rfl)) rfl ?_
      obtain ⟨x15, hx15, h⟩ := bnd_some h
      obtain ⟨p15, o15, hb15, hx15, he15⟩ := vec_elem (P := Tryz.prog) (t := 22) (kk := .i64) hH (i := 2) rfl hx15 els22
      refine DrawG.fl rfl (ev_ex wantS_none (ex_elX rfl rfl hx15)) rfl ?_
      refine DrawG.fl rfl (ev_ex wantS_none (ex_load1 rfl (hH.at (enc := enc3) (a := x15) (i := 2) rfl hb15 he15 enc3_len) rdLe_rfl agg3)) rfl ?_
      refine DrawG.fl rfl (ev_ex wantS_none (ex_move rfl)) rfl ?_
      refine DrawG.fl rfl (ev_ex wantS_none (ex_move rfl)) rfl ?_
      refine DrawG.fl rfl (ev_ex wantS_none (ex_mul rfl rfl)) rfl ?_
      refine DrawG.fl rfl (ev_ex wantS_none (ex_add rfl rfl)) rfl ?_
      obtain ⟨x16, hx16, h⟩ := bnd_some h
      obtain ⟨p16, o16, hb16, hx16, he16⟩ := vec_elem (P := Tryz.prog) (t := 22) (kk := .i64) hH (i := 2) rfl hx16 els22
      refine DrawG.fl rfl (ev_ex wantS_none (ex_elX rfl rfl hx16)) rfl ?_
      refine DrawG.fl rfl (ev_ex wantS_none (ex_load1 rfl (hH.at (enc := enc3) (a := x16) (i := 2) rfl hb16 he16 enc3_len) rdLe_rfl agg3)) rfl ?_
      refine DrawG.fl rfl (ev_ex wantS_none (ex_sub rfl rfl)) rfl ?_
      obtain ⟨o17, ho17, h⟩ := bnd_some h
      obtain ⟨p17, hb17, hx17⟩ := vec_place (P := Tryz.prog) (t := 22) (kk := .i64) hH (i := 1) rfl ho17 els22
      refine DrawG.fl rfl (ev_ex wantS_none (ex_elX rfl rfl hx17)) rfl ?_
      obtain ⟨l18, hl18, h⟩ := bnd_some h
      refine DrawG.opX rfl wantS_none rfl (ExG.storeEl rfl rfl hH (i := 1) rfl hb17 hl18 sz3 rfl enc3_len enc3_ones) ?_
      rintro _ M19 ⟨rfl, (hH19 : Has Fr M19 [.obj b4 (.row 22 .whole [s2]), .vec 3 1 l18.length s2 (l18.flatMap enc3), .vec 3 1 l10.length s10 (l10.flatMap enc3)])⟩
      refine ⟨(st_cons rfl (ev_ex wantS_none (ex_sub rfl rfl)) rfl rfl rfl (st_cons rfl (ev_ex wantS_none (ex_add rfl rfl)) rfl rfl rfl (st_cons rfl (ev_ex wantS_none (ex_move rfl)) rfl rfl rfl (st_cons rfl (ev_ex wantS_none (ex_move rfl)) rfl rfl rfl (st_cons rfl (ev_ex wantS_none (ex_load1 rfl (hH19.cells (i := 0) rfl 0 rfl) rdLe_rfl agg22)) rfl rfl (blk_self hH19 (i := 1) rfl) st_nil))))), ?_⟩
      obtain ⟨o20, ho20, h⟩ := bnd_some h
      obtain ⟨p20, hb20, hx20⟩ := vec_place (P := Tryz.prog) (t := 22) (kk := .i64) hH19 (i := 1) rfl ho20 els22
      refine DrawG.fl rfl (ev_ex wantS_none (ex_elX rfl rfl hx20)) rfl ?_
      obtain ⟨l21, hl21, h⟩ := bnd_some h
      refine DrawG.opX rfl wantS_none rfl (ExG.storeEl rfl rfl hH19 (i := 1) rfl hb20 hl21 sz3 rfl enc3_len enc3_ones) ?_
      rintro _ M22 ⟨rfl, (hH22 : Has Fr M22 [.obj b4 (.row 22 .whole [s2]), .vec 3 1 l21.length s2 (l21.flatMap enc3), .vec 3 1 l10.length s10 (l10.flatMap enc3)])⟩
      refine ⟨st_nil, ?_⟩
      refine DrawG.sync ?_
      refine DrawG.nil ?_
      refine Run.inBlock (Run.region ?_)
      refine Run.opG wantS_none (ex_add rfl rfl) rfl ?_
      refine Run.opG wantS_none (ex_move rfl) rfl ?_
      refine Run.opsEnd (Run.inLoop ?_)
      exact Run.low (.cons (fle_pick [3, 4, 5] rfl) .nil) (Run.pick [0, 1, 3, 10, 11] (ih v0 v10 (w64 (v11 + (1 : Int))) v5_f1 l21 l10 b4 s2 s10 _ _ _ hH22 h))
    · have h := bif_f hc12 h
      refine Run.condF' rfl hc12 ?_
      refine Run.exit rfl ?_
      refine Run.fallTo Tryz.func93 rfl res_nil rfl ?_
      refine Run.opsEnd (Run.inBlock (Run.region ?_))
      refine Run.opG wantS_none (ex_move rfl) rfl ?_
      refine Run.opG wantS_none (ex_quo rfl rfl (by decide)) rfl ?_
      refine Run.opG wantS_none (ex_assign rfl) rfl ?_
      refine Run.opsEnd (Run.inLoop ?_)
      exact Run.pick [3, 4, 5] (hhd1 (w64 (Int.tdiv v5_f1 (2 : Int))) l2 b4 s2 _ _ _ (hH.pick [0, 1] rfl rfl) h)

def glitch_transform_1 (F : Nat) : Nat → Int → (List Int) → Option ((List Int))
  | 0, _, _ => none
  | N + 1, v5, l2 =>
    bif (decide ((0 : Int) < v5)) then
      bnd (sub l2 0 (w64 ((2 : Int) * v5))) fun l8 =>
      bnd (slices_Clone F l8) fun r9 =>
      glitch_transform_2 F (glitch_transform_1 F N) F v5 v5 (0 : Int) v5 l2 r9
    else
      some l2

theorem glitch_transform_1_ok (F : Nat) : ∀ (N : Nat), ∀ (v5 : Int) (l2 : (List Int)) (b4 : Pos) (s2 : SV) (Fr : Rd) (M : Mem) (r : (List Int)) (hH : Has Fr M [.obj b4 (.row 22 .whole [s2]), .vec 3 1 l2.length s2 (l2.flatMap enc3)]), glitch_transform_1 F N v5 l2 = some r → Run Tryz.prog ⟨⟨51, [], none⟩, []⟩ 20 (glitch_transform_post r) [(3, (.ptr b4 0)), (4, (.fn (.func 93) [] [(.ptr b4 0)])), (5, (.int .i64 v5))] [codeC Tryz.prog 51 [1, 1, 1, 0, 1, 0, 0], loopC Tryz.prog 51 [1, 1, 1, 0, 1, 0, 0], .inBlock 0, codeC Tryz.prog 51 [1, 1, 1, 1]] M := by
  intro N
  induction N with
  | zero =>
    intro v5 l2 b4 s2 Fr M r hH h
    simp [glitch_transform_1] at h
  | succ N ih =>
    intro v5 l2 b4 s2 Fr M r hH h
    rw [glitch_transform_1] at h
    refine Run.seq (Run.seq (Run.region ?_))
    refine Run.opG wantS_none (ex_move rfl) rfl ?_
    refine Run.opG wantS_none (ex_gtr rfl rfl) rfl ?_
    refine Run.opsEnd ?_
    rcases btf ((decide ((0 : Int) < v5))) with hc7 | hc7
    · have h := bif_t hc7 h
      refine Run.condT' rfl hc7 ?_
      refine Run.skip (Run.seq (Run.block (Run.region ?_)))
      refine Run.opG wantS_none (ex_move rfl) rfl ?_
      refine Run.opG wantS_none (ex_move rfl) rfl ?_
      refine Run.enter wantS_none (ex_closure rfl rfl mkk93 cal93) Tryz.func93 rfl rfl ?_
      refine Run.seq (Run.region ?_)
      refine Run.opG wantS_none (ex_load1 rfl (hH.cells (i := 0) rfl 0 rfl) rdLe_rfl agg22) rfl ?_
      refine Run.opG wantS_none (ex_move rfl) rfl ?_
      refine Run.opG wantS_none (ex_mul rfl rfl) rfl ?_
      obtain ⟨l8, hl8, h⟩ := bnd_some h
      obtain ⟨s8, hx8, hs8⟩ := sl_subH (P := Tryz.prog) (t := 22) (k0 := .i64) (hH.slc (i := 1) rfl enc3_len) hl8 slk22
      refine Run.opG wantS_none (ex_slX rfl (argO_none) (argO_some rfl) hx8) rfl ?_
      obtain ⟨r9, hr9, h⟩ := bnd_some h
      refine Run.callX wantS_none (ex_call rfl mkk92 cal92) rfl (slices_Clone_ok F l8 s8 _ _ hs8 hr9) ?_
      rintro s9_0 M11 ⟨_, rfl, hN9⟩
      have hH11 : Has Fr M11 [.vec 3 1 r9.length s9_0 (r9.flatMap enc3), .obj b4 (.row 22 .whole [s2]), .vec 3 1 l2.length s2 (l2.flatMap enc3)] := hN9 _ _ hH
      refine Run.opG wantS_none (ex_assign rfl) rfl ?_
      refine Run.opsEnd (Run.seq (Run.region ?_))
      refine Run.opG wantS_none (ex_move rfl) rfl ?_
      refine Run.opG wantS_none (ex_move rfl) rfl ?_
      refine Run.opsEnd (Run.block (Run.loop ?_))
      exact Run.low (.cons (fle_pick [3, 4, 5] rfl) .nil) (Run.pick [0, 1, 3, 10, 11] (glitch_transform_2_ok F (glitch_transform_1 F N) ih F v5 v5 (0 : Int) v5 l2 r9 b4 s2 s9_0 _ _ _ (hH11.pick [1, 2, 0] rfl rfl) h))
    · have h := bif_f hc7 h
      refine Run.condF' rfl hc7 ?_
      refine Run.exit rfl (Run.seq (Run.region ?_))
      refine Run.opG wantS_none (ex_load1 rfl (hH.cells (i := 0) rfl 0 rfl) rdLe_rfl agg22) rfl ?_
      refine Run.opG wantS_none (ex_assign rfl) rfl ?_
      refine Run.opsEnd ?_
      cases h
      exact Run.ret Tryz.func51 rfl (res_tmp rfl res_nil) ⟨_, rfl, (hH.pick [1] rfl rfl).upF (none_le _)⟩

def glitch_transform (F : Nat) (a0 : (List Int)) : Option ((List Int)) :=
  bnd (slices_Clone F a0) fun r1 =>
  glitch_transform_1 F F (w64 (Int.tdiv (a0.length : Int) (2 : Int))) r1

theorem glitch_transform_ok (F : Nat) (a0 : (List Int)) (s0 : SV) (r : (List Int)) (M : Mem) (hs0 : Slc (rd M) 1 (FlatR enc3) s0 a0) (h : glitch_transform F a0 = some r) : CallsM Tryz.prog 51 [s0] M (fun s M' => ∃ q1, s = q1 ∧ New M M' [.vec 3 1 r.length q1 (r.flatMap enc3)]) := by
  refine CallsM.fresh (Q := glitch_transform_post r) Tryz.func51 rfl rfl ?_ (by rintro s Me ⟨q1, rfl, hx⟩ ha hw; exact ⟨_, rfl, New.of rfl hx ha hw⟩)
  rw [glitch_transform] at h
  replace hs0 := hs0.mono (rdLe_frozen M) (fun _ _ h => h)
  have hH := Has.nil (frozen M)
  refine Run.seq (Run.region ?_)
  refine Run.opG wantS_none (ex_assign rfl) rfl ?_
  refine Run.opsEnd (Run.seq (Run.region ?_))
  refine Run.opG wantS_none (ex_move rfl) rfl ?_
  obtain ⟨r1, hr1, h⟩ := bnd_some h
  refine Run.callX wantS_none (ex_call rfl mkk92 cal92) rfl (slices_Clone_ok F a0 s0 _ _ (hH.slcF hs0) hr1) ?_
  rintro s1_0 M3 ⟨_, rfl, hN1⟩
  have hH3 : Has (ro (frozen M)) M3 [.vec 3 1 r1.length s1_0 (r1.flatMap enc3)] := hN1 _ _ hH
  refine Run.opX wantS_none rfl (ExG.new (v := fun b => .ptr b 0) (ex_alloc zer22) hH3) ?_
  rintro _ M5 ⟨b4, rfl, (hH5 : Has (ro (frozen M)) M5 [.obj b4 (.row 22 .whole [.nils]), .vec 3 1 r1.length s1_0 (r1.flatMap enc3)])⟩
  refine Run.opX wantS_none rfl (ExG.storeC (c' := [s1_0]) rfl rfl (cells_one (vec_one hH5 (i := 1) rfl)) hH5 (i := 0) rfl sz22 rfl rfl rfl (ones_cons (vec_one hH5 (i := 1) rfl) ones_nil) rfl) ?_
  rintro _ M6 ⟨rfl, (hH6 : Has (ro (frozen M)) M6 [.obj b4 (.row 22 .whole [s1_0]), .vec 3 1 r1.length s1_0 (r1.flatMap enc3)])⟩
  refine Run.opsEnd (Run.seq (Run.region ?_))
  refine Run.opG wantS_none (ex_makeFunc rfl rfl) rfl ?_
  refine Run.opG wantS_none (ex_assign rfl) rfl ?_
  refine Run.opsEnd (Run.seq (Run.seq (Run.region ?_)))
  refine Run.opG wantS_none (ex_move rfl) rfl ?_
  refine Run.opG wantS_none (ex_len' rfl hs0 lenk22) rfl ?_
  refine Run.opG wantS_none (ex_quo rfl rfl (by decide)) rfl ?_
  refine Run.opG wantS_none (ex_assign rfl) rfl ?_
  refine Run.opsEnd (Run.block (Run.loop ?_))
  exact Run.pick [3, 4, 5] (glitch_transform_1_ok F F (w64 (Int.tdiv (a0.length : Int) (2 : Int))) r1 b4 s1_0 _ _ _ hH6 h)

theorem mkk51 : makeK Tryz.prog 51 = none := by kernel_rfl
theorem cal51 : callable Tryz.prog 51 = true := by kernel_rfl
abbrev glitch_Transform_post (r : (List Int) × Int) : SV → Mem → Prop := fun s Me => ∃ q1, s = (.tuple [q1, (.int .i64 r.2)]) ∧ Has (fun _ => none) Me [.vec 3 1 r.1.length q1 (r.1.flatMap enc3)]

def glitch_Transform (F : Nat) (a0 : (List Int)) : Option ((List Int) × Int) :=
  bnd (glitch_isSignal F a0) fun r1 =>
  bif (!r1) then
    some (([] : List Int), (60 : Int))
  else
    bnd (glitch_transform F a0) fun r6 =>
    some (r6, (0 : Int))

theorem glitch_Transform_ok (F : Nat) (a0 : (List Int)) (s0 : SV) (r : (List Int) × Int) (M : Mem) (hs0 : Slc (rd M) 1 (FlatR enc3) s0 a0) (h : glitch_Transform F a0 = some r) : CallsM Tryz.prog 17 [s0] M (fun s M' => ∃ q1, s = (.tuple [q1, (.int .i64 r.2)]) ∧ New M M' [.vec 3 1 r.1.length q1 (r.1.flatMap enc3)]) := by
  refine CallsM.fresh (Q := glitch_Transform_post r) Tryz.func17 rfl rfl ?_ (by rintro s Me ⟨q1, rfl, hx⟩ ha hw; exact ⟨_, rfl, New.of rfl hx ha hw⟩)
  rw [glitch_Transform] at h
  replace hs0 := hs0.mono (rdLe_frozen M) (fun _ _ h => h)
  have hH := Has.nil (frozen M)
  refine Run.seq (Run.region ?_)
  refine Run.opG wantS_none (ex_assign rfl) rfl ?_
  refine Run.opG wantS_none (ex_assign rfl) rfl ?_
  refine Run.opsEnd (Run.seq (Run.seq (Run.region ?_)))
  refine Run.opG wantS_none (ex_move rfl) rfl ?_
  obtain ⟨r1, hr1, h⟩ := bnd_some h
  refine Run.callP wantS_none (ex_call rfl mkk48 cal48) rfl (glitch_isSignal_ok F a0 s0 _ _ (hH.slcF hs0) hr1) ?_
  refine Run.opG wantS_none (ex_not rfl) rfl ?_
  refine Run.opsEnd ?_
  rcases btf ((!r1)) with hc3 | hc3
  · have h := bif_t hc3 h
    refine Run.condT' rfl hc3 ?_
    refine Run.seq (Run.region ?_)
    refine Run.opG wantS_none (ex_assign rfl) rfl ?_
    refine Run.opG wantS_none (ex_assign rfl) rfl ?_
    refine Run.opsEnd ?_
    have hH5 : Has (ro (frozen M)) (frozen M) [.vec 3 1 ([] : List Int).length .nils (([] : List Int).flatMap enc3)] := hH.nils 3 1
    cases h
    exact Run.ret Tryz.func17 rfl (res_tmp rfl (res_tmp rfl res_nil)) ⟨_, rfl, (hH5.pick [0] rfl rfl).upF (none_le _)⟩
  · have h := bif_f hc3 h
    refine Run.condF' rfl hc3 ?_
    refine Run.skip (Run.seq (Run.region ?_))
    refine Run.opG wantS_none (ex_move rfl) rfl ?_
    obtain ⟨r6, hr6, h⟩ := bnd_some h
    refine Run.callX wantS_none (ex_call rfl mkk51 cal51) rfl (glitch_transform_ok F a0 s0 _ _ (hH.slcF hs0) hr6) ?_
    rintro s6_0 M8 ⟨_, rfl, hN6⟩
    have hH8 : Has (ro (frozen M)) M8 [.vec 3 1 r6.length s6_0 (r6.flatMap enc3)] := hN6 _ _ hH
    refine Run.opG wantS_none (ex_assign rfl) rfl ?_
    refine Run.opG wantS_none (ex_assign rfl) rfl ?_
    refine Run.opsEnd ?_
    cases h
    exact Run.ret Tryz.func17 rfl (res_tmp rfl (res_tmp rfl res_nil)) ⟨_, rfl, (hH8.pick [0] rfl rfl).upF (none_le _)⟩

theorem mkk17 : makeK Tryz.prog 17 = none := by kernel_rfl
theorem cal17 : callable Tryz.prog 17 = true := by kernel_rfl
abbrev ref00_OwnInts_post (r : (List Int)) : SV → Mem → Prop := fun s Me => ∃ q1, s = q1 ∧ Has (fun _ => none) Me [.vec 3 1 r.length q1 (r.flatMap enc3)]

def ref00_OwnInts (F : Nat) (a0 : (List Int)) : Option ((List Int)) :=
  bnd (apd 8 ([] : List Int) a0) fun l1 =>
  some l1

theorem ref00_OwnInts_ok (F : Nat) (a0 : (List Int)) (s0 : SV) (r : (List Int)) (M : Mem) (hs0 : Slc (rd M) 1 (FlatR enc3) s0 a0) (h : ref00_OwnInts F a0 = some r) : CallsM Tryz.prog 82 [s0] M (fun s M' => ∃ q1, s = q1 ∧ New M M' [.vec 3 1 r.length q1 (r.flatMap enc3)]) := by
  refine CallsM.fresh (Q := ref00_OwnInts_post r) Tryz.func82 rfl rfl ?_ (by rintro s Me ⟨q1, rfl, hx⟩ ha hw; exact ⟨_, rfl, New.of rfl hx ha hw⟩)
  rw [ref00_OwnInts] at h
  replace hs0 := hs0.mono (rdLe_frozen M) (fun _ _ h => h)
  have hH := Has.nil (frozen M)
  refine Run.seq (Run.region ?_)
  refine Run.opG wantS_none (ex_assign rfl) rfl ?_
  refine Run.opsEnd (Run.seq (Run.region ?_))
  refine Run.opG wantS_none (ex_assign rfl) rfl ?_
  refine Run.opsEnd (Run.seq (Run.region ?_))
  refine Run.opG wantS_none (ex_move rfl) rfl ?_
  refine Run.opG wantS_none (ex_move rfl) rfl ?_
  obtain ⟨l1, hl1, h⟩ := bnd_some h
  have hH4 : Has (ro (frozen M)) (frozen M) [.vec 3 1 ([] : List Int).length .nils (([] : List Int).flatMap enc3)] := hH.nils 3 1
  refine Run.opX wantS_none rfl (ExG.append rfl rfl hH4 (i := 0) rfl enc3_len rfl enc3_ones appt22_22 rfl (len_slc hs0) (first_slc hs0 (rdLe_roF hH4) enc3_len) hl1) ?_
  rintro s1 M5 (hH5 : Has (ro (frozen M)) M5 [.vec 3 1 l1.length s1 (l1.flatMap enc3)])
  refine Run.opG wantS_none (ex_assign rfl) rfl ?_
  refine Run.opsEnd ?_
  cases h
  exact Run.ret Tryz.func82 rfl (res_tmp rfl res_nil) ⟨_, rfl, (hH5.pick [0] rfl rfl).upF (none_le _)⟩

theorem mkk82 : makeK Tryz.prog 82 = none := by kernel_rfl
theorem cal82 : callable Tryz.prog 82 = true := by kernel_rfl
theorem plan94_1_1_0_1_0_0_1_0_0 : planOf Tryz.prog (opsC (atC Tryz.prog 94 [1, 1, 0, 1, 0, 0, 1, 0, 0])) = some [.fl 0, .fl 1, .fl 2, .fl 3, .fl 4, .fl 5, .fl 6, .fl 7, .fl 8, .fl 9, .fl 10, .fl 11, .fl 12, .an 13 [0], .an 14 [], .an 15 [], .sync] := by kernel_rfl
abbrev ref06_halves_post (r : (List Int)) : SV → Mem → Prop := fun s Me => ∃ q1, s = q1 ∧ Has (fun _ => none) Me [.vec 3 1 r.length q1 (r.flatMap enc3)]

def ref06_halves_1 (F : Nat) : Nat → (List Int) → Int → Int → (List Int) → Option ((List Int))
  | 0, _, _, _, _ => none
  | N + 1, v0, v1, v6, l1 =>
    bif (decide ((w64 (v6 + (1 : Int))) < (v0.length : Int))) then
      bnd (idx v0 v6) fun x4 =>
      bnd (idx v0 (w64 (v6 + (1 : Int)))) fun x5 =>
      bnd (apd 8 l1 ([(w64 (x4 + (w64 (v1 * x5))))] : List Int)) fun l8 =>
      (ref06_halves_1 F N) v0 v1 (w64 (v6 + (2 : Int))) l8
    else
      some l1

theorem ref06_halves_1_ok (F : Nat) : ∀ (N : Nat), ∀ (v0 : (List Int)) (v1 : Int) (v6 : Int) (l1 : (List Int)) (sv0 : SV) (s1 : SV) (Fr : Rd) (M : Mem) (r : (List Int)) (hv0 : Slc Fr 1 (FlatR enc3) sv0 v0) (hH : Has Fr M [.vec 3 1 l1.length s1 (l1.flatMap enc3)]), ref06_halves_1 F N v0 v1 v6 l1 = some r → Run Tryz.prog ⟨⟨94, [], none⟩, []⟩ 30 (ref06_halves_post r) [(0, sv0), (1, (.int .i64 v1)), (5, s1), (6, (.int .i64 v6))] [codeC Tryz.prog 94 [1, 1, 0, 1, 0, 0], loopC Tryz.prog 94 [1, 1, 0, 1, 0, 0], .inBlock 0, codeC Tryz.prog 94 [1, 1, 1]] M := by
  intro N
  induction N with
  | zero =>
    intro v0 v1 v6 l1 sv0 s1 Fr M r hv0 hH h
    simp [ref06_halves_1] at h
  | succ N ih =>
    intro v0 v1 v6 l1 sv0 s1 Fr M r hv0 hH h
    rw [ref06_halves_1] at h
    refine Run.seq (Run.seq (Run.region ?_))
    refine Run.opG wantS_none (ex_move rfl) rfl ?_
    refine Run.opG wantS_none (ex_add rfl rfl) rfl ?_
    refine Run.opG wantS_none (ex_move rfl) rfl ?_
    refine Run.opG wantS_none (ex_len' rfl hv0 lenk22) rfl ?_
    refine Run.opG wantS_none (ex_lss rfl rfl) rfl ?_
    refine Run.opsEnd ?_
    rcases btf ((decide ((w64 (v6 + (1 : Int))) < (v0.length : Int)))) with hc3 | hc3
    · have h := bif_t hc3 h
      refine Run.condT' rfl hc3 ?_
      refine Run.skip (Run.seq (Run.block ?_))
      refine Run.drawG plan94_1_1_0_1_0_0_1_0_0 ?_
      refine DrawG.fl rfl (ev_ex wantS_none (ex_move rfl)) rfl ?_
      refine DrawG.fl rfl (ev_ex wantS_none (ex_move rfl)) rfl ?_
      refine DrawG.fl rfl (ev_ex wantS_none (ex_move rfl)) rfl ?_
      obtain ⟨x4, hx4, h⟩ := bnd_some h
      obtain ⟨p4, o4, _, hx4, hp4, rfl⟩ := sl_elem (P := Tryz.prog) (t := 22) (kk := .i64) hv0 hx4 els22
      refine DrawG.fl rfl (ev_ex wantS_none (ex_elX rfl rfl hx4)) rfl ?_
      refine DrawG.fl rfl (ev_ex wantS_none (ex_load1 rfl (hH.ptrF hp4) rdLe_rfl agg3)) rfl ?_
      refine DrawG.fl rfl (ev_ex wantS_none (ex_move rfl)) rfl ?_
      refine DrawG.fl rfl (ev_ex wantS_none (ex_move rfl)) rfl ?_
      refine DrawG.fl rfl (ev_ex wantS_none (ex_move rfl)) rfl ?_
      refine DrawG.fl rfl (ev_ex wantS_none (ex_add rfl rfl)) rfl ?_
      obtain ⟨x5, hx5, h⟩ := bnd_some h
      obtain ⟨p5, o5, _, hx5, hp5, rfl⟩ := sl_elem (P := Tryz.prog) (t := 22) (kk := .i64) hv0 hx5 els22
      refine DrawG.fl rfl (ev_ex wantS_none (ex_elX rfl rfl hx5)) rfl ?_
      refine DrawG.fl rfl (ev_ex wantS_none (ex_load1 rfl (hH.ptrF hp5) rdLe_rfl agg3)) rfl ?_
      refine DrawG.fl rfl (ev_ex wantS_none (ex_mul rfl rfl)) rfl ?_
      refine DrawG.fl rfl (ev_ex wantS_none (ex_add rfl rfl)) rfl ?_
      refine DrawG.opX rfl wantS_none rfl (ExG.built (enc := enc3) (l := ([(w64 (x4 + (w64 (v1 * x5))))] : List Int)) (z := 1) rfl elt22 rfl rfl rfl enc3_len hH) ?_
      rintro s6 M7 (hH7 : Has Fr M7 [.vec 3 1 ([(w64 (x4 + (w64 (v1 * x5))))] : List Int).length s6 (([(w64 (x4 + (w64 (v1 * x5))))] : List Int).flatMap enc3), .vec 3 1 l1.length s1 (l1.flatMap enc3)])
      refine ⟨(st_cons rfl (ev_ex wantS_none (ex_move rfl)) rfl rfl (blk_self hH7 (i := 1) rfl) st_nil), ?_⟩
      obtain ⟨l8, hl8, h⟩ := bnd_some h
      refine DrawG.opX rfl wantS_none rfl (ExG.append rfl rfl hH7 (i := 1) rfl enc3_len rfl enc3_ones appt22_22 rfl (len_slc (hH7.slc (i := 0) rfl enc3_len)) (first_slc (hH7.slc (i := 0) rfl enc3_len) (rdLe_rdRow _) enc3_len) hl8) ?_
      rintro s8 M10 (hH10 : Has Fr M10 [.vec 3 1 ([(w64 (x4 + (w64 (v1 * x5))))] : List Int).length s6 (([(w64 (x4 + (w64 (v1 * x5))))] : List Int).flatMap enc3), .vec 3 1 l8.length s8 (l8.flatMap enc3)])
      refine ⟨st_nil, ?_⟩
      refine DrawG.val rfl wantS_none (ex_assign rfl) rfl st_nil ?_
      refine DrawG.sync ?_
      refine DrawG.nil ?_
      refine Run.inBlock (Run.region ?_)
      refine Run.opG wantS_none (ex_move rfl) rfl ?_
      refine Run.opG wantS_none (ex_add rfl rfl) rfl ?_
      refine Run.opG wantS_none (ex_assign rfl) rfl ?_
      refine Run.opsEnd (Run.inLoop ?_)
      exact Run.pick [0, 1, 5, 6] (ih v0 v1 (w64 (v6 + (2 : Int))) l8 sv0 s8 _ _ _ hv0 (hH10.pick [1] rfl rfl) h)
    · have h := bif_f hc3 h
      refine Run.condF' rfl hc3 ?_
      refine Run.exit rfl (Run.seq (Run.region ?_))
      refine Run.opG wantS_none (ex_move rfl) rfl ?_
      refine Run.opG wantS_none (ex_assign rfl) rfl ?_
      refine Run.opsEnd ?_
      cases h
      exact Run.ret Tryz.func94 rfl (res_tmp rfl res_nil) ⟨_, rfl, (hH.pick [0] rfl rfl).upF (none_le _)⟩

def ref06_halves (F : Nat) (a0 : (List Int)) (a1 : Int) : Option ((List Int)) :=
  ref06_halves_1 F F a0 a1 (0 : Int) ([] : List Int)

theorem ref06_halves_ok (F : Nat) (a0 : (List Int)) (a1 : Int) (s0 : SV) (r : (List Int)) (M : Mem) (hs0 : Slc (rd M) 1 (FlatR enc3) s0 a0) (h : ref06_halves F a0 a1 = some r) : CallsM Tryz.prog 94 [s0, (.int .i64 a1)] M (fun s M' => ∃ q1, s = q1 ∧ New M M' [.vec 3 1 r.length q1 (r.flatMap enc3)]) := by
  refine CallsM.fresh (Q := ref06_halves_post r) Tryz.func94 rfl rfl ?_ (by rintro s Me ⟨q1, rfl, hx⟩ ha hw; exact ⟨_, rfl, New.of rfl hx ha hw⟩)
  rw [ref06_halves] at h
  replace hs0 := hs0.mono (rdLe_frozen M) (fun _ _ h => h)
  have hH := Has.nil (frozen M)
  refine Run.seq (Run.region ?_)
  refine Run.opG wantS_none (ex_assign rfl) rfl ?_
  refine Run.opsEnd (Run.seq (Run.region ?_))
  refine Run.opG wantS_none (ex_assign rfl) rfl ?_
  refine Run.opsEnd (Run.seq (Run.seq (Run.region ?_)))
  refine Run.opG wantS_none (ex_assign rfl) rfl ?_
  refine Run.opsEnd (Run.block (Run.loop ?_))
  have hH2 : Has (ro (frozen M)) (frozen M) [.vec 3 1 ([] : List Int).length .nils (([] : List Int).flatMap enc3)] := hH.nils 3 1
  exact Run.pick [0, 1, 5, 6] (ref06_halves_1_ok F F a0 a1 (0 : Int) ([] : List Int) s0 .nils _ _ _ hs0 hH2 h)

theorem mkk94 : makeK Tryz.prog 94 = none := by kernel_rfl
theorem cal94 : callable Tryz.prog 94 = true := by kernel_rfl
theorem mkk52 : makeK Tryz.prog 52 = none := by kernel_rfl
theorem cal52 : callable Tryz.prog 52 = true := by kernel_rfl
abbrev ref06_transform_post (r : (List Int)) : SV → Mem → Prop := fun s Me => ∃ q1, s = q1 ∧ Has (fun _ => none) Me [.vec 3 1 r.length q1 (r.flatMap enc3)]

def ref06_transform : Nat → (List Int) → Option ((List Int))
  | 0, _ => none
  | F + 1, a0 =>
    bif ((a0.length : Int) == (1 : Int)) then
      bnd (ref00_OwnInts F a0) fun r2 =>
      some r2
    else
      bnd (ref06_halves F a0 (1 : Int)) fun r5 =>
      bnd ((ref06_transform F) r5) fun r8 =>
      bnd (ref06_halves F a0 ((-1) : Int)) fun r11 =>
      bnd (apd 8 r8 r11) fun l14 =>
      some l14

theorem ref06_transform_ok : ∀ (F : Nat), ∀ (a0 : (List Int)) (s0 : SV) (r : (List Int)) (M : Mem) (hs0 : Slc (rd M) 1 (FlatR enc3) s0 a0) (h : ref06_transform F a0 = some r), CallsM Tryz.prog 52 [s0] M (fun s M' => ∃ q1, s = q1 ∧ New M M' [.vec 3 1 r.length q1 (r.flatMap enc3)]) := by
  intro F
  induction F with
  | zero =>
    intro a0 s0 r M hs0 h
    simp [ref06_transform] at h
  | succ F ih =>
    intro a0 s0 r M hs0 h
    refine CallsM.fresh (Q := ref06_transform_post r) Tryz.func52 rfl rfl ?_ (by rintro s Me ⟨q1, rfl, hx⟩ ha hw; exact ⟨_, rfl, New.of rfl hx ha hw⟩)
    rw [ref06_transform] at h
    replace hs0 := hs0.mono (rdLe_frozen M) (fun _ _ h => h)
    have hH := Has.nil (frozen M)
    refine Run.seq (Run.region ?_)
    refine Run.opG wantS_none (ex_assign rfl) rfl ?_
    refine Run.opsEnd (Run.seq (Run.seq (Run.region ?_)))
    refine Run.opG wantS_none (ex_move rfl) rfl ?_
    refine Run.opG wantS_none (ex_len' rfl hs0 lenk22) rfl ?_
    refine Run.opG wantS_none (ex_eql rfl rfl) rfl ?_
    refine Run.opsEnd ?_
    rcases btf (((a0.length : Int) == (1 : Int))) with hc1 | hc1
    · have h := bif_t hc1 h
      refine Run.condT' rfl hc1 ?_
      refine Run.seq (Run.region ?_)
      refine Run.opG wantS_none (ex_move rfl) rfl ?_
      obtain ⟨r2, hr2, h⟩ := bnd_some h
      refine Run.callX wantS_none (ex_call rfl mkk82 cal82) rfl (ref00_OwnInts_ok F a0 s0 _ _ (hH.slcF hs0) hr2) ?_
      rintro s2_0 M4 ⟨_, rfl, hN2⟩
      have hH4 : Has (ro (frozen M)) M4 [.vec 3 1 r2.length s2_0 (r2.flatMap enc3)] := hN2 _ _ hH
      refine Run.opG wantS_none (ex_assign rfl) rfl ?_
      refine Run.opsEnd ?_
      cases h
      exact Run.ret Tryz.func52 rfl (res_tmp rfl res_nil) ⟨_, rfl, (hH4.pick [0] rfl rfl).upF (none_le _)⟩
    · have h := bif_f hc1 h
      refine Run.condF' rfl hc1 ?_
      refine Run.skip (Run.seq (Run.region ?_))
      refine Run.opG wantS_none (ex_move rfl) rfl ?_
      obtain ⟨r5, hr5, h⟩ := bnd_some h
      refine Run.callX wantS_none (ex_call rfl mkk94 cal94) rfl (ref06_halves_ok F a0 (1 : Int) s0 _ _ (hH.slcF hs0) hr5) ?_
      rintro s5_0 M7 ⟨_, rfl, hN5⟩
      have hH7 : Has (ro (frozen M)) M7 [.vec 3 1 r5.length s5_0 (r5.flatMap enc3)] := hN5 _ _ hH
      obtain ⟨r8, hr8, h⟩ := bnd_some h
      refine Run.callX wantS_none (ex_call rfl mkk52 cal52) rfl (ih r5 s5_0 _ _ (hH7.slc (i := 0) rfl enc3_len) hr8) ?_
      rintro s8_0 M10 ⟨_, rfl, hN8⟩
      have hH10 : Has (ro (frozen M)) M10 [.vec 3 1 r8.length s8_0 (r8.flatMap enc3), .vec 3 1 r5.length s5_0 (r5.flatMap enc3)] := hN8 _ _ hH7
      refine Run.opG wantS_none (ex_move rfl) rfl ?_
      obtain ⟨r11, hr11, h⟩ := bnd_some h
      refine Run.callX wantS_none (ex_call rfl mkk94 cal94) rfl (ref06_halves_ok F a0 ((-1) : Int) s0 _ _ (hH10.slcF hs0) hr11) ?_
      rintro s11_0 M13 ⟨_, rfl, hN11⟩
      have hH13 : Has (ro (frozen M)) M13 [.vec 3 1 r11.length s11_0 (r11.flatMap enc3), .vec 3 1 r8.length s8_0 (r8.flatMap enc3), .vec 3 1 r5.length s5_0 (r5.flatMap enc3)] := hN11 _ _ hH10
      obtain ⟨l14, hl14, h⟩ := bnd_some h
      refine Run.opX wantS_none rfl (ExG.append rfl rfl hH13 (i := 1) rfl enc3_len rfl enc3_ones appt22_22 rfl (len_slc (hH13.slc (i := 0) rfl enc3_len)) (first_slc (hH13.slc (i := 0) rfl enc3_len) (rdLe_rdRow _) enc3_len) hl14) ?_
      rintro s14 M16 (hH16 : Has (ro (frozen M)) M16 [.vec 3 1 r11.length s11_0 (r11.flatMap enc3), .vec 3 1 l14.length s14 (l14.flatMap enc3), .vec 3 1 r5.length s5_0 (r5.flatMap enc3)])
      refine Run.opG wantS_none (ex_assign rfl) rfl ?_
      refine Run.opsEnd ?_
      cases h
      exact Run.ret Tryz.func52 rfl (res_tmp rfl res_nil) ⟨_, rfl, (hH16.pick [1] rfl rfl).upF (none_le _)⟩

abbrev ref06_Transform_post (r : (List Int) × Int) : SV → Mem → Prop := fun s Me => ∃ q1, s = (.tuple [q1, (.int .i64 r.2)]) ∧ Has (fun _ => none) Me [.vec 3 1 r.1.length q1 (r.1.flatMap enc3)]

def ref06_Transform (F : Nat) (a0 : (List Int)) : Option ((List Int) × Int) :=
  bnd (ref06_CheckSignal F a0) fun r1 =>
  bif (!(r1 == (0 : Int))) then
    some (([] : List Int), r1)
  else
    bnd (ref06_transform F a0) fun r6 =>
    some (r6, (0 : Int))

theorem ref06_Transform_ok (F : Nat) (a0 : (List Int)) (s0 : SV) (r : (List Int) × Int) (M : Mem) (hs0 : Slc (rd M) 1 (FlatR enc3) s0 a0) (h : ref06_Transform F a0 = some r) : CallsM Tryz.prog 18 [s0] M (fun s M' => ∃ q1, s = (.tuple [q1, (.int .i64 r.2)]) ∧ New M M' [.vec 3 1 r.1.length q1 (r.1.flatMap enc3)]) := by
  refine CallsM.fresh (Q := ref06_Transform_post r) Tryz.func18 rfl rfl ?_ (by rintro s Me ⟨q1, rfl, hx⟩ ha hw; exact ⟨_, rfl, New.of rfl hx ha hw⟩)
  rw [ref06_Transform] at h
  replace hs0 := hs0.mono (rdLe_frozen M) (fun _ _ h => h)
  have hH := Has.nil (frozen M)
  refine Run.seq (Run.region ?_)
  refine Run.opG wantS_none (ex_assign rfl) rfl ?_
  refine Run.opG wantS_none (ex_assign rfl) rfl ?_
  refine Run.opsEnd (Run.seq (Run.seq (Run.region ?_)))
  refine Run.opG wantS_none (ex_move rfl) rfl ?_
  obtain ⟨r1, hr1, h⟩ := bnd_some h
  refine Run.callP wantS_none (ex_call rfl mkk16 cal16) rfl (ref06_CheckSignal_ok F a0 s0 _ _ (hH.slcF hs0) hr1) ?_
  refine Run.opG wantS_none (ex_assign rfl) rfl ?_
  refine Run.opsEnd (Run.seq (Run.region ?_))
  refine Run.opG wantS_none (ex_move rfl) rfl ?_
  refine Run.opG wantS_none (ex_neq rfl rfl) rfl ?_
  refine Run.opsEnd ?_
  rcases btf ((!(r1 == (0 : Int)))) with hc3 | hc3
  · have h := bif_t hc3 h
    refine Run.condT' rfl hc3 ?_
    refine Run.seq (Run.region ?_)
    refine Run.opG wantS_none (ex_move rfl) rfl ?_
    refine Run.opG wantS_none (ex_assign rfl) rfl ?_
    refine Run.opG wantS_none (ex_assign rfl) rfl ?_
    refine Run.opsEnd ?_
    have hH5 : Has (ro (frozen M)) (frozen M) [.vec 3 1 ([] : List Int).length .nils (([] : List Int).flatMap enc3)] := hH.nils 3 1
    cases h
    exact Run.ret Tryz.func18 rfl (res_tmp rfl (res_tmp rfl res_nil)) ⟨_, rfl, (hH5.pick [0] rfl rfl).upF (none_le _)⟩
  · have h := bif_f hc3 h
    refine Run.condF' rfl hc3 ?_
    refine Run.skip (Run.seq (Run.region ?_))
    refine Run.opG wantS_none (ex_move rfl) rfl ?_
    obtain ⟨r6, hr6, h⟩ := bnd_some h
    refine Run.callX wantS_none (ex_call rfl mkk52 cal52) rfl (ref06_transform_ok F a0 s0 _ _ (hH.slcF hs0) hr6) ?_
    rintro s6_0 M8 ⟨_, rfl, hN6⟩
    have hH8 : Has (ro (frozen M)) M8 [.vec 3 1 r6.length s6_0 (r6.flatMap enc3)] := hN6 _ _ hH
    refine Run.opG wantS_none (ex_assign rfl) rfl ?_
    refine Run.opG wantS_none (ex_assign rfl) rfl ?_
    refine Run.opsEnd ?_
    cases h
    exact Run.ret Tryz.func18 rfl (res_tmp rfl (res_tmp rfl res_nil)) ⟨_, rfl, (hH8.pick [0] rfl rfl).upF (none_le _)⟩

theorem mkk18 : makeK Tryz.prog 18 = none := by kernel_rfl
theorem cal18 : callable Tryz.prog 18 = true := by kernel_rfl
theorem plan19_1_1_0_1_0_0_1_0_0_0 : planOf Tryz.prog (opsC (atC Tryz.prog 19 [1, 1, 0, 1, 0, 0, 1, 0, 0, 0])) = some [.fl 0, .fl 1, .fl 2, .fl 3, .fl 4, .fl 5, .fl 6, .fl 7, .fl 8, .sync] := by kernel_rfl
abbrev ref00_SameInts_post (r : Bool) : SV → Mem → Prop := fun s _ => s = (.bool r)

def ref00_SameInts_1 (F : Nat) : Nat → (List Int) → (List Int) → Int → Option (Bool)
  | 0, _, _, _ => none
  | N + 1, v0, v1, v5 =>
    bif (decide (v5 < (v0.length : Int))) then
      bnd (idx v0 v5) fun x3 =>
      bnd (idx v1 v5) fun x4 =>
      bif (!(x3 == x4)) then
        some false
      else
        (ref00_SameInts_1 F N) v0 v1 (w64 (v5 + (1 : Int)))
    else
      some true

theorem ref00_SameInts_1_ok (F : Nat) : ∀ (N : Nat), ∀ (v0 : (List Int)) (v1 : (List Int)) (v5 : Int) (sv0 : SV) (sv1 : SV) (Fr : Rd) (M : Mem) (r : Bool) (hv0 : Slc Fr 1 (FlatR enc3) sv0 v0) (hv1 : Slc Fr 1 (FlatR enc3) sv1 v1) (hH : Has Fr M []), ref00_SameInts_1 F N v0 v1 v5 = some r → Run Tryz.prog ⟨⟨19, [], none⟩, []⟩ 26 (ref00_SameInts_post r) [(0, sv0), (1, sv1), (5, (.int .i64 v5))] [codeC Tryz.prog 19 [1, 1, 0, 1, 0, 0], loopC Tryz.prog 19 [1, 1, 0, 1, 0, 0], .inBlock 0, codeC Tryz.prog 19 [1, 1, 1]] M := by
  intro N
  induction N with
  | zero =>
    intro v0 v1 v5 sv0 sv1 Fr M r hv0 hv1 hH h
    simp [ref00_SameInts_1] at h
  | succ N ih =>
    intro v0 v1 v5 sv0 sv1 Fr M r hv0 hv1 hH h
    rw [ref00_SameInts_1] at h
    refine Run.seq (Run.seq (Run.region ?_))
    refine Run.opG wantS_none (ex_move rfl) rfl ?_
    refine Run.opG wantS_none (ex_move rfl) rfl ?_
    refine Run.opG wantS_none (ex_len' rfl hv0 lenk22) rfl ?_
    refine Run.opG wantS_none (ex_lss rfl rfl) rfl ?_
    refine Run.opsEnd ?_
    rcases btf ((decide (v5 < (v0.length : Int)))) with hc2 | hc2
    · have h := bif_t hc2 h
      refine Run.condT' rfl hc2 ?_
      refine Run.skip (Run.seq (Run.block (Run.seq ?_)))
      refine Run.drawG plan19_1_1_0_1_0_0_1_0_0_0 ?_
      refine DrawG.fl rfl (ev_ex wantS_none (ex_move rfl)) rfl ?_
      refine DrawG.fl rfl (ev_ex wantS_none (ex_move rfl)) rfl ?_
      obtain ⟨x3, hx3, h⟩ := bnd_some h
      obtain ⟨p3, o3, _, hx3, hp3, rfl⟩ := sl_elem (P := Tryz.prog) (t := 22) (kk := .i64) hv0 hx3 els22
      refine DrawG.fl rfl (ev_ex wantS_none (ex_elX rfl rfl hx3)) rfl ?_
      refine DrawG.fl rfl (ev_ex wantS_none (ex_load1 rfl (hH.ptrF hp3) rdLe_rfl agg3)) rfl ?_
      refine DrawG.fl rfl (ev_ex wantS_none (ex_move rfl)) rfl ?_
      refine DrawG.fl rfl (ev_ex wantS_none (ex_move rfl)) rfl ?_
      obtain ⟨x4, hx4, h⟩ := bnd_some h
      obtain ⟨p4, o4, _, hx4, hp4, rfl⟩ := sl_elem (P := Tryz.prog) (t := 22) (kk := .i64) hv1 hx4 els22
      refine DrawG.fl rfl (ev_ex wantS_none (ex_elX rfl rfl hx4)) rfl ?_
      refine DrawG.fl rfl (ev_ex wantS_none (ex_load1 rfl (hH.ptrF hp4) rdLe_rfl agg3)) rfl ?_
      refine DrawG.fl rfl (ev_ex wantS_none (ex_neq rfl rfl)) rfl ?_
      refine DrawG.sync ?_
      refine DrawG.nil ?_
      rcases btf ((!(x3 == x4))) with hc5 | hc5
      · have h := bif_t hc5 h
        refine Run.condT' rfl hc5 ?_
        refine Run.seq (Run.region ?_)
        refine Run.opG wantS_none (ex_assign rfl) rfl ?_
        refine Run.opsEnd ?_
        cases h
        exact Run.ret Tryz.func19 rfl (res_tmp rfl res_nil) rfl
      · have h := bif_f hc5 h
        refine Run.condF' rfl hc5 ?_
        refine Run.skip (Run.inBlock (Run.region ?_))
        refine Run.opG wantS_none (ex_move rfl) rfl ?_
        refine Run.opG wantS_none (ex_add rfl rfl) rfl ?_
        refine Run.opG wantS_none (ex_assign rfl) rfl ?_
        refine Run.opsEnd (Run.inLoop ?_)
        exact Run.pick [0, 1, 5] (ih v0 v1 (w64 (v5 + (1 : Int))) sv0 sv1 _ _ _ hv0 hv1 hH h)
    · have h := bif_f hc2 h
      refine Run.condF' rfl hc2 ?_
      refine Run.exit rfl (Run.seq (Run.region ?_))
      refine Run.opG wantS_none (ex_assign rfl) rfl ?_
      refine Run.opsEnd ?_
      cases h
      exact Run.ret Tryz.func19 rfl (res_tmp rfl res_nil) rfl

def ref00_SameInts (F : Nat) (a0 : (List Int)) (a1 : (List Int)) : Option (Bool) :=
  bif (!((a0.length : Int) == (a1.length : Int))) then
    some false
  else
    ref00_SameInts_1 F F a0 a1 (0 : Int)

theorem ref00_SameInts_ok (F : Nat) (a0 : (List Int)) (a1 : (List Int)) (s0 s1 : SV) (r : Bool) (M : Mem) (hs0 : Slc (rd M) 1 (FlatR enc3) s0 a0) (hs1 : Slc (rd M) 1 (FlatR enc3) s1 a1) (h : ref00_SameInts F a0 a1 = some r) : CallsM Tryz.prog 19 [s0, s1] M (fun s M' => s = (.bool r) ∧ M' = M) := by
  refine CallsM.plain Tryz.func19 rfl rfl rfl (show Run _ _ _ (ref00_SameInts_post r) _ _ _ from ?_)
  rw [ref00_SameInts] at h
  replace hs0 := hs0.mono (rdLe_frozen M) (fun _ _ h => h)
  replace hs1 := hs1.mono (rdLe_frozen M) (fun _ _ h => h)
  have hH := Has.nil (frozen M)
  refine Run.seq (Run.region ?_)
  refine Run.opG wantS_none (ex_assign rfl) rfl ?_
  refine Run.opsEnd (Run.seq (Run.seq (Run.region ?_)))
  refine Run.opG wantS_none (ex_move rfl) rfl ?_
  refine Run.opG wantS_none (ex_len' rfl hs0 lenk22) rfl ?_
  refine Run.opG wantS_none (ex_move rfl) rfl ?_
  refine Run.opG wantS_none (ex_len' rfl hs1 lenk22) rfl ?_
  refine Run.opG wantS_none (ex_neq rfl rfl) rfl ?_
  refine Run.opsEnd ?_
  rcases btf ((!((a0.length : Int) == (a1.length : Int)))) with hc1 | hc1
  · have h := bif_t hc1 h
    refine Run.condT' rfl hc1 ?_
    refine Run.seq (Run.region ?_)
    refine Run.opG wantS_none (ex_assign rfl) rfl ?_
    refine Run.opsEnd ?_
    cases h
    exact Run.ret Tryz.func19 rfl (res_tmp rfl res_nil) rfl
  · have h := bif_f hc1 h
    refine Run.condF' rfl hc1 ?_
    refine Run.skip (Run.seq (Run.seq (Run.region ?_)))
    refine Run.opG wantS_none (ex_assign rfl) rfl ?_
    refine Run.opsEnd (Run.block (Run.loop ?_))
    exact Run.pick [0, 1, 5] (ref00_SameInts_1_ok F F a0 a1 (0 : Int) s0 s1 _ _ _ hs0 hs1 hH h)

theorem mkk19 : makeK Tryz.prog 19 = none := by kernel_rfl
theorem cal19 : callable Tryz.prog 19 = true := by kernel_rfl
theorem zer4 : zerosOf Tryz.prog 4 = some [(.bool false)] := by kernel_rfl
theorem sz4 : szOf Tryz.prog 4 = some 1 := by kernel_rfl
theorem mkk95 : makeK Tryz.prog 95 = none := by kernel_rfl
theorem cal95 : callable Tryz.prog 95 = true := by kernel_rfl
theorem agg4 : aggSize Tryz.prog 4 = some none := by kernel_rfl
theorem plan95_1_1_0_0_1_1_0_0_1_1_1 : planOf Tryz.prog (opsC (atC Tryz.prog 95 [1, 1, 0, 0, 1, 1, 0, 0, 1, 1, 1])) = some [.fl 0, .fl 1, .fl 2, .fl 3, .fl 4, .fl 5, .fl 6, .fl 7, .fl 8, .fl 9, .fl 10, .fl 11, .an 12 [10, 9, 6, 5, 4, 3], .fl 13, .an 14 [], .sync] := by kernel_rfl
theorem plan95_1_1_0_0_1_1_0_0_1_0 : planOf Tryz.prog (opsC (atC Tryz.prog 95 [1, 1, 0, 0, 1, 1, 0, 0, 1, 0])) = some [.fl 0, .fl 1, .fl 2, .fl 3, .fl 4, .fl 5, .fl 6, .fl 7, .fl 8, .fl 9, .fl 10, .fl 11, .fl 12, .fl 13, .fl 14, .fl 15, .fl 16, .fl 17, .fl 18, .fl 19, .fl 20, .fl 21, .fl 22, .fl 23, .sync] := by kernel_rfl
theorem plan53_1_1_1_1_1_1_0 : planOf Tryz.prog (opsC (atC Tryz.prog 53 [1, 1, 1, 1, 1, 1, 0])) = some [.fl 0, .fl 1, .fl 2, .fl 3, .an 4 [0], .fl 5, .an 6 [5], .fl 7, .sync] := by kernel_rfl
abbrev glitch_inverse_post (r : (List Int) × Bool) : SV → Mem → Prop := fun s Me => ∃ q1, s = (.tuple [q1, (.bool r.2)]) ∧ Has (fun _ => none) Me [.vec 3 1 r.1.length q1 (r.1.flatMap enc3)]

def glitch_inverse_4 (F : Nat) (hd3 : Int → Int → Int → Int → (List Int) → Bool → (List Int) → (List Int) → Option ((List Int) × Bool)) (v0 : Int) (v6 : Int) (v7 : Int) (v8 : Int) (v13 : Int) (v14 : Int) (v44 : Bool) (v6_f1 : Int) (c1_0 : (List Int)) (c16_0 : Bool) (l13 : (List Int)) (l22 : (List Int)) : Option ((List Int) × Bool) :=
  bnd (inn l13 (w64 ((2 : Int) * v6))) fun o31 =>
  bnd (upd l13 o31 (w64 (Int.tdiv v7 (2 : Int)))) fun l32 =>
  bnd (inn l32 (w64 ((w64 ((2 : Int) * v6)) + (1 : Int)))) fun o34 =>
  bnd (upd l32 o34 (w64 (Int.tdiv v8 (2 : Int)))) fun l35 =>
  hd3 v0 v13 (w64 (v14 + (1 : Int))) v6_f1 c1_0 v44 l35 l22

theorem glitch_inverse_4_ok (F : Nat) (hd3 : Int → Int → Int → Int → (List Int) → Bool → (List Int) → (List Int) → Option ((List Int) × Bool)) (hhd3 : ∀ (v0 : Int) (v13 : Int) (v14 : Int) (v6_f1 : Int) (c1_0 : (List Int)) (c16_0 : Bool) (l13 : (List Int)) (l22 : (List Int)) (sc1_0 : SV) (b3 : Pos) (s13 : SV) (b1 : Pos) (b16 : Pos) (s22 : SV) (Fr : Rd) (M : Mem) (r : (List Int) × Bool) (hc1_0 : Slc Fr 1 (FlatR enc3) sc1_0 c1_0) (hH : Has Fr M [.obj b3 (.row 22 .whole [s13]), .vec 3 1 l13.length s13 (l13.flatMap enc3), .obj b1 (.row 22 .whole [sc1_0]), .obj b16 (.row 4 .whole [(.bool c16_0)]), .vec 3 1 l22.length s22 (l22.flatMap enc3)]), hd3 v0 v13 v14 v6_f1 c1_0 c16_0 l13 l22 = some r → Run Tryz.prog ⟨⟨95, [], none⟩, [.mk ⟨53, [], none⟩ 34 (treeOf [(1, (.ptr b1 0)), (2, (.ptr b3 0)), (4, (.ptr b16 0)), (5, (.fn (.func 95) [] [(.ptr b3 0), (.ptr b1 0), (.ptr b16 0)])), (6, (.int .i64 v6_f1))]) [itemC Tryz.prog 53 [1, 1, 1, 1, 1, 0, 1, 0, 0, 1, 0, 0] 2, .inBlock 1, codeC Tryz.prog 53 [1, 1, 1, 1, 1, 0, 1, 0, 0, 1, 1], loopC Tryz.prog 53 [1, 1, 1, 1, 1, 0, 1, 0, 0], .inBlock 0, codeC Tryz.prog 53 [1, 1, 1, 1, 1, 1]]]⟩ 59 (glitch_inverse_post r) [(0, (.int .i64 v0)), (1, (.ptr b3 0)), (2, (.ptr b1 0)), (3, (.ptr b16 0)), (5, s22), (13, (.int .i64 v13)), (14, (.int .i64 v14))] [codeC Tryz.prog 95 [1, 1, 0, 0], loopC Tryz.prog 95 [1, 1, 0, 0], .inBlock 0] M) : ∀ (v0 : Int) (v6 : Int) (v7 : Int) (v8 : Int) (v13 : Int) (v14 : Int) (v44 : Bool) (v6_f1 : Int) (c1_0 : (List Int)) (c16_0 : Bool) (l13 : (List Int)) (l22 : (List Int)) (sc1_0 : SV) (b3 : Pos) (s13 : SV) (b1 : Pos) (b16 : Pos) (s22 : SV) (Fr : Rd) (M : Mem) (r : (List Int) × Bool) (hc1_0 : Slc Fr 1 (FlatR enc3) sc1_0 c1_0) (hH : Has Fr M [.obj b3 (.row 22 .whole [s13]), .vec 3 1 l13.length s13 (l13.flatMap enc3), .obj b1 (.row 22 .whole [sc1_0]), .obj b16 (.row 4 .whole [(.bool c16_0)]), .vec 3 1 l22.length s22 (l22.flatMap enc3)]), glitch_inverse_4 F hd3 v0 v6 v7 v8 v13 v14 v44 v6_f1 c1_0 c16_0 l13 l22 = some r → Run Tryz.prog ⟨⟨95, [], none⟩, [.mk ⟨53, [], none⟩ 34 (treeOf [(1, (.ptr b1 0)), (2, (.ptr b3 0)), (4, (.ptr b16 0)), (5, (.fn (.func 95) [] [(.ptr b3 0), (.ptr b1 0), (.ptr b16 0)])), (6, (.int .i64 v6_f1))]) [itemC Tryz.prog 53 [1, 1, 1, 1, 1, 0, 1, 0, 0, 1, 0, 0] 2, .inBlock 1, codeC Tryz.prog 53 [1, 1, 1, 1, 1, 0, 1, 0, 0, 1, 1], loopC Tryz.prog 53 [1, 1, 1, 1, 1, 0, 1, 0, 0], .inBlock 0, codeC Tryz.prog 53 [1, 1, 1, 1, 1, 1]]]⟩ 59 (glitch_inverse_post r) [(0, (.int .i64 v0)), (1, (.ptr b3 0)), (2, (.ptr b1 0)), (3, (.ptr b16 0)), (5, s22), (6, (.int .i64 v6)), (7, (.int .i64 v7)), (8, (.int .i64 v8)), (13, (.int .i64 v13)), (14, (.int .i64 v14)), (44, (.bool v44))] [itemC Tryz.prog 95 [1, 1, 0, 0, 1, 1, 0, 0, 1, 1, 0] 6, codeC Tryz.prog 95 [1, 1, 0, 0, 1, 1, 0, 0, 1, 1, 1], .inBlock 1, codeC Tryz.prog 95 [1, 1, 0, 0, 1, 1, 1], loopC Tryz.prog 95 [1, 1, 0, 0], .inBlock 0] M := by
  intro v0 v6 v7 v8 v13 v14 v44 v6_f1 c1_0 c16_0 l13 l22 sc1_0 b3 s13 b1 b16 s22 Fr M r hc1_0 hH h
  rw [glitch_inverse_4] at h
  refine Run.opX wantS_none rfl (ExG.storeC (c' := [(.bool v44)]) rfl rfl rfl hH (i := 3) rfl sz4 rfl rfl rfl rfl rfl) ?_
  rintro _ M30 ⟨rfl, (hH30 : Has Fr M30 [.obj b3 (.row 22 .whole [s13]), .vec 3 1 l13.length s13 (l13.flatMap enc3), .obj b1 (.row 22 .whole [sc1_0]), .obj b16 (.row 4 .whole [(.bool v44)]), .vec 3 1 l22.length s22 (l22.flatMap enc3)])⟩
  refine Run.opsEnd ?_
  refine Run.drawG plan95_1_1_0_0_1_1_0_0_1_1_1 ?_
  refine DrawG.fl rfl (ev_ex wantS_none (ex_load1 rfl (hH30.cells (i := 0) rfl 0 rfl) rdLe_rfl agg22)) rfl ?_
  refine DrawG.fl rfl (ev_ex wantS_none (ex_move rfl)) rfl ?_
  refine DrawG.fl rfl (ev_ex wantS_none (ex_mul rfl rfl)) rfl ?_
  refine DrawG.fl rfl (ev_ex wantS_none (ex_load1 rfl (hH30.cells (i := 0) rfl 0 rfl) rdLe_rfl agg22)) rfl ?_
  refine DrawG.fl rfl (ev_ex wantS_none (ex_move rfl)) rfl ?_
  refine DrawG.fl rfl (ev_ex wantS_none (ex_mul rfl rfl)) rfl ?_
  refine DrawG.fl rfl (ev_ex wantS_none (ex_add rfl rfl)) rfl ?_
  refine DrawG.fl rfl (ev_ex wantS_none (ex_move rfl)) rfl ?_
  refine DrawG.fl rfl (ev_ex wantS_none (ex_quo rfl rfl (by decide))) rfl ?_
  refine DrawG.fl rfl (ev_ex wantS_none (ex_move rfl)) rfl ?_
  refine DrawG.fl rfl (ev_ex wantS_none (ex_quo rfl rfl (by decide))) rfl ?_
  obtain ⟨o31, ho31, h⟩ := bnd_some h
  obtain ⟨p31, hb31, hx31⟩ := vec_place (P := Tryz.prog) (t := 22) (kk := .i64) hH30 (i := 1) rfl ho31 els22
  refine DrawG.fl rfl (ev_ex wantS_none (ex_elX rfl rfl hx31)) rfl ?_
  obtain ⟨l32, hl32, h⟩ := bnd_some h
  refine DrawG.opX rfl wantS_none rfl (ExG.storeEl rfl rfl hH30 (i := 1) rfl hb31 hl32 sz3 rfl enc3_len enc3_ones) ?_
  rintro _ M33 ⟨rfl, (hH33 : Has Fr M33 [.obj b3 (.row 22 .whole [s13]), .vec 3 1 l32.length s13 (l32.flatMap enc3), .obj b1 (.row 22 .whole [sc1_0]), .obj b16 (.row 4 .whole [(.bool v44)]), .vec 3 1 l22.length s22 (l22.flatMap enc3)])⟩
  refine ⟨(st_cons rfl (ev_ex wantS_none (ex_quo rfl rfl (by decide))) rfl rfl rfl (st_cons rfl (ev_ex wantS_none (ex_move rfl)) rfl rfl rfl (st_cons rfl (ev_ex wantS_none (ex_add rfl rfl)) rfl rfl rfl (st_cons rfl (ev_ex wantS_none (ex_mul rfl rfl)) rfl rfl rfl (st_cons rfl (ev_ex wantS_none (ex_move rfl)) rfl rfl rfl (st_cons rfl (ev_ex wantS_none (ex_load1 rfl (hH33.cells (i := 0) rfl 0 rfl) rdLe_rfl agg22)) rfl rfl (blk_self hH33 (i := 1) rfl) st_nil)))))), ?_⟩
  obtain ⟨o34, ho34, h⟩ := bnd_some h
  obtain ⟨p34, hb34, hx34⟩ := vec_place (P := Tryz.prog) (t := 22) (kk := .i64) hH33 (i := 1) rfl ho34 els22
  refine DrawG.fl rfl (ev_ex wantS_none (ex_elX rfl rfl hx34)) rfl ?_
  obtain ⟨l35, hl35, h⟩ := bnd_some h
  refine DrawG.opX rfl wantS_none rfl (ExG.storeEl rfl rfl hH33 (i := 1) rfl hb34 hl35 sz3 rfl enc3_len enc3_ones) ?_
  rintro _ M36 ⟨rfl, (hH36 : Has Fr M36 [.obj b3 (.row 22 .whole [s13]), .vec 3 1 l35.length s13 (l35.flatMap enc3), .obj b1 (.row 22 .whole [sc1_0]), .obj b16 (.row 4 .whole [(.bool v44)]), .vec 3 1 l22.length s22 (l22.flatMap enc3)])⟩
  refine ⟨st_nil, ?_⟩
  refine DrawG.sync ?_
  refine DrawG.nil ?_
  refine Run.inBlock (Run.region ?_)
  refine Run.opG wantS_none (ex_add rfl rfl) rfl ?_
  refine Run.opG wantS_none (ex_move rfl) rfl ?_
  refine Run.opsEnd (Run.inLoop ?_)
  exact Run.low (.cons (fle_pick [1, 2, 4, 5, 6] rfl) .nil) (Run.pick [0, 1, 2, 3, 5, 13, 14] (hhd3 v0 v13 (w64 (v14 + (1 : Int))) v6_f1 c1_0 v44 l35 l22 sc1_0 b3 s13 b1 b16 s22 _ _ _ hc1_0 hH36 h))

def glitch_inverse_3 (F : Nat) (hd2 : Int → (List Int) → Bool → (List Int) → Option ((List Int) × Bool)) : Nat → Int → Int → Int → Int → (List Int) → Bool → (List Int) → (List Int) → Option ((List Int) × Bool)
  | 0, _, _, _, _, _, _, _, _ => none
  | N + 1, v0, v13, v14, v6_f1, c1_0, c16_0, l13, l22 =>
    bif (decide (v14 < v13)) then
      bnd (idx l22 v14) fun x25 =>
      bnd (idx c1_0 (w64 (v0 + v14))) fun x26 =>
      bnd (idx l22 v14) fun x27 =>
      bnd (idx c1_0 (w64 (v0 + v14))) fun x28 =>
      bif c16_0 then
        glitch_inverse_4 F (glitch_inverse_3 F hd2 N) v0 v14 (w64 (x25 + x26)) (w64 (x27 - x28)) v13 v14 ((Int.tmod (w64 (x25 + x26)) (2 : Int)) == (0 : Int)) v6_f1 c1_0 c16_0 l13 l22
      else
        glitch_inverse_4 F (glitch_inverse_3 F hd2 N) v0 v14 (w64 (x25 + x26)) (w64 (x27 - x28)) v13 v14 false v6_f1 c1_0 c16_0 l13 l22
    else
      hd2 (w64 (v6_f1 * (2 : Int))) c1_0 c16_0 l13

theorem glitch_inverse_3_ok (F : Nat) (hd2 : Int → (List Int) → Bool → (List Int) → Option ((List Int) × Bool)) (hhd2 : ∀ (v6 : Int) (c1_0 : (List Int)) (c16_0 : Bool) (l13 : (List Int)) (sc1_0 : SV) (b1 : Pos) (b3 : Pos) (s13 : SV) (b16 : Pos) (Fr : Rd) (M : Mem) (r : (List Int) × Bool) (hc1_0 : Slc Fr 1 (FlatR enc3) sc1_0 c1_0) (hH : Has Fr M [.obj b1 (.row 22 .whole [sc1_0]), .obj b3 (.row 22 .whole [s13]), .vec 3 1 l13.length s13 (l13.flatMap enc3), .obj b16 (.row 4 .whole [(.bool c16_0)])]), hd2 v6 c1_0 c16_0 l13 = some r → Run Tryz.prog ⟨⟨53, [], none⟩, []⟩ 34 (glitch_inverse_post r) [(1, (.ptr b1 0)), (2, (.ptr b3 0)), (4, (.ptr b16 0)), (5, (.fn (.func 95) [] [(.ptr b3 0), (.ptr b1 0), (.ptr b16 0)])), (6, (.int .i64 v6))] [codeC Tryz.prog 53 [1, 1, 1, 1, 1, 0, 1, 0, 0], loopC Tryz.prog 53 [1, 1, 1, 1, 1, 0, 1, 0, 0], .inBlock 0, codeC Tryz.prog 53 [1, 1, 1, 1, 1, 1]] M) : ∀ (N : Nat), ∀ (v0 : Int) (v13 : Int) (v14 : Int) (v6_f1 : Int) (c1_0 : (List Int)) (c16_0 : Bool) (l13 : (List Int)) (l22 : (List Int)) (sc1_0 : SV) (b3 : Pos) (s13 : SV) (b1 : Pos) (b16 : Pos) (s22 : SV) (Fr : Rd) (M : Mem) (r : (List Int) × Bool) (hc1_0 : Slc Fr 1 (FlatR enc3) sc1_0 c1_0) (hH : Has Fr M [.obj b3 (.row 22 .whole [s13]), .vec 3 1 l13.length s13 (l13.flatMap enc3), .obj b1 (.row 22 .whole [sc1_0]), .obj b16 (.row 4 .whole [(.bool c16_0)]), .vec 3 1 l22.length s22 (l22.flatMap enc3)]), glitch_inverse_3 F hd2 N v0 v13 v14 v6_f1 c1_0 c16_0 l13 l22 = some r → Run Tryz.prog ⟨⟨95, [], none⟩, [.mk ⟨53, [], none⟩ 34 (treeOf [(1, (.ptr b1 0)), (2, (.ptr b3 0)), (4, (.ptr b16 0)), (5, (.fn (.func 95) [] [(.ptr b3 0), (.ptr b1 0), (.ptr b16 0)])), (6, (.int .i64 v6_f1))]) [itemC Tryz.prog 53 [1, 1, 1, 1, 1, 0, 1, 0, 0, 1, 0, 0] 2, .inBlock 1, codeC Tryz.prog 53 [1, 1, 1, 1, 1, 0, 1, 0, 0, 1, 1], loopC Tryz.prog 53 [1, 1, 1, 1, 1, 0, 1, 0, 0], .inBlock 0, codeC Tryz.prog 53 [1, 1, 1, 1, 1, 1]]]⟩ 59 (glitch_inverse_post r) [(0, (.int .i64 v0)), (1, (.ptr b3 0)), (2, (.ptr b1 0)), (3, (.ptr b16 0)), (5, s22), (13, (.int .i64 v13)), (14, (.int .i64 v14))] [codeC Tryz.prog 95 [1, 1, 0, 0], loopC Tryz.prog 95 [1, 1, 0, 0], .inBlock 0] M := by
  intro N
  induction N with
  | zero =>
    intro v0 v13 v14 v6_f1 c1_0 c16_0 l13 l22 sc1_0 b3 s13 b1 b16 s22 Fr M r hc1_0 hH h
    simp [glitch_inverse_3] at h
  | succ N ih =>
    intro v0 v13 v14 v6_f1 c1_0 c16_0 l13 l22 sc1_0 b3 s13 b1 b16 s22 Fr M r hc1_0 hH h
    rw [glitch_inverse_3] at h
    refine Run.seq (Run.region ?_)
    refine Run.opG wantS_none (ex_lss rfl rfl) rfl ?_
    refine Run.opsEnd (Run.seq ?_)
    rcases btf ((decide (v14 < v13))) with hc24 | hc24
    · have h := bif_t hc24 h
      refine Run.condT' rfl hc24 ?_
      refine Run.skip (Run.seq (Run.block (Run.seq (Run.region ?_))))
      refine Run.opG wantS_none (ex_move rfl) rfl ?_
      refine Run.opG wantS_none (ex_assign rfl) rfl ?_
      refine Run.opsEnd (Run.seq ?_)
      refine Run.drawG plan95_1_1_0_0_1_1_0_0_1_0 ?_
      refine DrawG.fl rfl (ev_ex wantS_none (ex_move rfl)) rfl ?_
      refine DrawG.fl rfl (ev_ex wantS_none (ex_move rfl)) rfl ?_
      obtain ⟨x25, hx25, h⟩ := bnd_some h
      obtain ⟨p25, o25, hb25, hx25, he25⟩ := vec_elem (P := Tryz.prog) (t := 22) (kk := .i64) hH (i := 4) rfl hx25 els22
      refine DrawG.fl rfl (ev_ex wantS_none (ex_elX rfl rfl hx25)) rfl ?_
      refine DrawG.fl rfl (ev_ex wantS_none (ex_load1 rfl (hH.at (enc := enc3) (a := x25) (i := 4) rfl hb25 he25 enc3_len) rdLe_rfl agg3)) rfl ?_
      refine DrawG.fl rfl (ev_ex wantS_none (ex_load1 rfl (hH.cells (i := 2) rfl 0 rfl) rdLe_rfl agg22)) rfl ?_
      refine DrawG.fl rfl (ev_ex wantS_none (ex_move rfl)) rfl ?_
      refine DrawG.fl rfl (ev_ex wantS_none (ex_move rfl)) rfl ?_
      refine DrawG.fl rfl (ev_ex wantS_none (ex_add rfl rfl)) rfl ?_
      obtain ⟨x26, hx26, h⟩ := bnd_some h
      obtain ⟨p26, o26, _, hx26, hp26, rfl⟩ := sl_elem (P := Tryz.prog) (t := 22) (kk := .i64) hc1_0 hx26 els22
      refine DrawG.fl rfl (ev_ex wantS_none (ex_elX rfl rfl hx26)) rfl ?_
      refine DrawG.fl rfl (ev_ex wantS_none (ex_load1 rfl (hH.ptrF hp26) rdLe_rfl agg3)) rfl ?_
      refine DrawG.fl rfl (ev_ex wantS_none (ex_add rfl rfl)) rfl ?_
      refine DrawG.fl rfl (ev_ex wantS_none (ex_move rfl)) rfl ?_
      refine DrawG.fl rfl (ev_ex wantS_none (ex_move rfl)) rfl ?_
      obtain ⟨x27, hx27, h⟩ := bnd_some h
      obtain ⟨p27, o27, hb27, hx27, he27⟩ := vec_elem (P := Tryz.prog) (t := 22) (kk := .i64) hH (i := 4) rfl hx27 els22
      refine DrawG.fl rfl (ev_ex wantS_none (ex_elX rfl rfl hx27)) rfl ?_
      refine DrawG.fl rfl (ev_ex wantS_none (ex_load1 rfl (hH.at (enc := enc3) (a := x27) (i := 4) rfl hb27 he27 enc3_len) rdLe_rfl agg3)) rfl ?_
      refine DrawG.fl rfl (ev_ex wantS_none (ex_load1 rfl (hH.cells (i := 2) rfl 0 rfl) rdLe_rfl agg22)) rfl ?_
      refine DrawG.fl rfl (ev_ex wantS_none (ex_move rfl)) rfl ?_
      refine DrawG.fl rfl (ev_ex wantS_none (ex_move rfl)) rfl ?_
      refine DrawG.fl rfl (ev_ex wantS_none (ex_add rfl rfl)) rfl ?_
      obtain ⟨x28, hx28, h⟩ := bnd_some h
      obtain ⟨p28, o28, _, hx28, hp28, rfl⟩ := sl_elem (P := Tryz.prog) (t := 22) (kk := .i64) hc1_0 hx28 els22
      refine DrawG.fl rfl (ev_ex wantS_none (ex_elX rfl rfl hx28)) rfl ?_
      refine DrawG.fl rfl (ev_ex wantS_none (ex_load1 rfl (hH.ptrF hp28) rdLe_rfl agg3)) rfl ?_
      refine DrawG.fl rfl (ev_ex wantS_none (ex_sub rfl rfl)) rfl ?_
      refine DrawG.fl rfl (ev_ex wantS_none (ex_assign rfl)) rfl ?_
      refine DrawG.fl rfl (ev_ex wantS_none (ex_assign rfl)) rfl ?_
      refine DrawG.sync ?_
      refine DrawG.nil ?_
      refine Run.seq (Run.region ?_)
      refine Run.opG wantS_none (ex_load1 rfl (hH.cells (i := 3) rfl 0 rfl) rdLe_rfl agg4) rfl ?_
      refine Run.opG wantS_none (ex_move rfl) rfl ?_
      rcases btf (c16_0) with hc29 | hc29
      · have h := bif_t hc29 h
        refine Run.opG (wantS_yes' rfl rfl hc29) (ex_move rfl) rfl ?_
        refine Run.opG (wantS_yes' rfl rfl hc29) (ex_rem rfl rfl (by decide)) rfl ?_
        refine Run.opG (wantS_yes' rfl rfl hc29) (ex_eql rfl rfl) rfl ?_
        refine Run.opG wantS_none (ex_pickT' rfl hc29 rfl rfl) rfl ?_
        exact Run.low (.cons (fle_pick [1, 2, 4, 5, 6] rfl) .nil) (Run.pick [0, 1, 2, 3, 5, 6, 7, 8, 13, 14, 44] (glitch_inverse_4_ok F (glitch_inverse_3 F hd2 N) ih v0 v14 (w64 (x25 + x26)) (w64 (x27 - x28)) v13 v14 ((Int.tmod (w64 (x25 + x26)) (2 : Int)) == (0 : Int)) v6_f1 c1_0 c16_0 l13 l22 sc1_0 b3 s13 b1 b16 s22 _ _ _ hc1_0 hH h))
      · have h := bif_f hc29 h
        refine Run.no (wantS_not' rfl rfl hc29) rfl ?_
        refine Run.no (wantS_not' rfl rfl hc29) rfl ?_
        refine Run.no (wantS_not' rfl rfl hc29) rfl ?_
        refine Run.opG wantS_none (ex_pickF' rfl hc29 rfl rfl) rfl ?_
        exact Run.low (.cons (fle_pick [1, 2, 4, 5, 6] rfl) .nil) (Run.pick [0, 1, 2, 3, 5, 6, 7, 8, 13, 14, 44] (glitch_inverse_4_ok F (glitch_inverse_3 F hd2 N) ih v0 v14 (w64 (x25 + x26)) (w64 (x27 - x28)) v13 v14 false v6_f1 c1_0 c16_0 l13 l22 sc1_0 b3 s13 b1 b16 s22 _ _ _ hc1_0 hH h))
    · have h := bif_f hc24 h
      refine Run.condF' rfl hc24 ?_
      refine Run.exit rfl ?_
      refine Run.fallTo Tryz.func95 rfl res_nil rfl ?_
      refine Run.opsEnd (Run.inBlock (Run.region ?_))
      refine Run.opG wantS_none (ex_move rfl) rfl ?_
      refine Run.opG wantS_none (ex_mul rfl rfl) rfl ?_
      refine Run.opG wantS_none (ex_assign rfl) rfl ?_
      refine Run.opsEnd (Run.inLoop ?_)
      exact Run.pick [1, 2, 4, 5, 6] (hhd2 (w64 (v6_f1 * (2 : Int))) c1_0 c16_0 l13 sc1_0 b1 b3 s13 b16 _ _ _ hc1_0 (hH.pick [2, 0, 1, 3] rfl rfl) h)

def glitch_inverse_5 (F : Nat) (v3 : Bool) (l13 : (List Int)) : Option ((List Int) × Bool) :=
  some (l13, v3)

theorem glitch_inverse_5_ok (F : Nat) : ∀ (v3 : Bool) (l13 : (List Int)) (b3 : Pos) (s13 : SV) (Fr : Rd) (M : Mem) (r : (List Int) × Bool) (hH : Has Fr M [.obj b3 (.row 22 .whole [s13]), .vec 3 1 l13.length s13 (l13.flatMap enc3)]), glitch_inverse_5 F v3 l13 = some r → Run Tryz.prog ⟨⟨53, [], none⟩, []⟩ 34 (glitch_inverse_post r) [(2, (.ptr b3 0)), (3, (.bool v3))] [codeC Tryz.prog 53 [1, 1, 1, 1, 1, 1, 1]] M := by
  intro v3 l13 b3 s13 Fr M r hH h
  rw [glitch_inverse_5] at h
  cases h
  exact Run.ret Tryz.func53 rfl (res_cell rfl (x_load (ex_load1 rfl (hH.cells (i := 0) rfl 0 rfl) rdLe_rfl agg22)) (res_tmp rfl res_nil)) ⟨_, rfl, (hH.pick [1] rfl rfl).upF (none_le _)⟩

def glitch_inverse_2 (F : Nat) : Nat → Int → (List Int) → Bool → (List Int) → Option ((List Int) × Bool)
  | 0, _, _, _, _ => none
  | N + 1, v6, c1_0, c16_0, l13 =>
    bif (decide (v6 < (c1_0.length : Int))) then
      bnd (sub l13 0 v6) fun l20 =>
      bnd (slices_Clone F l20) fun r21 =>
      glitch_inverse_3 F (glitch_inverse_2 F N) F v6 v6 (0 : Int) v6 c1_0 c16_0 l13 r21
    else
      bif c16_0 then
        bnd (glitch_areFrom F l13 (1048576 : Int)) fun r38 =>
        glitch_inverse_5 F r38 l13
      else
        glitch_inverse_5 F false l13

theorem glitch_inverse_2_ok (F : Nat) : ∀ (N : Nat), ∀ (v6 : Int) (c1_0 : (List Int)) (c16_0 : Bool) (l13 : (List Int)) (sc1_0 : SV) (b1 : Pos) (b3 : Pos) (s13 : SV) (b16 : Pos) (Fr : Rd) (M : Mem) (r : (List Int) × Bool) (hc1_0 : Slc Fr 1 (FlatR enc3) sc1_0 c1_0) (hH : Has Fr M [.obj b1 (.row 22 .whole [sc1_0]), .obj b3 (.row 22 .whole [s13]), .vec 3 1 l13.length s13 (l13.flatMap enc3), .obj b16 (.row 4 .whole [(.bool c16_0)])]), glitch_inverse_2 F N v6 c1_0 c16_0 l13 = some r → Run Tryz.prog ⟨⟨53, [], none⟩, []⟩ 34 (glitch_inverse_post r) [(1, (.ptr b1 0)), (2, (.ptr b3 0)), (4, (.ptr b16 0)), (5, (.fn (.func 95) [] [(.ptr b3 0), (.ptr b1 0), (.ptr b16 0)])), (6, (.int .i64 v6))] [codeC Tryz.prog 53 [1, 1, 1, 1, 1, 0, 1, 0, 0], loopC Tryz.prog 53 [1, 1, 1, 1, 1, 0, 1, 0, 0], .inBlock 0, codeC Tryz.prog 53 [1, 1, 1, 1, 1, 1]] M := by
  intro N
  induction N with
  | zero =>
    intro v6 c1_0 c16_0 l13 sc1_0 b1 b3 s13 b16 Fr M r hc1_0 hH h
    simp [glitch_inverse_2] at h
  | succ N ih =>
    intro v6 c1_0 c16_0 l13 sc1_0 b1 b3 s13 b16 Fr M r hc1_0 hH h
    rw [glitch_inverse_2] at h
    refine Run.seq (Run.seq (Run.region ?_))
    refine Run.opG wantS_none (ex_move rfl) rfl ?_
    refine Run.opG wantS_none (ex_load1 rfl (hH.cells (i := 0) rfl 0 rfl) rdLe_rfl agg22) rfl ?_
    refine Run.opG wantS_none (ex_len' rfl hc1_0 lenk22) rfl ?_
    refine Run.opG wantS_none (ex_lss rfl rfl) rfl ?_
    refine Run.opsEnd ?_
    rcases btf ((decide (v6 < (c1_0.length : Int)))) with hc19 | hc19
    · have h := bif_t hc19 h
      refine Run.condT' rfl hc19 ?_
      refine Run.skip (Run.seq (Run.block (Run.region ?_)))
      refine Run.opG wantS_none (ex_move rfl) rfl ?_
      refine Run.opG wantS_none (ex_move rfl) rfl ?_
      refine Run.enter wantS_none (ex_closure rfl rfl mkk95 cal95) Tryz.func95 rfl rfl ?_
      refine Run.seq (Run.region ?_)
      refine Run.opG wantS_none (ex_load1 rfl (hH.cells (i := 1) rfl 0 rfl) rdLe_rfl agg22) rfl ?_
      refine Run.opG wantS_none (ex_move rfl) rfl ?_
      obtain ⟨l20, hl20, h⟩ := bnd_some h
      obtain ⟨s20, hx20, hs20⟩ := sl_subH (P := Tryz.prog) (t := 22) (k0 := .i64) (hH.slc (i := 2) rfl enc3_len) hl20 slk22
      refine Run.opG wantS_none (ex_slX rfl (argO_none) (argO_some rfl) hx20) rfl ?_
      obtain ⟨r21, hr21, h⟩ := bnd_some h
      refine Run.callX wantS_none (ex_call rfl mkk92 cal92) rfl (slices_Clone_ok F l20 s20 _ _ hs20 hr21) ?_
      rintro s21_0 M23 ⟨_, rfl, hN21⟩
      have hH23 : Has Fr M23 [.vec 3 1 r21.length s21_0 (r21.flatMap enc3), .obj b1 (.row 22 .whole [sc1_0]), .obj b3 (.row 22 .whole [s13]), .vec 3 1 l13.length s13 (l13.flatMap enc3), .obj b16 (.row 4 .whole [(.bool c16_0)])] := hN21 _ _ hH
      refine Run.opG wantS_none (ex_assign rfl) rfl ?_
      refine Run.opsEnd (Run.seq (Run.region ?_))
      refine Run.opG wantS_none (ex_move rfl) rfl ?_
      refine Run.opG wantS_none (ex_move rfl) rfl ?_
      refine Run.opsEnd (Run.block (Run.loop ?_))
      exact Run.low (.cons (fle_pick [1, 2, 4, 5, 6] rfl) .nil) (Run.pick [0, 1, 2, 3, 5, 13, 14] (glitch_inverse_3_ok F (glitch_inverse_2 F N) ih F v6 v6 (0 : Int) v6 c1_0 c16_0 l13 r21 sc1_0 b3 s13 b1 b16 s21_0 _ _ _ hc1_0 (hH23.pick [2, 3, 1, 4, 0] rfl rfl) h))
    · have h := bif_f hc19 h
      refine Run.condF' rfl hc19 ?_
      refine Run.exit rfl (Run.seq ?_)
      refine Run.drawG plan53_1_1_1_1_1_1_0 ?_
      refine DrawG.fl rfl (ev_ex wantS_none (ex_load1 rfl (hH.cells (i := 1) rfl 0 rfl) rdLe_rfl agg22)) rfl ?_
      refine DrawG.fl rfl (ev_ex wantS_none (ex_load1 rfl (hH.cells (i := 3) rfl 0 rfl) rdLe_rfl agg4)) rfl ?_
      refine DrawG.fl rfl (ev_ex wantS_none (ex_move rfl)) rfl ?_
      rcases btf (c16_0) with hc37 | hc37
      · have h := bif_t hc37 h
        refine DrawG.fl rfl (ev_ex (wantS_yes' rfl rfl hc37) (ex_load1 rfl (hH.cells (i := 1) rfl 0 rfl) rdLe_rfl agg22)) rfl ?_
        obtain ⟨r38, hr38, h⟩ := bnd_some h
        refine DrawG.callP rfl (wantS_yes' rfl rfl hc37) (ex_call rfl mkk91 cal91) rfl (glitch_areFrom_ok F l13 (1048576 : Int) s13 _ _ (hH.slc (i := 2) rfl enc3_len) hr38) (st_cons rfl (ev_ex wantS_none (ex_load1 rfl (hH.cells (i := 1) rfl 0 rfl) rdLe_rfl agg22)) rfl rfl (blk_self hH (i := 2) rfl) st_nil) ?_
        refine DrawG.fl rfl (ev_ex wantS_none (ex_pickT' rfl hc37 rfl rfl)) rfl ?_
        refine DrawG.opX rfl wantS_none rfl (ExG.storeC (c' := [s13]) rfl rfl (cells_one (vec_one hH (i := 2) rfl)) hH (i := 1) rfl sz22 rfl rfl rfl (ones_cons (vec_one hH (i := 2) rfl) ones_nil) rfl) ?_
        rintro _ M40 ⟨rfl, (hH40 : Has Fr M40 [.obj b1 (.row 22 .whole [sc1_0]), .obj b3 (.row 22 .whole [s13]), .vec 3 1 l13.length s13 (l13.flatMap enc3), .obj b16 (.row 4 .whole [(.bool c16_0)])])⟩
        refine ⟨(st_cons rfl (ev_ex wantS_none (ex_pickT' rfl hc37 rfl rfl)) rfl rfl rfl st_nil), ?_⟩
        refine DrawG.fl rfl (ev_ex wantS_none (ex_assign rfl)) rfl ?_
        refine DrawG.sync ?_
        refine DrawG.nil ?_
        exact Run.pick [2, 3] (glitch_inverse_5_ok F r38 l13 b3 s13 _ _ _ (hH40.pick [1, 2] rfl rfl) h)
      · have h := bif_f hc37 h
        refine DrawG.fl rfl (ev_no (wantS_not' rfl rfl hc37)) rfl ?_
        refine DrawG.no rfl (wantS_not' rfl rfl hc37) rfl (st_cons rfl (ev_ex wantS_none (ex_load1 rfl (hH.cells (i := 1) rfl 0 rfl) rdLe_rfl agg22)) rfl rfl (blk_self hH (i := 2) rfl) st_nil) ?_
        refine DrawG.fl rfl (ev_ex wantS_none (ex_pickF' rfl hc37 rfl rfl)) rfl ?_
        refine DrawG.opX rfl wantS_none rfl (ExG.storeC (c' := [s13]) rfl rfl (cells_one (vec_one hH (i := 2) rfl)) hH (i := 1) rfl sz22 rfl rfl rfl (ones_cons (vec_one hH (i := 2) rfl) ones_nil) rfl) ?_
        rintro _ M41 ⟨rfl, (hH41 : Has Fr M41 [.obj b1 (.row 22 .whole [sc1_0]), .obj b3 (.row 22 .whole [s13]), .vec 3 1 l13.length s13 (l13.flatMap enc3), .obj b16 (.row 4 .whole [(.bool c16_0)])])⟩
        refine ⟨(st_cons rfl (ev_ex wantS_none (ex_pickF' rfl hc37 rfl rfl)) rfl rfl rfl st_nil), ?_⟩
        refine DrawG.fl rfl (ev_ex wantS_none (ex_assign rfl)) rfl ?_
        refine DrawG.sync ?_
        refine DrawG.nil ?_
        exact Run.pick [2, 3] (glitch_inverse_5_ok F false l13 b3 s13 _ _ _ (hH41.pick [1, 2] rfl rfl) h)

def glitch_inverse_1 (F : Nat) (v15 : Bool) (c1_0 : (List Int)) : Option ((List Int) × Bool) :=
  bif v15 then
    some (([] : List Int), false)
  else
    bnd (slices_Clone F c1_0) fun r12 =>
    glitch_inverse_2 F F (1 : Int) c1_0 true r12

theorem glitch_inverse_1_ok (F : Nat) : ∀ (v15 : Bool) (c1_0 : (List Int)) (sc1_0 : SV) (b1 : Pos) (b3 : Pos) (Fr : Rd) (M : Mem) (r : (List Int) × Bool) (hc1_0 : Slc Fr 1 (FlatR enc3) sc1_0 c1_0) (hH : Has Fr M [.obj b1 (.row 22 .whole [sc1_0]), .obj b3 (.row 22 .whole [.nils])]), glitch_inverse_1 F v15 c1_0 = some r → Run Tryz.prog ⟨⟨53, [], none⟩, []⟩ 34 (glitch_inverse_post r) [(1, (.ptr b1 0)), (2, (.ptr b3 0)), (15, (.bool v15))] [codeC Tryz.prog 53 [1, 0, 1], codeC Tryz.prog 53 [1, 1]] M := by
  intro v15 c1_0 sc1_0 b1 b3 Fr M r hc1_0 hH h
  rw [glitch_inverse_1] at h
  rcases btf (v15) with hc8 | hc8
  · have h := bif_t hc8 h
    refine Run.condT' rfl hc8 ?_
    refine Run.seq (Run.region ?_)
    refine Run.opX wantS_none rfl (ExG.storeC (c' := [.nils]) rfl rfl rfl hH (i := 1) rfl sz22 rfl rfl rfl rfl rfl) ?_
    rintro _ M9 ⟨rfl, (hH9 : Has Fr M9 [.obj b1 (.row 22 .whole [sc1_0]), .obj b3 (.row 22 .whole [.nils])])⟩
    refine Run.opG wantS_none (ex_assign rfl) rfl ?_
    refine Run.opsEnd ?_
    have hH11 : Has Fr M9 [.vec 3 1 ([] : List Int).length .nils (([] : List Int).flatMap enc3), .obj b1 (.row 22 .whole [sc1_0]), .obj b3 (.row 22 .whole [.nils])] := hH9.nils 3 1
    cases h
    exact Run.ret Tryz.func53 rfl (res_cell rfl (x_load (ex_load1 rfl (hH9.cells (i := 1) rfl 0 rfl) rdLe_rfl agg22)) (res_tmp rfl res_nil)) ⟨_, rfl, (hH11.pick [0] rfl rfl).upF (none_le _)⟩
  · have h := bif_f hc8 h
    refine Run.condF' rfl hc8 ?_
    refine Run.skip (Run.seq (Run.region ?_))
    refine Run.opG wantS_none (ex_load1 rfl (hH.cells (i := 0) rfl 0 rfl) rdLe_rfl agg22) rfl ?_
    obtain ⟨r12, hr12, h⟩ := bnd_some h
    refine Run.callX wantS_none (ex_call rfl mkk92 cal92) rfl (slices_Clone_ok F c1_0 sc1_0 _ _ (hH.slcF hc1_0) hr12) ?_
    rintro s12_0 M14 ⟨_, rfl, hN12⟩
    have hH14 : Has Fr M14 [.vec 3 1 r12.length s12_0 (r12.flatMap enc3), .obj b1 (.row 22 .whole [sc1_0]), .obj b3 (.row 22 .whole [.nils])] := hN12 _ _ hH
    refine Run.opX wantS_none rfl (ExG.storeC (c' := [s12_0]) rfl rfl (cells_one (vec_one hH14 (i := 0) rfl)) hH14 (i := 2) rfl sz22 rfl rfl rfl (ones_cons (vec_one hH14 (i := 0) rfl) ones_nil) rfl) ?_
    rintro _ M15 ⟨rfl, (hH15 : Has Fr M15 [.vec 3 1 r12.length s12_0 (r12.flatMap enc3), .obj b1 (.row 22 .whole [sc1_0]), .obj b3 (.row 22 .whole [s12_0])])⟩
    refine Run.opsEnd (Run.seq (Run.region ?_))
    refine Run.opX wantS_none rfl (ExG.new (v := fun b => .ptr b 0) (ex_alloc zer4) hH15) ?_
    rintro _ M17 ⟨b16, rfl, (hH17 : Has Fr M17 [.obj b16 (.row 4 .whole [(.bool false)]), .vec 3 1 r12.length s12_0 (r12.flatMap enc3), .obj b1 (.row 22 .whole [sc1_0]), .obj b3 (.row 22 .whole [s12_0])])⟩
    refine Run.opX wantS_none rfl (ExG.storeC (c' := [(.bool true)]) rfl rfl rfl hH17 (i := 0) rfl sz4 rfl rfl rfl rfl rfl) ?_
    rintro _ M18 ⟨rfl, (hH18 : Has Fr M18 [.obj b16 (.row 4 .whole [(.bool true)]), .vec 3 1 r12.length s12_0 (r12.flatMap enc3), .obj b1 (.row 22 .whole [sc1_0]), .obj b3 (.row 22 .whole [s12_0])])⟩
    refine Run.opsEnd (Run.seq (Run.region ?_))
    refine Run.opG wantS_none (ex_makeFunc rfl rfl) rfl ?_
    refine Run.opG wantS_none (ex_assign rfl) rfl ?_
    refine Run.opsEnd (Run.seq (Run.seq (Run.region ?_)))
    refine Run.opG wantS_none (ex_assign rfl) rfl ?_
    refine Run.opsEnd (Run.block (Run.loop ?_))
    exact Run.pick [1, 2, 4, 5, 6] (glitch_inverse_2_ok F F (1 : Int) c1_0 true r12 sc1_0 b1 b3 s12_0 b16 _ _ _ hc1_0 (hH18.pick [2, 3, 1, 0] rfl rfl) h)

def glitch_inverse (F : Nat) (a0 : (List Int)) : Option ((List Int) × Bool) :=
  bnd (glitch_isLength F (a0.length : Int)) fun r5 =>
  bif (!r5) then
    glitch_inverse_1 F true a0
  else
    bnd (glitch_areFrom F a0 (1073741824 : Int)) fun r42 =>
    glitch_inverse_1 F (!r42) a0

theorem glitch_inverse_ok (F : Nat) (a0 : (List Int)) (s0 : SV) (r : (List Int) × Bool) (M : Mem) (hs0 : Slc (rd M) 1 (FlatR enc3) s0 a0) (h : glitch_inverse F a0 = some r) : CallsM Tryz.prog 53 [s0] M (fun s M' => ∃ q1, s = (.tuple [q1, (.bool r.2)]) ∧ New M M' [.vec 3 1 r.1.length q1 (r.1.flatMap enc3)]) := by
  refine CallsM.fresh (Q := glitch_inverse_post r) Tryz.func53 rfl rfl ?_ (by rintro s Me ⟨q1, rfl, hx⟩ ha hw; exact ⟨_, rfl, New.of rfl hx ha hw⟩)
  rw [glitch_inverse] at h
  replace hs0 := hs0.mono (rdLe_frozen M) (fun _ _ h => h)
  have hH := Has.nil (frozen M)
  refine Run.seq (Run.region ?_)
  refine Run.opX wantS_none rfl (ExG.box rfl (cells_one (slc_one hs0)) hH) ?_
  rintro _ M2 ⟨b1, rfl, (hH2 : Has (ro (frozen M)) M2 [.obj b1 (.row 22 .whole [s0])])⟩
  refine Run.opX wantS_none rfl (ExG.new (v := fun b => .ptr b 0) (ex_alloc zer22) hH2) ?_
  rintro _ M4 ⟨b3, rfl, (hH4 : Has (ro (frozen M)) M4 [.obj b3 (.row 22 .whole [.nils]), .obj b1 (.row 22 .whole [s0])])⟩
  refine Run.opG wantS_none (ex_assign rfl) rfl ?_
  refine Run.opsEnd (Run.seq (Run.seq (Run.region ?_)))
  refine Run.opG wantS_none (ex_load1 rfl (hH4.cells (i := 1) rfl 0 rfl) rdLe_rfl agg22) rfl ?_
  refine Run.opG wantS_none (ex_len' rfl hs0 lenk22) rfl ?_
  obtain ⟨r5, hr5, h⟩ := bnd_some h
  refine Run.callP wantS_none (ex_call rfl mkk90 cal90) rfl (glitch_isLength_ok F (a0.length : Int) _ _ hr5) ?_
  refine Run.opG wantS_none (ex_not rfl) rfl ?_
  refine Run.opG wantS_none (ex_move rfl) rfl ?_
  rcases btf ((!r5)) with hc7 | hc7
  · have h := bif_t hc7 h
    refine Run.no (wantS_not' rfl rfl hc7) rfl ?_
    refine Run.no (wantS_not' rfl rfl hc7) rfl ?_
    refine Run.no (wantS_not' rfl rfl hc7) rfl ?_
    refine Run.opG wantS_none (ex_pickT' rfl hc7 rfl rfl) rfl ?_
    refine Run.opsEnd ?_
    exact Run.pick [1, 2, 15] (glitch_inverse_1_ok F true a0 s0 b1 b3 _ _ _ hs0 (hH4.pick [1, 0] rfl rfl) h)
  · have h := bif_f hc7 h
    refine Run.opG (wantS_yes' rfl rfl hc7) (ex_load1 rfl (hH4.cells (i := 1) rfl 0 rfl) rdLe_rfl agg22) rfl ?_
    obtain ⟨r42, hr42, h⟩ := bnd_some h
    refine Run.callP (wantS_yes' rfl rfl hc7) (ex_call rfl mkk91 cal91) rfl (glitch_areFrom_ok F a0 (1073741824 : Int) s0 _ _ (hH4.slcF hs0) hr42) ?_
    refine Run.opG (wantS_yes' rfl rfl hc7) (ex_not rfl) rfl ?_
    refine Run.opG wantS_none (ex_pickF' rfl hc7 rfl rfl) rfl ?_
    refine Run.opsEnd ?_
    exact Run.pick [1, 2, 15] (glitch_inverse_1_ok F (!r42) a0 s0 b1 b3 _ _ _ hs0 (hH4.pick [1, 0] rfl rfl) h)

theorem mkk53 : makeK Tryz.prog 53 = none := by kernel_rfl
theorem cal53 : callable Tryz.prog 53 = true := by kernel_rfl
abbrev glitch_Inverse_post (r : (List Int) × Int) : SV → Mem → Prop := fun s Me => ∃ q1, s = (.tuple [q1, (.int .i64 r.2)]) ∧ Has (fun _ => none) Me [.vec 3 1 r.1.length q1 (r.1.flatMap enc3)]

def glitch_Inverse (F : Nat) (a0 : (List Int)) : Option ((List Int) × Int) :=
  bnd (glitch_inverse F a0) fun r1 =>
  bif (!r1.2) then
    some (([] : List Int), (61 : Int))
  else
    some (r1.1, (0 : Int))

theorem glitch_Inverse_ok (F : Nat) (a0 : (List Int)) (s0 : SV) (r : (List Int) × Int) (M : Mem) (hs0 : Slc (rd M) 1 (FlatR enc3) s0 a0) (h : glitch_Inverse F a0 = some r) : CallsM Tryz.prog 20 [s0] M (fun s M' => ∃ q1, s = (.tuple [q1, (.int .i64 r.2)]) ∧ New M M' [.vec 3 1 r.1.length q1 (r.1.flatMap enc3)]) := by
  refine CallsM.fresh (Q := glitch_Inverse_post r) Tryz.func20 rfl rfl ?_ (by rintro s Me ⟨q1, rfl, hx⟩ ha hw; exact ⟨_, rfl, New.of rfl hx ha hw⟩)
  rw [glitch_Inverse] at h
  replace hs0 := hs0.mono (rdLe_frozen M) (fun _ _ h => h)
  have hH := Has.nil (frozen M)
  refine Run.seq (Run.region ?_)
  refine Run.opG wantS_none (ex_assign rfl) rfl ?_
  refine Run.opG wantS_none (ex_assign rfl) rfl ?_
  refine Run.opsEnd (Run.seq (Run.region ?_))
  refine Run.opG wantS_none (ex_move rfl) rfl ?_
  obtain ⟨r1, hr1, h⟩ := bnd_some h
  refine Run.callX wantS_none (ex_call rfl mkk53 cal53) rfl (glitch_inverse_ok F a0 s0 _ _ (hH.slcF hs0) hr1) ?_
  rintro _ M3 ⟨s1_0, rfl, hN1⟩
  have hH3 : Has (ro (frozen M)) M3 [.vec 3 1 r1.1.length s1_0 (r1.1.flatMap enc3)] := hN1 _ _ hH
  refine Run.opG wantS_none (ex_move rfl) rfl ?_
  refine Run.opG wantS_none (ex_extract rfl rfl) rfl ?_
  refine Run.opG wantS_none (ex_extract rfl rfl) rfl ?_
  refine Run.opG wantS_none (ex_assign rfl) rfl ?_
  refine Run.opG wantS_none (ex_assign rfl) rfl ?_
  refine Run.opsEnd (Run.seq (Run.seq (Run.region ?_)))
  refine Run.opG wantS_none (ex_move rfl) rfl ?_
  refine Run.opG wantS_none (ex_not rfl) rfl ?_
  refine Run.opsEnd ?_
  rcases btf ((!r1.2)) with hc4 | hc4
  · have h := bif_t hc4 h
    refine Run.condT' rfl hc4 ?_
    refine Run.seq (Run.region ?_)
    refine Run.opG wantS_none (ex_assign rfl) rfl ?_
    refine Run.opG wantS_none (ex_assign rfl) rfl ?_
    refine Run.opsEnd ?_
    have hH6 : Has (ro (frozen M)) M3 [.vec 3 1 ([] : List Int).length .nils (([] : List Int).flatMap enc3), .vec 3 1 r1.1.length s1_0 (r1.1.flatMap enc3)] := hH3.nils 3 1
    cases h
    exact Run.ret Tryz.func20 rfl (res_tmp rfl (res_tmp rfl res_nil)) ⟨_, rfl, (hH6.pick [0] rfl rfl).upF (none_le _)⟩
  · have h := bif_f hc4 h
    refine Run.condF' rfl hc4 ?_
    refine Run.skip (Run.seq (Run.region ?_))
    refine Run.opG wantS_none (ex_move rfl) rfl ?_
    refine Run.opG wantS_none (ex_assign rfl) rfl ?_
    refine Run.opG wantS_none (ex_assign rfl) rfl ?_
    refine Run.opsEnd ?_
    cases h
    exact Run.ret Tryz.func20 rfl (res_tmp rfl (res_tmp rfl res_nil)) ⟨_, rfl, (hH3.pick [0] rfl rfl).upF (none_le _)⟩

theorem mkk20 : makeK Tryz.prog 20 = none := by kernel_rfl
theorem cal20 : callable Tryz.prog 20 = true := by kernel_rfl
theorem mkk54 : makeK Tryz.prog 54 = none := by kernel_rfl
theorem cal54 : callable Tryz.prog 54 = true := by kernel_rfl
abbrev ref00_Mod_post (r : Int) : SV → Mem → Prop := fun s _ => s = (.int .i64 r)

def ref00_Mod_1 (F : Nat) (v0 : Int) : Option (Int) :=
  some v0

theorem ref00_Mod_1_ok (F : Nat) : ∀ (v0 : Int) (Fr : Rd) (M : Mem) (r : Int) (hH : Has Fr M []), ref00_Mod_1 F v0 = some r → Run Tryz.prog ⟨⟨45, [], none⟩, []⟩ 16 (ref00_Mod_post r) [(0, (.int .i64 v0))] [itemC Tryz.prog 45 [1, 1, 1, 1, 0] 0, codeC Tryz.prog 45 [1, 1, 1, 1, 1]] M := by
  intro v0 Fr M r hH h
  rw [ref00_Mod_1] at h
  refine Run.opG wantS_none (ex_move rfl) rfl ?_
  refine Run.opG wantS_none (ex_assign rfl) rfl ?_
  refine Run.opsEnd ?_
  cases h
  exact Run.ret Tryz.func45 rfl (res_tmp rfl res_nil) rfl

def ref00_Mod (F : Nat) (a0 : Int) (a1 : Int) : Option (Int) :=
  bif (decide (a1 < (1 : Int))) then
    some (0 : Int)
  else
    bnd (nz a1) fun z2 =>
    bif (decide ((Int.tmod a0 a1) < (0 : Int))) then
      ref00_Mod_1 F (w64 ((Int.tmod a0 a1) + a1))
    else
      ref00_Mod_1 F (Int.tmod a0 a1)

theorem ref00_Mod_ok (F : Nat) (a0 : Int) (a1 : Int) (r : Int) (M : Mem) (h : ref00_Mod F a0 a1 = some r) : CallsM Tryz.prog 45 [(.int .i64 a0), (.int .i64 a1)] M (fun s M' => s = (.int .i64 r) ∧ M' = M) := by
  refine CallsM.plain Tryz.func45 rfl rfl rfl (show Run _ _ _ (ref00_Mod_post r) _ _ _ from ?_)
  rw [ref00_Mod] at h
  have hH := Has.nil (frozen M)
  refine Run.seq (Run.region ?_)
  refine Run.opG wantS_none (ex_assign rfl) rfl ?_
  refine Run.opsEnd (Run.seq (Run.seq (Run.region ?_)))
  refine Run.opG wantS_none (ex_move rfl) rfl ?_
  refine Run.opG wantS_none (ex_lss rfl rfl) rfl ?_
  refine Run.opsEnd ?_
  rcases btf ((decide (a1 < (1 : Int)))) with hc1 | hc1
  · have h := bif_t hc1 h
    refine Run.condT' rfl hc1 ?_
    refine Run.seq (Run.region ?_)
    refine Run.opG wantS_none (ex_assign rfl) rfl ?_
    refine Run.opsEnd ?_
    cases h
    exact Run.ret Tryz.func45 rfl (res_tmp rfl res_nil) rfl
  · have h := bif_f hc1 h
    refine Run.condF' rfl hc1 ?_
    refine Run.skip (Run.seq (Run.region ?_))
    refine Run.opG wantS_none (ex_move rfl) rfl ?_
    refine Run.opG wantS_none (ex_move rfl) rfl ?_
    obtain ⟨z2, hz2, h⟩ := bnd_some h
    refine Run.opG wantS_none (ex_rem' rfl rfl hz2) rfl ?_
    refine Run.opG wantS_none (ex_assign rfl) rfl ?_
    refine Run.opsEnd (Run.seq (Run.seq (Run.region ?_)))
    refine Run.opG wantS_none (ex_move rfl) rfl ?_
    refine Run.opG wantS_none (ex_lss rfl rfl) rfl ?_
    refine Run.opsEnd ?_
    rcases btf ((decide ((Int.tmod a0 a1) < (0 : Int)))) with hc3 | hc3
    · have h := bif_t hc3 h
      refine Run.condT' rfl hc3 ?_
      refine Run.region ?_
      refine Run.opG wantS_none (ex_move rfl) rfl ?_
      refine Run.opG wantS_none (ex_move rfl) rfl ?_
      refine Run.opG wantS_none (ex_add rfl rfl) rfl ?_
      refine Run.opG wantS_none (ex_assign rfl) rfl ?_
      refine Run.opsEnd (Run.seq (Run.region ?_))
      exact Run.pick [0] (ref00_Mod_1_ok F (w64 ((Int.tmod a0 a1) + a1)) _ _ _ hH h)
    · have h := bif_f hc3 h
      refine Run.condF' rfl hc3 ?_
      refine Run.skip (Run.seq (Run.region ?_))
      exact Run.pick [0] (ref00_Mod_1_ok F (Int.tmod a0 a1) _ _ _ hH h)

theorem mkk45 : makeK Tryz.prog 45 = none := by kernel_rfl
theorem cal45 : callable Tryz.prog 45 = true := by kernel_rfl
theorem plan54_1_1_1_1_1_1_0_1_0_0_1_0_0_1_1 : planOf Tryz.prog (opsC (atC Tryz.prog 54 [1, 1, 1, 1, 1, 1, 0, 1, 0, 0, 1, 0, 0, 1, 1])) = some [.fl 0, .fl 1, .fl 2, .fl 3, .fl 4, .fl 5, .fl 6, .fl 7, .fl 8, .fl 9, .fl 10, .fl 11, .fl 12, .fl 13, .fl 14, .an 15 [0], .an 16 [], .an 17 [], .sync] := by kernel_rfl
abbrev ref06_inverse_c_post (r : (List Int) × Bool) : SV → Mem → Prop := fun s Me => ∃ q1, s = (.tuple [q1, (.bool r.2)]) ∧ Has (fun _ => none) Me [.vec 3 1 r.1.length q1 (r.1.flatMap enc3)]

def ref06_inverse_c_1 (F : Nat) : Nat → (List Int) → Int → Int → (List Int) → (List Int) → Option ((List Int) × Bool)
  | 0, _, _, _, _, _ => none
  | N + 1, v0, v4, v8, l7, l12 =>
    bif (decide (v8 < v4)) then
      bnd (idx v0 (w64 (v4 + v8))) fun x15 =>
      bnd (idx l7 v8) fun x16 =>
      bnd (ref00_Mod F (w64 (x16 + x15)) (2 : Int)) fun r17 =>
      bif (!(r17 == (0 : Int))) then
        some (([] : List Int), false)
      else
        bnd (idx l7 v8) fun x22 =>
        bnd (idx l7 v8) fun x23 =>
        bnd (apd 8 l12 ([(w64 (Int.tdiv (w64 (x22 + x15)) (2 : Int))), (w64 (Int.tdiv (w64 (x23 - x15)) (2 : Int)))] : List Int)) fun l26 =>
        (ref06_inverse_c_1 F N) v0 v4 (w64 (v8 + (1 : Int))) l7 l26
    else
      some (l12, true)

theorem ref06_inverse_c_1_ok (F : Nat) : ∀ (N : Nat), ∀ (v0 : (List Int)) (v4 : Int) (v8 : Int) (l7 : (List Int)) (l12 : (List Int)) (sv0 : SV) (s7 : SV) (s12 : SV) (Fr : Rd) (M : Mem) (r : (List Int) × Bool) (hv0 : Slc Fr 1 (FlatR enc3) sv0 v0) (kv0 : clo sv0 = true) (hH : Has Fr M [.vec 3 1 l7.length s7 (l7.flatMap enc3), .vec 3 1 l12.length s12 (l12.flatMap enc3)]), ref06_inverse_c_1 F N v0 v4 v8 l7 l12 = some r → Run Tryz.prog ⟨⟨54, [], none⟩, []⟩ 64 (ref06_inverse_c_post r) [(0, sv0), (4, (.int .i64 v4)), (5, s7), (7, s12), (8, (.int .i64 v8))] [codeC Tryz.prog 54 [1, 1, 1, 1, 1, 1, 0, 1, 0, 0], loopC Tryz.prog 54 [1, 1, 1, 1, 1, 1, 0, 1, 0, 0], .inBlock 0, codeC Tryz.prog 54 [1, 1, 1, 1, 1, 1, 1]] M := by
  intro N
  induction N with
  | zero =>
    intro v0 v4 v8 l7 l12 sv0 s7 s12 Fr M r hv0 kv0 hH h
    simp [ref06_inverse_c_1] at h
  | succ N ih =>
    intro v0 v4 v8 l7 l12 sv0 s7 s12 Fr M r hv0 kv0 hH h
    rw [ref06_inverse_c_1] at h
    refine Run.seq (Run.seq (Run.region ?_))
    refine Run.opG wantS_none (ex_move rfl) rfl ?_
    refine Run.opG wantS_none (ex_move rfl) rfl ?_
    refine Run.opG wantS_none (ex_lss rfl rfl) rfl ?_
    refine Run.opsEnd ?_
    rcases btf ((decide (v8 < v4))) with hc14 | hc14
    · have h := bif_t hc14 h
      refine Run.condT' rfl hc14 ?_
      refine Run.skip (Run.seq (Run.block (Run.seq (Run.region ?_))))
      refine Run.opG wantS_none (ex_move rfl) rfl ?_
      refine Run.opG wantS_none (ex_move rfl) rfl ?_
      refine Run.opG wantS_none (ex_move rfl) rfl ?_
      refine Run.opG wantS_none (ex_add rfl rfl) rfl ?_
      obtain ⟨x15, hx15, h⟩ := bnd_some h
      obtain ⟨p15, o15, _, hx15, hp15, rfl⟩ := sl_elem (P := Tryz.prog) (t := 22) (kk := .i64) hv0 hx15 els22
      refine Run.opG wantS_none (ex_elX rfl rfl hx15) rfl ?_
      refine Run.opG wantS_none (ex_load1 rfl (hH.ptrF hp15) rdLe_rfl agg3) rfl ?_
      refine Run.opG wantS_none (ex_assign rfl) rfl ?_
      refine Run.opsEnd (Run.seq (Run.seq (Run.region ?_)))
      refine Run.opG wantS_none (ex_move rfl) rfl ?_
      refine Run.opG wantS_none (ex_move rfl) rfl ?_
      obtain ⟨x16, hx16, h⟩ := bnd_some h
      obtain ⟨p16, o16, hb16, hx16, he16⟩ := vec_elem (P := Tryz.prog) (t := 22) (kk := .i64) hH (i := 0) rfl hx16 els22
      refine Run.opG wantS_none (ex_elX rfl rfl hx16) rfl ?_
      refine Run.opG wantS_none (ex_load1 rfl (hH.at (enc := enc3) (a := x16) (i := 0) rfl hb16 he16 enc3_len) rdLe_rfl agg3) rfl ?_
      refine Run.opG wantS_none (ex_move rfl) rfl ?_
      refine Run.opG wantS_none (ex_add rfl rfl) rfl ?_
      obtain ⟨r17, hr17, h⟩ := bnd_some h
      refine Run.callP wantS_none (ex_call rfl mkk45 cal45) rfl (ref00_Mod_ok F (w64 (x16 + x15)) (2 : Int) _ _ hr17) ?_
      refine Run.opG wantS_none (ex_neq rfl rfl) rfl ?_
      refine Run.opsEnd ?_
      rcases btf ((!(r17 == (0 : Int)))) with hc19 | hc19
      · have h := bif_t hc19 h
        refine Run.condT' rfl hc19 ?_
        refine Run.seq (Run.region ?_)
        refine Run.opG wantS_none (ex_assign rfl) rfl ?_
        refine Run.opG wantS_none (ex_assign rfl) rfl ?_
        refine Run.opsEnd ?_
        have hH21 : Has Fr M [.vec 3 1 ([] : List Int).length .nils (([] : List Int).flatMap enc3), .vec 3 1 l7.length s7 (l7.flatMap enc3), .vec 3 1 l12.length s12 (l12.flatMap enc3)] := hH.nils 3 1
        cases h
        exact Run.ret Tryz.func54 rfl (res_tmp rfl (res_tmp rfl res_nil)) ⟨_, rfl, (hH21.pick [0] rfl rfl).upF (none_le _)⟩
      · have h := bif_f hc19 h
        refine Run.condF' rfl hc19 ?_
        refine Run.skip ?_
        refine Run.drawG plan54_1_1_1_1_1_1_0_1_0_0_1_0_0_1_1 ?_
        refine DrawG.fl rfl (ev_ex wantS_none (ex_move rfl)) rfl ?_
        refine DrawG.fl rfl (ev_ex wantS_none (ex_move rfl)) rfl ?_
        refine DrawG.fl rfl (ev_ex wantS_none (ex_move rfl)) rfl ?_
        obtain ⟨x22, hx22, h⟩ := bnd_some h
        obtain ⟨p22, o22, hb22, hx22, he22⟩ := vec_elem (P := Tryz.prog) (t := 22) (kk := .i64) hH (i := 0) rfl hx22 els22
        refine DrawG.fl rfl (ev_ex wantS_none (ex_elX rfl rfl hx22)) rfl ?_
        refine DrawG.fl rfl (ev_ex wantS_none (ex_load1 rfl (hH.at (enc := enc3) (a := x22) (i := 0) rfl hb22 he22 enc3_len) rdLe_rfl agg3)) rfl ?_
        refine DrawG.fl rfl (ev_ex wantS_none (ex_move rfl)) rfl ?_
        refine DrawG.fl rfl (ev_ex wantS_none (ex_add rfl rfl)) rfl ?_
        refine DrawG.fl rfl (ev_ex wantS_none (ex_quo rfl rfl (by decide))) rfl ?_
        refine DrawG.fl rfl (ev_ex wantS_none (ex_move rfl)) rfl ?_
        refine DrawG.fl rfl (ev_ex wantS_none (ex_move rfl)) rfl ?_
        obtain ⟨x23, hx23, h⟩ := bnd_some h
        obtain ⟨p23, o23, hb23, hx23, he23⟩ := vec_elem (P := Tryz.prog) (t := 22) (kk := .i64) hH (i := 0) rfl hx23 els22
        refine DrawG.fl rfl (ev_ex wantS_none (ex_elX rfl rfl hx23)) rfl ?_
        refine DrawG.fl rfl (ev_ex wantS_none (ex_load1 rfl (hH.at (enc := enc3) (a := x23) (i := 0) rfl hb23 he23 enc3_len) rdLe_rfl agg3)) rfl ?_
        refine DrawG.fl rfl (ev_ex wantS_none (ex_move rfl)) rfl ?_
        refine DrawG.fl rfl (ev_ex wantS_none (ex_sub rfl rfl)) rfl ?_
        refine DrawG.fl rfl (ev_ex wantS_none (ex_quo rfl rfl (by decide))) rfl ?_
        refine DrawG.opX rfl wantS_none rfl (ExG.built (enc := enc3) (l := ([(w64 (Int.tdiv (w64 (x22 + x15)) (2 : Int))), (w64 (Int.tdiv (w64 (x23 - x15)) (2 : Int)))] : List Int)) (z := 1) rfl elt22 rfl rfl rfl enc3_len hH) ?_
        rintro s24 M25 (hH25 : Has Fr M25 [.vec 3 1 ([(w64 (Int.tdiv (w64 (x22 + x15)) (2 : Int))), (w64 (Int.tdiv (w64 (x23 - x15)) (2 : Int)))] : List Int).length s24 (([(w64 (Int.tdiv (w64 (x22 + x15)) (2 : Int))), (w64 (Int.tdiv (w64 (x23 - x15)) (2 : Int)))] : List Int).flatMap enc3), .vec 3 1 l7.length s7 (l7.flatMap enc3), .vec 3 1 l12.length s12 (l12.flatMap enc3)])
        refine ⟨(st_cons rfl (ev_ex wantS_none (ex_move rfl)) rfl rfl (blk_self hH25 (i := 2) rfl) st_nil), ?_⟩
        obtain ⟨l26, hl26, h⟩ := bnd_some h
        refine DrawG.opX rfl wantS_none rfl (ExG.append rfl rfl hH25 (i := 2) rfl enc3_len rfl enc3_ones appt22_22 rfl (len_slc (hH25.slc (i := 0) rfl enc3_len)) (first_slc (hH25.slc (i := 0) rfl enc3_len) (rdLe_rdRow _) enc3_len) hl26) ?_
        rintro s26 M28 (hH28 : Has Fr M28 [.vec 3 1 ([(w64 (Int.tdiv (w64 (x22 + x15)) (2 : Int))), (w64 (Int.tdiv (w64 (x23 - x15)) (2 : Int)))] : List Int).length s24 (([(w64 (Int.tdiv (w64 (x22 + x15)) (2 : Int))), (w64 (Int.tdiv (w64 (x23 - x15)) (2 : Int)))] : List Int).flatMap enc3), .vec 3 1 l7.length s7 (l7.flatMap enc3), .vec 3 1 l26.length s26 (l26.flatMap enc3)])
        refine ⟨st_nil, ?_⟩
        refine DrawG.val rfl wantS_none (ex_assign rfl) rfl st_nil ?_
        refine DrawG.sync ?_
        refine DrawG.nil ?_
        refine Run.inBlock (Run.region ?_)
        refine Run.opG wantS_none (ex_move rfl) rfl ?_
        refine Run.opG wantS_none (ex_add rfl rfl) rfl ?_
        refine Run.opG wantS_none (ex_assign rfl) rfl ?_
        refine Run.opsEnd (Run.inLoop ?_)
        exact Run.pick [0, 4, 5, 7, 8] (ih v0 v4 (w64 (v8 + (1 : Int))) l7 l26 sv0 s7 s26 _ _ _ hv0 kv0 (hH28.pick [1, 2] rfl rfl) h)
    · have h := bif_f hc14 h
      refine Run.condF' rfl hc14 ?_
      refine Run.exit rfl (Run.seq (Run.region ?_))
      refine Run.opG wantS_none (ex_move rfl) rfl ?_
      refine Run.opG wantS_none (ex_assign rfl) rfl ?_
      refine Run.opG wantS_none (ex_assign rfl) rfl ?_
      refine Run.opsEnd ?_
      cases h
      exact Run.ret Tryz.func54 rfl (res_tmp rfl (res_tmp rfl res_nil)) ⟨_, rfl, (hH.pick [1] rfl rfl).upF (none_le _)⟩

def ref06_inverse_c : Nat → (List Int) → Option ((List Int) × Bool)
  | 0, _ => none
  | F + 1, a0 =>
    bif ((a0.length : Int) == (1 : Int)) then
      bnd (ref00_OwnInts F a0) fun r2 =>
      some (r2, true)
    else
      bnd (subc a0 0 (w64 (Int.tdiv (a0.length : Int) (2 : Int)))) fun l5 =>
      bnd ((ref06_inverse_c F) l5) fun r6 =>
      bif (!r6.2) then
        some (([] : List Int), false)
      else
        ref06_inverse_c_1 F F a0 (w64 (Int.tdiv (a0.length : Int) (2 : Int))) (0 : Int) r6.1 ([] : List Int)

theorem ref06_inverse_c_ok : ∀ (F : Nat), ∀ (a0 : (List Int)) (s0 : SV) (r : (List Int) × Bool) (M : Mem) (hs0 : Slc (rd M) 1 (FlatR enc3) s0 a0) (ks0 : clo s0 = true) (h : ref06_inverse_c F a0 = some r), CallsM Tryz.prog 54 [s0] M (fun s M' => ∃ q1, s = (.tuple [q1, (.bool r.2)]) ∧ New M M' [.vec 3 1 r.1.length q1 (r.1.flatMap enc3)]) := by
  intro F
  induction F with
  | zero =>
    intro a0 s0 r M hs0 ks0 h
    simp [ref06_inverse_c] at h
  | succ F ih =>
    intro a0 s0 r M hs0 ks0 h
    refine CallsM.fresh (Q := ref06_inverse_c_post r) Tryz.func54 rfl rfl ?_ (by rintro s Me ⟨q1, rfl, hx⟩ ha hw; exact ⟨_, rfl, New.of rfl hx ha hw⟩)
    rw [ref06_inverse_c] at h
    replace hs0 := hs0.mono (rdLe_frozen M) (fun _ _ h => h)
    have hH := Has.nil (frozen M)
    refine Run.seq (Run.region ?_)
    refine Run.opG wantS_none (ex_assign rfl) rfl ?_
    refine Run.opG wantS_none (ex_assign rfl) rfl ?_
    refine Run.opsEnd (Run.seq (Run.seq (Run.region ?_)))
    refine Run.opG wantS_none (ex_move rfl) rfl ?_
    refine Run.opG wantS_none (ex_len' rfl hs0 lenk22) rfl ?_
    refine Run.opG wantS_none (ex_eql rfl rfl) rfl ?_
    refine Run.opsEnd ?_
    rcases btf (((a0.length : Int) == (1 : Int))) with hc1 | hc1
    · have h := bif_t hc1 h
      refine Run.condT' rfl hc1 ?_
      refine Run.seq (Run.region ?_)
      refine Run.opG wantS_none (ex_move rfl) rfl ?_
      obtain ⟨r2, hr2, h⟩ := bnd_some h
      refine Run.callX wantS_none (ex_call rfl mkk82 cal82) rfl (ref00_OwnInts_ok F a0 s0 _ _ (hH.slcF hs0) hr2) ?_
      rintro s2_0 M4 ⟨_, rfl, hN2⟩
      have hH4 : Has (ro (frozen M)) M4 [.vec 3 1 r2.length s2_0 (r2.flatMap enc3)] := hN2 _ _ hH
      refine Run.opG wantS_none (ex_assign rfl) rfl ?_
      refine Run.opG wantS_none (ex_assign rfl) rfl ?_
      refine Run.opsEnd ?_
      cases h
      exact Run.ret Tryz.func54 rfl (res_tmp rfl (res_tmp rfl res_nil)) ⟨_, rfl, (hH4.pick [0] rfl rfl).upF (none_le _)⟩
    · have h := bif_f hc1 h
      refine Run.condF' rfl hc1 ?_
      refine Run.skip (Run.seq (Run.region ?_))
      refine Run.opG wantS_none (ex_move rfl) rfl ?_
      refine Run.opG wantS_none (ex_len' rfl hs0 lenk22) rfl ?_
      refine Run.opG wantS_none (ex_quo rfl rfl (by decide)) rfl ?_
      refine Run.opG wantS_none (ex_assign rfl) rfl ?_
      refine Run.opsEnd (Run.seq (Run.region ?_))
      refine Run.opG wantS_none (ex_move rfl) rfl ?_
      refine Run.opG wantS_none (ex_move rfl) rfl ?_
      obtain ⟨l5, hl5, h⟩ := bnd_some h
      obtain ⟨s5, hx5, hs5, kc5⟩ := sl_cutH (P := Tryz.prog) (t := 22) (k0 := .i64) hs0 ks0 hl5 slk22
      refine Run.opG wantS_none (ex_slX rfl (argO_none) (argO_some rfl) hx5) rfl ?_
      obtain ⟨r6, hr6, h⟩ := bnd_some h
      refine Run.callX wantS_none (ex_call rfl mkk54 cal54) rfl (ih l5 s5 _ _ (hH.slcF hs5) kc5 hr6) ?_
      rintro _ M8 ⟨s6_0, rfl, hN6⟩
      have hH8 : Has (ro (frozen M)) M8 [.vec 3 1 r6.1.length s6_0 (r6.1.flatMap enc3)] := hN6 _ _ hH
      refine Run.opG wantS_none (ex_move rfl) rfl ?_
      refine Run.opG wantS_none (ex_extract rfl rfl) rfl ?_
      refine Run.opG wantS_none (ex_extract rfl rfl) rfl ?_
      refine Run.opG wantS_none (ex_assign rfl) rfl ?_
      refine Run.opG wantS_none (ex_assign rfl) rfl ?_
      refine Run.opsEnd (Run.seq (Run.seq (Run.region ?_)))
      refine Run.opG wantS_none (ex_move rfl) rfl ?_
      refine Run.opG wantS_none (ex_not rfl) rfl ?_
      refine Run.opsEnd ?_
      rcases btf ((!r6.2)) with hc9 | hc9
      · have h := bif_t hc9 h
        refine Run.condT' rfl hc9 ?_
        refine Run.seq (Run.region ?_)
        refine Run.opG wantS_none (ex_assign rfl) rfl ?_
        refine Run.opG wantS_none (ex_assign rfl) rfl ?_
        refine Run.opsEnd ?_
        have hH11 : Has (ro (frozen M)) M8 [.vec 3 1 ([] : List Int).length .nils (([] : List Int).flatMap enc3), .vec 3 1 r6.1.length s6_0 (r6.1.flatMap enc3)] := hH8.nils 3 1
        cases h
        exact Run.ret Tryz.func54 rfl (res_tmp rfl (res_tmp rfl res_nil)) ⟨_, rfl, (hH11.pick [0] rfl rfl).upF (none_le _)⟩
      · have h := bif_f hc9 h
        refine Run.condF' rfl hc9 ?_
        refine Run.skip (Run.seq (Run.region ?_))
        refine Run.opG wantS_none (ex_assign rfl) rfl ?_
        refine Run.opsEnd (Run.seq (Run.seq (Run.region ?_)))
        refine Run.opG wantS_none (ex_assign rfl) rfl ?_
        refine Run.opsEnd (Run.block (Run.loop ?_))
        have hH13 : Has (ro (frozen M)) M8 [.vec 3 1 ([] : List Int).length .nils (([] : List Int).flatMap enc3), .vec 3 1 r6.1.length s6_0 (r6.1.flatMap enc3)] := hH8.nils 3 1
        exact Run.pick [0, 4, 5, 7, 8] (ref06_inverse_c_1_ok F F a0 (w64 (Int.tdiv (a0.length : Int) (2 : Int))) (0 : Int) r6.1 ([] : List Int) s0 s6_0 .nils _ _ _ hs0 ks0 (hH13.pick [1, 0] rfl rfl) h)

abbrev ref06_Inverse_c_post (r : (List Int) × Int) : SV → Mem → Prop := fun s Me => ∃ q1, s = (.tuple [q1, (.int .i64 r.2)]) ∧ Has (fun _ => none) Me [.vec 3 1 r.1.length q1 (r.1.flatMap enc3)]

def ref06_Inverse_c_2 (F : Nat) (v34 : Bool) (l14 : (List Int)) : Option ((List Int) × Int) :=
  bif v34 then
    some (([] : List Int), (61 : Int))
  else
    some (l14, (0 : Int))

theorem ref06_Inverse_c_2_ok (F : Nat) : ∀ (v34 : Bool) (l14 : (List Int)) (s14 : SV) (Fr : Rd) (M : Mem) (r : (List Int) × Int) (hH : Has Fr M [.vec 3 1 l14.length s14 (l14.flatMap enc3)]), ref06_Inverse_c_2 F v34 l14 = some r → Run Tryz.prog ⟨⟨21, [], none⟩, []⟩ 36 (ref06_Inverse_c_post r) [(5, s14), (34, (.bool v34))] [codeC Tryz.prog 21 [1, 1, 1, 1, 0, 1], codeC Tryz.prog 21 [1, 1, 1, 1, 1]] M := by
  intro v34 l14 s14 Fr M r hH h
  rw [ref06_Inverse_c_2] at h
  rcases btf (v34) with hc17 | hc17
  · have h := bif_t hc17 h
    refine Run.condT' rfl hc17 ?_
    refine Run.seq (Run.region ?_)
    refine Run.opG wantS_none (ex_assign rfl) rfl ?_
    refine Run.opG wantS_none (ex_assign rfl) rfl ?_
    refine Run.opsEnd ?_
    have hH19 : Has Fr M [.vec 3 1 ([] : List Int).length .nils (([] : List Int).flatMap enc3), .vec 3 1 l14.length s14 (l14.flatMap enc3)] := hH.nils 3 1
    cases h
    exact Run.ret Tryz.func21 rfl (res_tmp rfl (res_tmp rfl res_nil)) ⟨_, rfl, (hH19.pick [0] rfl rfl).upF (none_le _)⟩
  · have h := bif_f hc17 h
    refine Run.condF' rfl hc17 ?_
    refine Run.skip (Run.seq (Run.region ?_))
    refine Run.opG wantS_none (ex_move rfl) rfl ?_
    refine Run.opG wantS_none (ex_assign rfl) rfl ?_
    refine Run.opG wantS_none (ex_assign rfl) rfl ?_
    refine Run.opsEnd ?_
    cases h
    exact Run.ret Tryz.func21 rfl (res_tmp rfl (res_tmp rfl res_nil)) ⟨_, rfl, (hH.pick [0] rfl rfl).upF (none_le _)⟩

def ref06_Inverse_c_1 (F : Nat) : Nat → (List Int) → Int → Option ((List Int) × Int)
  | 0, _, _ => none
  | N + 1, v0, v4 =>
    bif (decide (v4 < (v0.length : Int))) then
      bnd (idx v0 v4) fun x7 =>
      bnd (ref00_In F x7 ((-1073741824) : Int) (1073741824 : Int)) fun r8 =>
      bif (!r8) then
        some (([] : List Int), (61 : Int))
      else
        (ref06_Inverse_c_1 F N) v0 (w64 (v4 + (1 : Int)))
    else
      bnd (ref06_inverse_c F v0) fun r13 =>
      bif (!r13.2) then
        ref06_Inverse_c_2 F true r13.1
      else
        bnd (ref06_CheckSignal F r13.1) fun r20 =>
        ref06_Inverse_c_2 F (!(r20 == (0 : Int))) r13.1

theorem ref06_Inverse_c_1_ok (F : Nat) : ∀ (N : Nat), ∀ (v0 : (List Int)) (v4 : Int) (sv0 : SV) (Fr : Rd) (M : Mem) (r : (List Int) × Int) (hv0 : Slc Fr 1 (FlatR enc3) sv0 v0) (kv0 : clo sv0 = true) (hH : Has Fr M []), ref06_Inverse_c_1 F N v0 v4 = some r → Run Tryz.prog ⟨⟨21, [], none⟩, []⟩ 36 (ref06_Inverse_c_post r) [(0, sv0), (4, (.int .i64 v4))] [codeC Tryz.prog 21 [1, 1, 0, 1, 0, 0], loopC Tryz.prog 21 [1, 1, 0, 1, 0, 0], .inBlock 0, codeC Tryz.prog 21 [1, 1, 1]] M := by
  intro N
  induction N with
  | zero =>
    intro v0 v4 sv0 Fr M r hv0 kv0 hH h
    simp [ref06_Inverse_c_1] at h
  | succ N ih =>
    intro v0 v4 sv0 Fr M r hv0 kv0 hH h
    rw [ref06_Inverse_c_1] at h
    refine Run.seq (Run.seq (Run.region ?_))
    refine Run.opG wantS_none (ex_move rfl) rfl ?_
    refine Run.opG wantS_none (ex_move rfl) rfl ?_
    refine Run.opG wantS_none (ex_len' rfl hv0 lenk22) rfl ?_
    refine Run.opG wantS_none (ex_lss rfl rfl) rfl ?_
    refine Run.opsEnd ?_
    rcases btf ((decide (v4 < (v0.length : Int)))) with hc6 | hc6
    · have h := bif_t hc6 h
      refine Run.condT' rfl hc6 ?_
      refine Run.skip (Run.seq (Run.block (Run.seq (Run.region ?_))))
      refine Run.opG wantS_none (ex_move rfl) rfl ?_
      refine Run.opG wantS_none (ex_move rfl) rfl ?_
      obtain ⟨x7, hx7, h⟩ := bnd_some h
      obtain ⟨p7, o7, _, hx7, hp7, rfl⟩ := sl_elem (P := Tryz.prog) (t := 22) (kk := .i64) hv0 hx7 els22
      refine Run.opG wantS_none (ex_elX rfl rfl hx7) rfl ?_
      refine Run.opG wantS_none (ex_load1 rfl (hH.ptrF hp7) rdLe_rfl agg3) rfl ?_
      obtain ⟨r8, hr8, h⟩ := bnd_some h
      refine Run.callP wantS_none (ex_call rfl mkk44 cal44) rfl (ref00_In_ok F x7 ((-1073741824) : Int) (1073741824 : Int) _ _ hr8) ?_
      refine Run.opG wantS_none (ex_not rfl) rfl ?_
      refine Run.opsEnd ?_
      rcases btf ((!r8)) with hc10 | hc10
      · have h := bif_t hc10 h
        refine Run.condT' rfl hc10 ?_
        refine Run.seq (Run.region ?_)
        refine Run.opG wantS_none (ex_assign rfl) rfl ?_
        refine Run.opG wantS_none (ex_assign rfl) rfl ?_
        refine Run.opsEnd ?_
        have hH12 : Has Fr M [.vec 3 1 ([] : List Int).length .nils (([] : List Int).flatMap enc3)] := hH.nils 3 1
        cases h
        exact Run.ret Tryz.func21 rfl (res_tmp rfl (res_tmp rfl res_nil)) ⟨_, rfl, (hH12.pick [0] rfl rfl).upF (none_le _)⟩
      · have h := bif_f hc10 h
        refine Run.condF' rfl hc10 ?_
        refine Run.skip (Run.inBlock (Run.region ?_))
        refine Run.opG wantS_none (ex_move rfl) rfl ?_
        refine Run.opG wantS_none (ex_add rfl rfl) rfl ?_
        refine Run.opG wantS_none (ex_assign rfl) rfl ?_
        refine Run.opsEnd (Run.inLoop ?_)
        exact Run.pick [0, 4] (ih v0 (w64 (v4 + (1 : Int))) sv0 _ _ _ hv0 kv0 hH h)
    · have h := bif_f hc6 h
      refine Run.condF' rfl hc6 ?_
      refine Run.exit rfl (Run.seq (Run.region ?_))
      refine Run.opG wantS_none (ex_move rfl) rfl ?_
      obtain ⟨r13, hr13, h⟩ := bnd_some h
      refine Run.callX wantS_none (ex_call rfl mkk54 cal54) rfl (ref06_inverse_c_ok F v0 sv0 _ _ (hH.slcF hv0) kv0 hr13) ?_
      rintro _ M15 ⟨s13_0, rfl, hN13⟩
      have hH15 : Has Fr M15 [.vec 3 1 r13.1.length s13_0 (r13.1.flatMap enc3)] := hN13 _ _ hH
      refine Run.opG wantS_none (ex_move rfl) rfl ?_
      refine Run.opG wantS_none (ex_extract rfl rfl) rfl ?_
      refine Run.opG wantS_none (ex_extract rfl rfl) rfl ?_
      refine Run.opG wantS_none (ex_assign rfl) rfl ?_
      refine Run.opG wantS_none (ex_assign rfl) rfl ?_
      refine Run.opsEnd (Run.seq (Run.seq (Run.region ?_)))
      refine Run.opG wantS_none (ex_move rfl) rfl ?_
      refine Run.opG wantS_none (ex_not rfl) rfl ?_
      refine Run.opG wantS_none (ex_move rfl) rfl ?_
      rcases btf ((!r13.2)) with hc16 | hc16
      · have h := bif_t hc16 h
        refine Run.no (wantS_not' rfl rfl hc16) rfl ?_
        refine Run.no (wantS_not' rfl rfl hc16) rfl ?_
        refine Run.no (wantS_not' rfl rfl hc16) rfl ?_
        refine Run.opG wantS_none (ex_pickT' rfl hc16 rfl rfl) rfl ?_
        refine Run.opsEnd ?_
        exact Run.pick [5, 34] (ref06_Inverse_c_2_ok F true r13.1 s13_0 _ _ _ hH15 h)
      · have h := bif_f hc16 h
        refine Run.opG (wantS_yes' rfl rfl hc16) (ex_move rfl) rfl ?_
        obtain ⟨r20, hr20, h⟩ := bnd_some h
        refine Run.callP (wantS_yes' rfl rfl hc16) (ex_call rfl mkk16 cal16) rfl (ref06_CheckSignal_ok F r13.1 s13_0 _ _ (hH15.slc (i := 0) rfl enc3_len) hr20) ?_
        refine Run.opG (wantS_yes' rfl rfl hc16) (ex_neq rfl rfl) rfl ?_
        refine Run.opG wantS_none (ex_pickF' rfl hc16 rfl rfl) rfl ?_
        refine Run.opsEnd ?_
        exact Run.pick [5, 34] (ref06_Inverse_c_2_ok F (!(r20 == (0 : Int))) r13.1 s13_0 _ _ _ hH15 h)

def ref06_Inverse_c (F : Nat) (a0 : (List Int)) : Option ((List Int) × Int) :=
  bnd (ref06_power F (a0.length : Int)) fun r1 =>
  bif (decide (r1 < (0 : Int))) then
    some (([] : List Int), (61 : Int))
  else
    ref06_Inverse_c_1 F F a0 (0 : Int)

theorem ref06_Inverse_c_ok (F : Nat) (a0 : (List Int)) (s0 : SV) (r : (List Int) × Int) (M : Mem) (hs0 : Slc (rd M) 1 (FlatR enc3) s0 a0) (ks0 : clo s0 = true) (h : ref06_Inverse_c F a0 = some r) : CallsM Tryz.prog 21 [s0] M (fun s M' => ∃ q1, s = (.tuple [q1, (.int .i64 r.2)]) ∧ New M M' [.vec 3 1 r.1.length q1 (r.1.flatMap enc3)]) := by
  refine CallsM.fresh (Q := ref06_Inverse_c_post r) Tryz.func21 rfl rfl ?_ (by rintro s Me ⟨q1, rfl, hx⟩ ha hw; exact ⟨_, rfl, New.of rfl hx ha hw⟩)
  rw [ref06_Inverse_c] at h
  replace hs0 := hs0.mono (rdLe_frozen M) (fun _ _ h => h)
  have hH := Has.nil (frozen M)
  refine Run.seq (Run.region ?_)
  refine Run.opG wantS_none (ex_assign rfl) rfl ?_
  refine Run.opG wantS_none (ex_assign rfl) rfl ?_
  refine Run.opsEnd (Run.seq (Run.seq (Run.region ?_)))
  refine Run.opG wantS_none (ex_move rfl) rfl ?_
  refine Run.opG wantS_none (ex_len' rfl hs0 lenk22) rfl ?_
  obtain ⟨r1, hr1, h⟩ := bnd_some h
  refine Run.callP wantS_none (ex_call rfl mkk49 cal49) rfl (ref06_power_ok F (a0.length : Int) _ _ hr1) ?_
  refine Run.opG wantS_none (ex_lss rfl rfl) rfl ?_
  refine Run.opsEnd ?_
  rcases btf ((decide (r1 < (0 : Int)))) with hc3 | hc3
  · have h := bif_t hc3 h
    refine Run.condT' rfl hc3 ?_
    refine Run.seq (Run.region ?_)
    refine Run.opG wantS_none (ex_assign rfl) rfl ?_
    refine Run.opG wantS_none (ex_assign rfl) rfl ?_
    refine Run.opsEnd ?_
    have hH5 : Has (ro (frozen M)) (frozen M) [.vec 3 1 ([] : List Int).length .nils (([] : List Int).flatMap enc3)] := hH.nils 3 1
    cases h
    exact Run.ret Tryz.func21 rfl (res_tmp rfl (res_tmp rfl res_nil)) ⟨_, rfl, (hH5.pick [0] rfl rfl).upF (none_le _)⟩
  · have h := bif_f hc3 h
    refine Run.condF' rfl hc3 ?_
    refine Run.skip (Run.seq (Run.seq (Run.region ?_)))
    refine Run.opG wantS_none (ex_assign rfl) rfl ?_
    refine Run.opsEnd (Run.block (Run.loop ?_))
    exact Run.pick [0, 4] (ref06_Inverse_c_1_ok F F a0 (0 : Int) s0 _ _ _ hs0 ks0 hH h)

theorem mkk21 : makeK Tryz.prog 21 = none := by kernel_rfl
theorem cal21 : callable Tryz.prog 21 = true := by kernel_rfl
theorem plan55_1_1_0_1_0_0_1_1_0_0_1 : planOf Tryz.prog (opsC (atC Tryz.prog 55 [1, 1, 0, 1, 0, 0, 1, 1, 0, 0, 1])) = some [.fl 0, .fl 1, .fl 2, .fl 3, .fl 4, .fl 5, .fl 6, .fl 7, .fl 8, .fl 9, .fl 10, .an 11 [], .sync] := by kernel_rfl
abbrev glitch_product_post (r : Int) : SV → Mem → Prop := fun s _ => s = (.int .i64 r)

def glitch_product_1 (F : Nat) : Nat → (List Int) → (List Int) → Int → Int → Int → Option (Int)
  | 0, _, _, _, _, _ => none
  | N + 1, v0, v1, v5, v8, v9 =>
    bif (decide (v9 < v8)) then
      bnd (idx v0 v9) fun x2 =>
      bnd (idx v1 v9) fun x3 =>
      (glitch_product_1 F N) v0 v1 (w64 (v5 + (w64 (x2 * x3)))) v8 (w64 (v9 + (1 : Int)))
    else
      some v5

theorem glitch_product_1_ok (F : Nat) : ∀ (N : Nat), ∀ (v0 : (List Int)) (v1 : (List Int)) (v5 : Int) (v8 : Int) (v9 : Int) (sv0 : SV) (sv1 : SV) (Fr : Rd) (M : Mem) (r : Int) (hv0 : Slc Fr 1 (FlatR enc3) sv0 v0) (hv1 : Slc Fr 1 (FlatR enc3) sv1 v1) (hH : Has Fr M []), glitch_product_1 F N v0 v1 v5 v8 v9 = some r → Run Tryz.prog ⟨⟨55, [], none⟩, []⟩ 25 (glitch_product_post r) [(0, sv0), (1, sv1), (5, (.int .i64 v5)), (8, (.int .i64 v8)), (9, (.int .i64 v9))] [codeC Tryz.prog 55 [1, 1, 0, 1, 0, 0], loopC Tryz.prog 55 [1, 1, 0, 1, 0, 0], .inBlock 0, codeC Tryz.prog 55 [1, 1, 1]] M := by
  intro N
  induction N with
  | zero =>
    intro v0 v1 v5 v8 v9 sv0 sv1 Fr M r hv0 hv1 hH h
    simp [glitch_product_1] at h
  | succ N ih =>
    intro v0 v1 v5 v8 v9 sv0 sv1 Fr M r hv0 hv1 hH h
    rw [glitch_product_1] at h
    refine Run.seq (Run.region ?_)
    refine Run.opG wantS_none (ex_lss rfl rfl) rfl ?_
    refine Run.opsEnd (Run.seq ?_)
    rcases btf ((decide (v9 < v8))) with hc1 | hc1
    · have h := bif_t hc1 h
      refine Run.condT' rfl hc1 ?_
      refine Run.skip (Run.seq (Run.block (Run.seq (Run.region ?_))))
      refine Run.opG wantS_none (ex_move rfl) rfl ?_
      refine Run.opG wantS_none (ex_assign rfl) rfl ?_
      refine Run.opsEnd ?_
      refine Run.drawG plan55_1_1_0_1_0_0_1_1_0_0_1 ?_
      refine DrawG.fl rfl (ev_ex wantS_none (ex_move rfl)) rfl ?_
      refine DrawG.fl rfl (ev_ex wantS_none (ex_move rfl)) rfl ?_
      refine DrawG.fl rfl (ev_ex wantS_none (ex_move rfl)) rfl ?_
      obtain ⟨x2, hx2, h⟩ := bnd_some h
      obtain ⟨p2, o2, _, hx2, hp2, rfl⟩ := sl_elem (P := Tryz.prog) (t := 22) (kk := .i64) hv0 hx2 els22
      refine DrawG.fl rfl (ev_ex wantS_none (ex_elX rfl rfl hx2)) rfl ?_
      refine DrawG.fl rfl (ev_ex wantS_none (ex_load1 rfl (hH.ptrF hp2) rdLe_rfl agg3)) rfl ?_
      refine DrawG.fl rfl (ev_ex wantS_none (ex_move rfl)) rfl ?_
      refine DrawG.fl rfl (ev_ex wantS_none (ex_move rfl)) rfl ?_
      obtain ⟨x3, hx3, h⟩ := bnd_some h
      obtain ⟨p3, o3, _, hx3, hp3, rfl⟩ := sl_elem (P := Tryz.prog) (t := 22) (kk := .i64) hv1 hx3 els22
      refine DrawG.fl rfl (ev_ex wantS_none (ex_elX rfl rfl hx3)) rfl ?_
      refine DrawG.fl rfl (ev_ex wantS_none (ex_load1 rfl (hH.ptrF hp3) rdLe_rfl agg3)) rfl ?_
      refine DrawG.fl rfl (ev_ex wantS_none (ex_mul rfl rfl)) rfl ?_
      refine DrawG.fl rfl (ev_ex wantS_none (ex_add rfl rfl)) rfl ?_
      refine DrawG.val rfl wantS_none (ex_assign rfl) rfl st_nil ?_
      refine DrawG.sync ?_
      refine DrawG.nil ?_
      refine Run.inBlock (Run.region ?_)
      refine Run.opG wantS_none (ex_add rfl rfl) rfl ?_
      refine Run.opG wantS_none (ex_move rfl) rfl ?_
      refine Run.opsEnd (Run.inLoop ?_)
      exact Run.pick [0, 1, 5, 8, 9] (ih v0 v1 (w64 (v5 + (w64 (x2 * x3)))) v8 (w64 (v9 + (1 : Int))) sv0 sv1 _ _ _ hv0 hv1 hH h)
    · have h := bif_f hc1 h
      refine Run.condF' rfl hc1 ?_
      refine Run.exit rfl (Run.seq (Run.region ?_))
      refine Run.opG wantS_none (ex_move rfl) rfl ?_
      refine Run.opG wantS_none (ex_assign rfl) rfl ?_
      refine Run.opsEnd ?_
      cases h
      exact Run.ret Tryz.func55 rfl (res_tmp rfl res_nil) rfl

def glitch_product (F : Nat) (a0 : (List Int)) (a1 : (List Int)) : Option (Int) :=
  glitch_product_1 F F a0 a1 (0 : Int) (a0.length : Int) (0 : Int)

theorem glitch_product_ok (F : Nat) (a0 : (List Int)) (a1 : (List Int)) (s0 s1 : SV) (r : Int) (M : Mem) (hs0 : Slc (rd M) 1 (FlatR enc3) s0 a0) (hs1 : Slc (rd M) 1 (FlatR enc3) s1 a1) (h : glitch_product F a0 a1 = some r) : CallsM Tryz.prog 55 [s0, s1] M (fun s M' => s = (.int .i64 r) ∧ M' = M) := by
  refine CallsM.plain Tryz.func55 rfl rfl rfl (show Run _ _ _ (glitch_product_post r) _ _ _ from ?_)
  rw [glitch_product] at h
  replace hs0 := hs0.mono (rdLe_frozen M) (fun _ _ h => h)
  replace hs1 := hs1.mono (rdLe_frozen M) (fun _ _ h => h)
  have hH := Has.nil (frozen M)
  refine Run.seq (Run.region ?_)
  refine Run.opG wantS_none (ex_assign rfl) rfl ?_
  refine Run.opsEnd (Run.seq (Run.region ?_))
  refine Run.opG wantS_none (ex_assign rfl) rfl ?_
  refine Run.opsEnd (Run.seq (Run.seq (Run.region ?_)))
  refine Run.opG wantS_none (ex_move rfl) rfl ?_
  refine Run.opG wantS_none (ex_len' rfl hs0 lenk22) rfl ?_
  refine Run.opG wantS_none (ex_move rfl) rfl ?_
  refine Run.opsEnd (Run.block (Run.loop ?_))
  exact Run.pick [0, 1, 5, 8, 9] (glitch_product_1_ok F F a0 a1 (0 : Int) (a0.length : Int) (0 : Int) s0 s1 _ _ _ hs0 hs1 hH h)

theorem mkk55 : makeK Tryz.prog 55 = none := by kernel_rfl
theorem cal55 : callable Tryz.prog 55 = true := by kernel_rfl
abbrev glitch_Energy_post (r : Int × Int) : SV → Mem → Prop := fun s _ => s = (.tuple [(.int .i64 r.1), (.int .i64 r.2)])

def glitch_Energy (F : Nat) (a0 : (List Int)) : Option (Int × Int) :=
  bnd (glitch_isSignal F a0) fun r1 =>
  bif (!r1) then
    some ((0 : Int), (60 : Int))
  else
    bnd (glitch_product F a0 a0) fun r4 =>
    some ((w64 ((a0.length : Int) * r4)), (0 : Int))

theorem glitch_Energy_ok (F : Nat) (a0 : (List Int)) (s0 : SV) (r : Int × Int) (M : Mem) (hs0 : Slc (rd M) 1 (FlatR enc3) s0 a0) (h : glitch_Energy F a0 = some r) : CallsM Tryz.prog 22 [s0] M (fun s M' => s = (.tuple [(.int .i64 r.1), (.int .i64 r.2)]) ∧ M' = M) := by
  refine CallsM.plain Tryz.func22 rfl rfl rfl (show Run _ _ _ (glitch_Energy_post r) _ _ _ from ?_)
  rw [glitch_Energy] at h
  replace hs0 := hs0.mono (rdLe_frozen M) (fun _ _ h => h)
  have hH := Has.nil (frozen M)
  refine Run.seq (Run.region ?_)
  refine Run.opG wantS_none (ex_assign rfl) rfl ?_
  refine Run.opG wantS_none (ex_assign rfl) rfl ?_
  refine Run.opsEnd (Run.seq (Run.seq (Run.region ?_)))
  refine Run.opG wantS_none (ex_move rfl) rfl ?_
  obtain ⟨r1, hr1, h⟩ := bnd_some h
  refine Run.callP wantS_none (ex_call rfl mkk48 cal48) rfl (glitch_isSignal_ok F a0 s0 _ _ (hH.slcF hs0) hr1) ?_
  refine Run.opG wantS_none (ex_not rfl) rfl ?_
  refine Run.opsEnd ?_
  rcases btf ((!r1)) with hc3 | hc3
  · have h := bif_t hc3 h
    refine Run.condT' rfl hc3 ?_
    refine Run.seq (Run.region ?_)
    refine Run.opG wantS_none (ex_assign rfl) rfl ?_
    refine Run.opG wantS_none (ex_assign rfl) rfl ?_
    refine Run.opsEnd ?_
    cases h
    exact Run.ret Tryz.func22 rfl (res_tmp rfl (res_tmp rfl res_nil)) rfl
  · have h := bif_f hc3 h
    refine Run.condF' rfl hc3 ?_
    refine Run.skip (Run.seq (Run.region ?_))
    refine Run.opG wantS_none (ex_move rfl) rfl ?_
    refine Run.opG wantS_none (ex_len' rfl hs0 lenk22) rfl ?_
    refine Run.opG wantS_none (ex_move rfl) rfl ?_
    refine Run.opG wantS_none (ex_move rfl) rfl ?_
    obtain ⟨r4, hr4, h⟩ := bnd_some h
    refine Run.callP wantS_none (ex_call rfl mkk55 cal55) rfl (glitch_product_ok F a0 a0 s0 s0 _ _ (hH.slcF hs0) (hH.slcF hs0) hr4) ?_
    refine Run.opG wantS_none (ex_mul rfl rfl) rfl ?_
    refine Run.opG wantS_none (ex_assign rfl) rfl ?_
    refine Run.opG wantS_none (ex_assign rfl) rfl ?_
    refine Run.opsEnd ?_
    cases h
    exact Run.ret Tryz.func22 rfl (res_tmp rfl (res_tmp rfl res_nil)) rfl

theorem mkk22 : makeK Tryz.prog 22 = none := by kernel_rfl
theorem cal22 : callable Tryz.prog 22 = true := by kernel_rfl
theorem plan23_1_1_1_0_1_0_0_1_0_0 : planOf Tryz.prog (opsC (atC Tryz.prog 23 [1, 1, 1, 0, 1, 0, 0, 1, 0, 0])) = some [.fl 0, .fl 1, .fl 2, .fl 3, .fl 4, .fl 5, .fl 6, .fl 7, .fl 8, .fl 9, .fl 10, .an 11 [], .sync] := by kernel_rfl
abbrev ref06_Energy_post (r : Int × Int) : SV → Mem → Prop := fun s _ => s = (.tuple [(.int .i64 r.1), (.int .i64 r.2)])

def ref06_Energy_1 (F : Nat) : Nat → (List Int) → Int → Int → Option (Int × Int)
  | 0, _, _, _ => none
  | N + 1, v0, v5, v6 =>
    bif (decide (v6 < (v0.length : Int))) then
      bnd (idx v0 v6) fun x5 =>
      bnd (idx v0 v6) fun x6 =>
      (ref06_Energy_1 F N) v0 (w64 (v5 + (w64 (x5 * x6)))) (w64 (v6 + (1 : Int)))
    else
      some ((w64 (v5 * (v0.length : Int))), (0 : Int))

theorem ref06_Energy_1_ok (F : Nat) : ∀ (N : Nat), ∀ (v0 : (List Int)) (v5 : Int) (v6 : Int) (sv0 : SV) (Fr : Rd) (M : Mem) (r : Int × Int) (hv0 : Slc Fr 1 (FlatR enc3) sv0 v0) (hH : Has Fr M []), ref06_Energy_1 F N v0 v5 v6 = some r → Run Tryz.prog ⟨⟨23, [], none⟩, []⟩ 33 (ref06_Energy_post r) [(0, sv0), (5, (.int .i64 v5)), (6, (.int .i64 v6))] [codeC Tryz.prog 23 [1, 1, 1, 0, 1, 0, 0], loopC Tryz.prog 23 [1, 1, 1, 0, 1, 0, 0], .inBlock 0, codeC Tryz.prog 23 [1, 1, 1, 1]] M := by
  intro N
  induction N with
  | zero =>
    intro v0 v5 v6 sv0 Fr M r hv0 hH h
    simp [ref06_Energy_1] at h
  | succ N ih =>
    intro v0 v5 v6 sv0 Fr M r hv0 hH h
    rw [ref06_Energy_1] at h
    refine Run.seq (Run.seq (Run.region ?_))
    refine Run.opG wantS_none (ex_move rfl) rfl ?_
    refine Run.opG wantS_none (ex_move rfl) rfl ?_
    refine Run.opG wantS_none (ex_len' rfl hv0 lenk22) rfl ?_
    refine Run.opG wantS_none (ex_lss rfl rfl) rfl ?_
    refine Run.opsEnd ?_
    rcases btf ((decide (v6 < (v0.length : Int)))) with hc4 | hc4
    · have h := bif_t hc4 h
      refine Run.condT' rfl hc4 ?_
      refine Run.skip (Run.seq (Run.block ?_))
      refine Run.drawG plan23_1_1_1_0_1_0_0_1_0_0 ?_
      refine DrawG.fl rfl (ev_ex wantS_none (ex_move rfl)) rfl ?_
      refine DrawG.fl rfl (ev_ex wantS_none (ex_move rfl)) rfl ?_
      refine DrawG.fl rfl (ev_ex wantS_none (ex_move rfl)) rfl ?_
      obtain ⟨x5, hx5, h⟩ := bnd_some h
      obtain ⟨p5, o5, _, hx5, hp5, rfl⟩ := sl_elem (P := Tryz.prog) (t := 22) (kk := .i64) hv0 hx5 els22
      refine DrawG.fl rfl (ev_ex wantS_none (ex_elX rfl rfl hx5)) rfl ?_
      refine DrawG.fl rfl (ev_ex wantS_none (ex_load1 rfl (hH.ptrF hp5) rdLe_rfl agg3)) rfl ?_
      refine DrawG.fl rfl (ev_ex wantS_none (ex_move rfl)) rfl ?_
      refine DrawG.fl rfl (ev_ex wantS_none (ex_move rfl)) rfl ?_
      obtain ⟨x6, hx6, h⟩ := bnd_some h
      obtain ⟨p6, o6, _, hx6, hp6, rfl⟩ := sl_elem (P := Tryz.prog) (t := 22) (kk := .i64) hv0 hx6 els22
      refine DrawG.fl rfl (ev_ex wantS_none (ex_elX rfl rfl hx6)) rfl ?_
      refine DrawG.fl rfl (ev_ex wantS_none (ex_load1 rfl (hH.ptrF hp6) rdLe_rfl agg3)) rfl ?_
      refine DrawG.fl rfl (ev_ex wantS_none (ex_mul rfl rfl)) rfl ?_
      refine DrawG.fl rfl (ev_ex wantS_none (ex_add rfl rfl)) rfl ?_
      refine DrawG.val rfl wantS_none (ex_assign rfl) rfl st_nil ?_
      refine DrawG.sync ?_
      refine DrawG.nil ?_
      refine Run.inBlock (Run.region ?_)
      refine Run.opG wantS_none (ex_move rfl) rfl ?_
      refine Run.opG wantS_none (ex_add rfl rfl) rfl ?_
      refine Run.opG wantS_none (ex_assign rfl) rfl ?_
      refine Run.opsEnd (Run.inLoop ?_)
      exact Run.pick [0, 5, 6] (ih v0 (w64 (v5 + (w64 (x5 * x6)))) (w64 (v6 + (1 : Int))) sv0 _ _ _ hv0 hH h)
    · have h := bif_f hc4 h
      refine Run.condF' rfl hc4 ?_
      refine Run.exit rfl (Run.seq (Run.region ?_))
      refine Run.opG wantS_none (ex_move rfl) rfl ?_
      refine Run.opG wantS_none (ex_move rfl) rfl ?_
      refine Run.opG wantS_none (ex_len' rfl hv0 lenk22) rfl ?_
      refine Run.opG wantS_none (ex_mul rfl rfl) rfl ?_
      refine Run.opG wantS_none (ex_assign rfl) rfl ?_
      refine Run.opG wantS_none (ex_assign rfl) rfl ?_
      refine Run.opsEnd ?_
      cases h
      exact Run.ret Tryz.func23 rfl (res_tmp rfl (res_tmp rfl res_nil)) rfl

def ref06_Energy (F : Nat) (a0 : (List Int)) : Option (Int × Int) :=
  bnd (ref06_CheckSignal F a0) fun r1 =>
  bif (!(r1 == (0 : Int))) then
    some ((0 : Int), r1)
  else
    ref06_Energy_1 F F a0 (0 : Int) (0 : Int)

theorem ref06_Energy_ok (F : Nat) (a0 : (List Int)) (s0 : SV) (r : Int × Int) (M : Mem) (hs0 : Slc (rd M) 1 (FlatR enc3) s0 a0) (h : ref06_Energy F a0 = some r) : CallsM Tryz.prog 23 [s0] M (fun s M' => s = (.tuple [(.int .i64 r.1), (.int .i64 r.2)]) ∧ M' = M) := by
  refine CallsM.plain Tryz.func23 rfl rfl rfl (show Run _ _ _ (ref06_Energy_post r) _ _ _ from ?_)
  rw [ref06_Energy] at h
  replace hs0 := hs0.mono (rdLe_frozen M) (fun _ _ h => h)
  have hH := Has.nil (frozen M)
  refine Run.seq (Run.region ?_)
  refine Run.opG wantS_none (ex_assign rfl) rfl ?_
  refine Run.opG wantS_none (ex_assign rfl) rfl ?_
  refine Run.opsEnd (Run.seq (Run.seq (Run.region ?_)))
  refine Run.opG wantS_none (ex_move rfl) rfl ?_
  obtain ⟨r1, hr1, h⟩ := bnd_some h
  refine Run.callP wantS_none (ex_call rfl mkk16 cal16) rfl (ref06_CheckSignal_ok F a0 s0 _ _ (hH.slcF hs0) hr1) ?_
  refine Run.opG wantS_none (ex_assign rfl) rfl ?_
  refine Run.opsEnd (Run.seq (Run.region ?_))
  refine Run.opG wantS_none (ex_move rfl) rfl ?_
  refine Run.opG wantS_none (ex_neq rfl rfl) rfl ?_
  refine Run.opsEnd ?_
  rcases btf ((!(r1 == (0 : Int)))) with hc3 | hc3
  · have h := bif_t hc3 h
    refine Run.condT' rfl hc3 ?_
    refine Run.seq (Run.region ?_)
    refine Run.opG wantS_none (ex_move rfl) rfl ?_
    refine Run.opG wantS_none (ex_assign rfl) rfl ?_
    refine Run.opG wantS_none (ex_assign rfl) rfl ?_
    refine Run.opsEnd ?_
    cases h
    exact Run.ret Tryz.func23 rfl (res_tmp rfl (res_tmp rfl res_nil)) rfl
  · have h := bif_f hc3 h
    refine Run.condF' rfl hc3 ?_
    refine Run.skip (Run.seq (Run.region ?_))
    refine Run.opG wantS_none (ex_assign rfl) rfl ?_
    refine Run.opsEnd (Run.seq (Run.seq (Run.region ?_)))
    refine Run.opG wantS_none (ex_assign rfl) rfl ?_
    refine Run.opsEnd (Run.block (Run.loop ?_))
    exact Run.pick [0, 5, 6] (ref06_Energy_1_ok F F a0 (0 : Int) (0 : Int) s0 _ _ _ hs0 hH h)

theorem mkk23 : makeK Tryz.prog 23 = none := by kernel_rfl
theorem cal23 : callable Tryz.prog 23 = true := by kernel_rfl
theorem mkk24 : makeK Tryz.prog 24 = none := by kernel_rfl
theorem cal24 : callable Tryz.prog 24 = true := by kernel_rfl
abbrev law06_GlitchTransforms_post (r : Bool) : SV → Mem → Prop := fun s _ => s = (.bool r)

def law06_GlitchTransforms_4 (F : Nat) (v74 : Bool) : Option (Bool) :=
  some v74

theorem law06_GlitchTransforms_4_ok (F : Nat) : ∀ (v74 : Bool) (Fr : Rd) (M : Mem) (r : Bool) (hH : Has Fr M [tb0, tb1, tb2]), law06_GlitchTransforms_4 F v74 = some r → Run Tryz.prog ⟨⟨3, [], none⟩, []⟩ 75 (law06_GlitchTransforms_post r) [(74, (.bool v74))] [itemC Tryz.prog 3 [1, 1, 1, 1, 1, 1, 1, 1, 1, 1, 0] 11, codeC Tryz.prog 3 [1, 1, 1, 1, 1, 1, 1, 1, 1, 1, 1]] M := by
  intro v74 Fr M r hH h
  rw [law06_GlitchTransforms_4] at h
  refine Run.opG wantS_none (ex_assign rfl) rfl ?_
  refine Run.opsEnd ?_
  cases h
  exact Run.ret Tryz.func3 rfl (res_tmp rfl res_nil) rfl

def law06_GlitchTransforms_3 (F : Nat) (v71 : Bool) : Option (Bool) :=
  bif v71 then
    bnd (works F) fun r35 =>
    law06_GlitchTransforms_4 F r35
  else
    law06_GlitchTransforms_4 F false

theorem law06_GlitchTransforms_3_ok (F : Nat) : ∀ (v71 : Bool) (Fr : Rd) (M : Mem) (r : Bool) (hH : Has Fr M [tb0, tb1, tb2]), law06_GlitchTransforms_3 F v71 = some r → Run Tryz.prog ⟨⟨3, [], none⟩, []⟩ 75 (law06_GlitchTransforms_post r) [(71, (.bool v71))] [itemC Tryz.prog 3 [1, 1, 1, 1, 1, 1, 1, 1, 1, 1, 0] 8, codeC Tryz.prog 3 [1, 1, 1, 1, 1, 1, 1, 1, 1, 1, 1]] M := by
  intro v71 Fr M r hH h
  rw [law06_GlitchTransforms_3] at h
  refine Run.opG wantS_none (ex_move rfl) rfl ?_
  rcases btf (v71) with hc34 | hc34
  · have h := bif_t hc34 h
    obtain ⟨r35, hr35, h⟩ := bnd_some h
    refine Run.callP (wantS_yes' rfl rfl hc34) (ex_call rfl mkk24 cal24) rfl (works_ok F r35 _ hH (List.mem_of_getElem? (i := 0) rfl) (List.mem_of_getElem? (i := 1) rfl) (List.mem_of_getElem? (i := 2) rfl) hr35) ?_
    refine Run.opG wantS_none (ex_pickT' rfl hc34 rfl rfl) rfl ?_
    exact Run.pick [74] (law06_GlitchTransforms_4_ok F r35 _ _ _ hH h)
  · have h := bif_f hc34 h
    refine Run.no (wantS_not' rfl rfl hc34) rfl ?_
    refine Run.opG wantS_none (ex_pickF' rfl hc34 rfl rfl) rfl ?_
    exact Run.pick [74] (law06_GlitchTransforms_4_ok F false _ _ _ hH h)

def law06_GlitchTransforms_2 (F : Nat) (v0 : (List Int)) (v53 : Bool) : Option (Bool) :=
  bif v53 then
    some false
  else
    bnd (glitch_Energy F v0) fun r29 =>
    bnd (ref06_Energy F v0) fun r31 =>
    bif (r29.1 == r31.1) then
      law06_GlitchTransforms_3 F (r29.2 == r31.2)
    else
      law06_GlitchTransforms_3 F false

theorem law06_GlitchTransforms_2_ok (F : Nat) : ∀ (v0 : (List Int)) (v53 : Bool) (sv0 : SV) (Fr : Rd) (M : Mem) (r : Bool) (hv0 : Slc Fr 1 (FlatR enc3) sv0 v0) (kv0 : clo sv0 = true) (hH : Has Fr M [tb0, tb1, tb2]), law06_GlitchTransforms_2 F v0 v53 = some r → Run Tryz.prog ⟨⟨3, [], none⟩, []⟩ 75 (law06_GlitchTransforms_post r) [(0, sv0), (53, (.bool v53))] [codeC Tryz.prog 3 [1, 1, 1, 1, 1, 1, 1, 0, 1], codeC Tryz.prog 3 [1, 1, 1, 1, 1, 1, 1, 1]] M := by
  intro v0 v53 sv0 Fr M r hv0 kv0 hH h
  rw [law06_GlitchTransforms_2] at h
  rcases btf (v53) with hc28 | hc28
  · have h := bif_t hc28 h
    refine Run.condT' rfl hc28 ?_
    refine Run.seq (Run.region ?_)
    refine Run.opG wantS_none (ex_assign rfl) rfl ?_
    refine Run.opsEnd ?_
    cases h
    exact Run.ret Tryz.func3 rfl (res_tmp rfl res_nil) rfl
  · have h := bif_f hc28 h
    refine Run.condF' rfl hc28 ?_
    refine Run.skip (Run.seq (Run.region ?_))
    refine Run.opG wantS_none (ex_move rfl) rfl ?_
    obtain ⟨r29, hr29, h⟩ := bnd_some h
    refine Run.callP wantS_none (ex_call rfl mkk22 cal22) rfl (glitch_Energy_ok F v0 sv0 _ _ (hH.slcF hv0) hr29) ?_
    refine Run.opG wantS_none (ex_move rfl) rfl ?_
    refine Run.opG wantS_none (ex_extract rfl rfl) rfl ?_
    refine Run.opG wantS_none (ex_extract rfl rfl) rfl ?_
    refine Run.opG wantS_none (ex_assign rfl) rfl ?_
    refine Run.opG wantS_none (ex_assign rfl) rfl ?_
    refine Run.opsEnd (Run.seq (Run.region ?_))
    refine Run.opG wantS_none (ex_move rfl) rfl ?_
    obtain ⟨r31, hr31, h⟩ := bnd_some h
    refine Run.callP wantS_none (ex_call rfl mkk23 cal23) rfl (ref06_Energy_ok F v0 sv0 _ _ (hH.slcF hv0) hr31) ?_
    refine Run.opG wantS_none (ex_move rfl) rfl ?_
    refine Run.opG wantS_none (ex_extract rfl rfl) rfl ?_
    refine Run.opG wantS_none (ex_extract rfl rfl) rfl ?_
    refine Run.opG wantS_none (ex_assign rfl) rfl ?_
    refine Run.opG wantS_none (ex_assign rfl) rfl ?_
    refine Run.opsEnd (Run.seq (Run.region ?_))
    refine Run.opG wantS_none (ex_move rfl) rfl ?_
    refine Run.opG wantS_none (ex_move rfl) rfl ?_
    refine Run.opG wantS_none (ex_eql rfl rfl) rfl ?_
    refine Run.opG wantS_none (ex_move rfl) rfl ?_
    rcases btf ((r29.1 == r31.1)) with hc33 | hc33
    · have h := bif_t hc33 h
      refine Run.opG (wantS_yes' rfl rfl hc33) (ex_move rfl) rfl ?_
      refine Run.opG (wantS_yes' rfl rfl hc33) (ex_move rfl) rfl ?_
      refine Run.opG (wantS_yes' rfl rfl hc33) (ex_eql rfl rfl) rfl ?_
      refine Run.opG wantS_none (ex_pickT' rfl hc33 rfl rfl) rfl ?_
      exact Run.pick [71] (law06_GlitchTransforms_3_ok F (r29.2 == r31.2) _ _ _ hH h)
    · have h := bif_f hc33 h
      refine Run.no (wantS_not' rfl rfl hc33) rfl ?_
      refine Run.no (wantS_not' rfl rfl hc33) rfl ?_
      refine Run.no (wantS_not' rfl rfl hc33) rfl ?_
      refine Run.opG wantS_none (ex_pickF' rfl hc33 rfl rfl) rfl ?_
      exact Run.pick [71] (law06_GlitchTransforms_3_ok F false _ _ _ hH h)

def law06_GlitchTransforms_1 (F : Nat) (v0 : (List Int)) (v1 : (List Int)) (v34 : Bool) : Option (Bool) :=
  bif v34 then
    some false
  else
    bnd (glitch_Inverse F v1) fun r19 =>
    bnd (ref06_Inverse_c F v1) fun r22 =>
    bnd (ref00_SameInts F r19.1 r22.1) fun r25 =>
    bif (!r25) then
      law06_GlitchTransforms_2 F v0 true
    else
      law06_GlitchTransforms_2 F v0 (!(r19.2 == r22.2))

theorem law06_GlitchTransforms_1_ok (F : Nat) : ∀ (v0 : (List Int)) (v1 : (List Int)) (v34 : Bool) (sv0 : SV) (sv1 : SV) (Fr : Rd) (M : Mem) (r : Bool) (hv0 : Slc Fr 1 (FlatR enc3) sv0 v0) (kv0 : clo sv0 = true) (hv1 : Slc Fr 1 (FlatR enc3) sv1 v1) (kv1 : clo sv1 = true) (hH : Has Fr M [tb0, tb1, tb2]), law06_GlitchTransforms_1 F v0 v1 v34 = some r → Run Tryz.prog ⟨⟨3, [], none⟩, []⟩ 75 (law06_GlitchTransforms_post r) [(0, sv0), (1, sv1), (34, (.bool v34))] [codeC Tryz.prog 3 [1, 1, 1, 1, 0, 1], codeC Tryz.prog 3 [1, 1, 1, 1, 1]] M := by
  intro v0 v1 v34 sv0 sv1 Fr M r hv0 kv0 hv1 kv1 hH h
  rw [law06_GlitchTransforms_1] at h
  rcases btf (v34) with hc18 | hc18
  · have h := bif_t hc18 h
    refine Run.condT' rfl hc18 ?_
    refine Run.seq (Run.region ?_)
    refine Run.opG wantS_none (ex_assign rfl) rfl ?_
    refine Run.opsEnd ?_
    cases h
    exact Run.ret Tryz.func3 rfl (res_tmp rfl res_nil) rfl
  · have h := bif_f hc18 h
    refine Run.condF' rfl hc18 ?_
    refine Run.skip (Run.seq (Run.region ?_))
    refine Run.opG wantS_none (ex_move rfl) rfl ?_
    obtain ⟨r19, hr19, h⟩ := bnd_some h
    refine Run.callX wantS_none (ex_call rfl mkk20 cal20) rfl (glitch_Inverse_ok F v1 sv1 _ _ (hH.slcF hv1) hr19) ?_
    rintro _ M21 ⟨s19_0, rfl, hN19⟩
    have hH21 : Has Fr M21 [.vec 3 1 r19.1.length s19_0 (r19.1.flatMap enc3), tb0, tb1, tb2] := hN19 _ _ hH
    refine Run.opG wantS_none (ex_move rfl) rfl ?_
    refine Run.opG wantS_none (ex_extract rfl rfl) rfl ?_
    refine Run.opG wantS_none (ex_extract rfl rfl) rfl ?_
    refine Run.opG wantS_none (ex_assign rfl) rfl ?_
    refine Run.opG wantS_none (ex_assign rfl) rfl ?_
    refine Run.opsEnd (Run.seq (Run.region ?_))
    refine Run.opG wantS_none (ex_move rfl) rfl ?_
    obtain ⟨r22, hr22, h⟩ := bnd_some h
    refine Run.callX wantS_none (ex_call rfl mkk21 cal21) rfl (ref06_Inverse_c_ok F v1 sv1 _ _ (hH21.slcF hv1) kv1 hr22) ?_
    rintro _ M24 ⟨s22_0, rfl, hN22⟩
    have hH24 : Has Fr M24 [.vec 3 1 r22.1.length s22_0 (r22.1.flatMap enc3), .vec 3 1 r19.1.length s19_0 (r19.1.flatMap enc3), tb0, tb1, tb2] := hN22 _ _ hH21
    refine Run.opG wantS_none (ex_move rfl) rfl ?_
    refine Run.opG wantS_none (ex_extract rfl rfl) rfl ?_
    refine Run.opG wantS_none (ex_extract rfl rfl) rfl ?_
    refine Run.opG wantS_none (ex_assign rfl) rfl ?_
    refine Run.opG wantS_none (ex_assign rfl) rfl ?_
    refine Run.opsEnd (Run.seq (Run.seq (Run.region ?_)))
    refine Run.opG wantS_none (ex_move rfl) rfl ?_
    refine Run.opG wantS_none (ex_move rfl) rfl ?_
    obtain ⟨r25, hr25, h⟩ := bnd_some h
    refine Run.callP wantS_none (ex_call rfl mkk19 cal19) rfl (ref00_SameInts_ok F r19.1 r22.1 s19_0 s22_0 _ _ (hH24.slc (i := 1) rfl enc3_len) (hH24.slc (i := 0) rfl enc3_len) hr25) ?_
    refine Run.opG wantS_none (ex_not rfl) rfl ?_
    refine Run.opG wantS_none (ex_move rfl) rfl ?_
    rcases btf ((!r25)) with hc27 | hc27
    · have h := bif_t hc27 h
      refine Run.no (wantS_not' rfl rfl hc27) rfl ?_
      refine Run.no (wantS_not' rfl rfl hc27) rfl ?_
      refine Run.no (wantS_not' rfl rfl hc27) rfl ?_
      refine Run.opG wantS_none (ex_pickT' rfl hc27 rfl rfl) rfl ?_
      refine Run.opsEnd ?_
      exact Run.pick [0, 53] (law06_GlitchTransforms_2_ok F v0 true sv0 _ _ _ hv0 kv0 (hH24.pick [2, 3, 4] rfl rfl) h)
    · have h := bif_f hc27 h
      refine Run.opG (wantS_yes' rfl rfl hc27) (ex_move rfl) rfl ?_
      refine Run.opG (wantS_yes' rfl rfl hc27) (ex_move rfl) rfl ?_
      refine Run.opG (wantS_yes' rfl rfl hc27) (ex_neq rfl rfl) rfl ?_
      refine Run.opG wantS_none (ex_pickF' rfl hc27 rfl rfl) rfl ?_
      refine Run.opsEnd ?_
      exact Run.pick [0, 53] (law06_GlitchTransforms_2_ok F v0 (!(r19.2 == r22.2)) sv0 _ _ _ hv0 kv0 (hH24.pick [2, 3, 4] rfl rfl) h)

def law06_GlitchTransforms (F : Nat) (a0 : (List Int)) (a1 : (List Int)) : Option (Bool) :=
  bnd (glitch_CheckSignal F a0) fun r4 =>
  bnd (ref06_CheckSignal F a0) fun r6 =>
  bif (!(r4 == r6)) then
    some false
  else
    bnd (glitch_Transform F a0) fun r9 =>
    bnd (ref06_Transform F a0) fun r12 =>
    bnd (ref00_SameInts F r9.1 r12.1) fun r15 =>
    bif (!r15) then
      law06_GlitchTransforms_1 F a0 a1 true
    else
      law06_GlitchTransforms_1 F a0 a1 (!(r9.2 == r12.2))

theorem law06_GlitchTransforms_run (F : Nat) (a0 : (List Int)) (a1 : (List Int)) (s0 s1 : SV) (r : Bool) (M : Mem) (hs0 : Slc (rd M) 1 (FlatR enc3) s0 a0) (hs1 : Slc (rd M) 1 (FlatR enc3) s1 a1) (ks0 : clo s0 = true) (ks1 : clo s1 = true) (hfx : FixIn M fixes) (h : law06_GlitchTransforms F a0 a1 = some r) : Run Tryz.prog (fx0 3) 75 (law06_GlitchTransforms_post r) [(0, s0), (1, s1)] [codeC Tryz.prog 3 []] (frozen M) := by
  rw [law06_GlitchTransforms] at h
  replace hs0 := hs0.mono (rdLe_frozen M) (fun _ _ h => h)
  replace hs1 := hs1.mono (rdLe_frozen M) (fun _ _ h => h)
  have hH : Has (ro (frozen M)) (frozen M) [tb0, tb1, tb2] := Has.ofFix hfx.frozen
  refine Run.seq (Run.region ?_)
  refine Run.opG wantS_none (ex_assign rfl) rfl ?_
  refine Run.opsEnd (Run.seq (Run.seq (Run.region ?_)))
  refine Run.opG wantS_none (ex_move rfl) rfl ?_
  obtain ⟨r4, hr4, h⟩ := bnd_some h
  refine Run.callP wantS_none (ex_call rfl mkk15 cal15) rfl (glitch_CheckSignal_ok F a0 s0 _ _ (hH.slcF hs0) hr4) ?_
  refine Run.opG wantS_none (ex_move rfl) rfl ?_
  obtain ⟨r6, hr6, h⟩ := bnd_some h
  refine Run.callP wantS_none (ex_call rfl mkk16 cal16) rfl (ref06_CheckSignal_ok F a0 s0 _ _ (hH.slcF hs0) hr6) ?_
  refine Run.opG wantS_none (ex_neq rfl rfl) rfl ?_
  refine Run.opsEnd ?_
  rcases btf ((!(r4 == r6))) with hc8 | hc8
  · have h := bif_t hc8 h
    refine Run.condT' rfl hc8 ?_
    refine Run.seq (Run.region ?_)
    refine Run.opG wantS_none (ex_assign rfl) rfl ?_
    refine Run.opsEnd ?_
    cases h
    exact Run.ret Tryz.func3 rfl (res_tmp rfl res_nil) rfl
  · have h := bif_f hc8 h
    refine Run.condF' rfl hc8 ?_
    refine Run.skip (Run.seq (Run.region ?_))
    refine Run.opG wantS_none (ex_move rfl) rfl ?_
    obtain ⟨r9, hr9, h⟩ := bnd_some h
    refine Run.callX wantS_none (ex_call rfl mkk17 cal17) rfl (glitch_Transform_ok F a0 s0 _ _ (hH.slcF hs0) hr9) ?_
    rintro _ M11 ⟨s9_0, rfl, hN9⟩
    have hH11 : Has (ro (frozen M)) M11 [.vec 3 1 r9.1.length s9_0 (r9.1.flatMap enc3), tb0, tb1, tb2] := hN9 _ _ hH
    refine Run.opG wantS_none (ex_move rfl) rfl ?_
    refine Run.opG wantS_none (ex_extract rfl rfl) rfl ?_
    refine Run.opG wantS_none (ex_extract rfl rfl) rfl ?_
    refine Run.opG wantS_none (ex_assign rfl) rfl ?_
    refine Run.opG wantS_none (ex_assign rfl) rfl ?_
    refine Run.opsEnd (Run.seq (Run.region ?_))
    refine Run.opG wantS_none (ex_move rfl) rfl ?_
    obtain ⟨r12, hr12, h⟩ := bnd_some h
    refine Run.callX wantS_none (ex_call rfl mkk18 cal18) rfl (ref06_Transform_ok F a0 s0 _ _ (hH11.slcF hs0) hr12) ?_
    rintro _ M14 ⟨s12_0, rfl, hN12⟩
    have hH14 : Has (ro (frozen M)) M14 [.vec 3 1 r12.1.length s12_0 (r12.1.flatMap enc3), .vec 3 1 r9.1.length s9_0 (r9.1.flatMap enc3), tb0, tb1, tb2] := hN12 _ _ hH11
    refine Run.opG wantS_none (ex_move rfl) rfl ?_
    refine Run.opG wantS_none (ex_extract rfl rfl) rfl ?_
    refine Run.opG wantS_none (ex_extract rfl rfl) rfl ?_
    refine Run.opG wantS_none (ex_assign rfl) rfl ?_
    refine Run.opG wantS_none (ex_assign rfl) rfl ?_
    refine Run.opsEnd (Run.seq (Run.seq (Run.region ?_)))
    refine Run.opG wantS_none (ex_move rfl) rfl ?_
    refine Run.opG wantS_none (ex_move rfl) rfl ?_
    obtain ⟨r15, hr15, h⟩ := bnd_some h
    refine Run.callP wantS_none (ex_call rfl mkk19 cal19) rfl (ref00_SameInts_ok F r9.1 r12.1 s9_0 s12_0 _ _ (hH14.slc (i := 1) rfl enc3_len) (hH14.slc (i := 0) rfl enc3_len) hr15) ?_
    refine Run.opG wantS_none (ex_not rfl) rfl ?_
    refine Run.opG wantS_none (ex_move rfl) rfl ?_
    rcases btf ((!r15)) with hc17 | hc17
    · have h := bif_t hc17 h
      refine Run.no (wantS_not' rfl rfl hc17) rfl ?_
      refine Run.no (wantS_not' rfl rfl hc17) rfl ?_
      refine Run.no (wantS_not' rfl rfl hc17) rfl ?_
      refine Run.opG wantS_none (ex_pickT' rfl hc17 rfl rfl) rfl ?_
      refine Run.opsEnd ?_
      exact Run.pick [0, 1, 34] (law06_GlitchTransforms_1_ok F a0 a1 true s0 s1 _ _ _ hs0 ks0 hs1 ks1 (hH14.pick [2, 3, 4] rfl rfl) h)
    · have h := bif_f hc17 h
      refine Run.opG (wantS_yes' rfl rfl hc17) (ex_move rfl) rfl ?_
      refine Run.opG (wantS_yes' rfl rfl hc17) (ex_move rfl) rfl ?_
      refine Run.opG (wantS_yes' rfl rfl hc17) (ex_neq rfl rfl) rfl ?_
      refine Run.opG wantS_none (ex_pickF' rfl hc17 rfl rfl) rfl ?_
      refine Run.opsEnd ?_
      exact Run.pick [0, 1, 34] (law06_GlitchTransforms_1_ok F a0 a1 (!(r9.2 == r12.2)) s0 s1 _ _ _ hs0 ks0 hs1 ks1 (hH14.pick [2, 3, 4] rfl rfl) h)

end Go.Ev.GlitchTransforms
