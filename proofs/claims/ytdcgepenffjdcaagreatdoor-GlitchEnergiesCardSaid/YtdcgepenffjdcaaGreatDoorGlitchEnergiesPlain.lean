/- Plain functions that say what functions of the program come to, and proofs of it, written by a program of the verifier's own. -/
import Derived.Test.YtdcgepenffjdcaaGreatDoorEvL8
import Derived.Test.YtdcgepenffjdcaaGreatDoorWorks
import Derived.KernelRfl
namespace Go.Ev.GlitchEnergies
open Go Go.Ev Go.Proofs
set_option maxRecDepth 100000
set_option linter.unusedVariables false

/-- The listed tables. -/
noncomputable def fixes : List (Nat × List SV) := Go.Proofs.YtdcgepenffjdcaaGreatDoor.works.fixes
noncomputable def tb0 : Ent := fixE (2, intCells .u8 [0, 1, 56, 2, 57, 49, 28, 3, 61, 58, 42, 50, 38, 29, 17, 4, 62, 47, 59, 36, 45, 43, 51, 22, 53, 39, 33, 30, 24, 18, 12, 5, 63, 55, 48, 27, 60, 41, 37, 16, 46, 35, 44, 21, 52, 32, 23, 11, 54, 26, 40, 15, 34, 20, 31, 10, 25, 14, 19, 9, 13, 8, 7, 6])
noncomputable def tb1 : Ent := fixE (5, intCells .u8 [0, 1, 28, 2, 29, 14, 24, 3, 30, 22, 20, 15, 25, 17, 4, 8, 31, 27, 13, 23, 21, 19, 16, 7, 26, 12, 18, 6, 11, 5, 10, 9])
noncomputable def tb2 : Ent := fixE (4, intCells .u64 [1, 10, 100, 1000, 10000, 100000, 1000000, 10000000, 100000000, 1000000000, 10000000000, 100000000000, 1000000000000, 10000000000000, 100000000000000, 1000000000000000, 10000000000000000, 100000000000000000, 1000000000000000000, 10000000000000000000])
/-- works() comes to true. -/
def works (_ : Nat) : Option Bool := some true
theorem works_ok (F : Nat) (r : Bool) {Fr : Rd} {H : List Ent} (M : Mem) (hH : Has Fr M H) (h0 : tb0 ∈ H) (h1 : tb1 ∈ H) (h2 : tb2 ∈ H) (h : works F = some r) : CallsM Tryz.prog 24 [] M fun s M' => s = .bool r ∧ M' = M := by
  cases h
  refine CallsM.closedFix (n := 300) (l := Go.Proofs.YtdcgepenffjdcaaGreatDoor.works.fixes) Go.Proofs.YtdcgepenffjdcaaGreatDoor.works.below Go.Proofs.YtdcgepenffjdcaaGreatDoor.works.plainF Go.Proofs.YtdcgepenffjdcaaGreatDoor.works.works_true (hH.fixIn fun x hx => ?_)
  simp only [Go.Proofs.YtdcgepenffjdcaaGreatDoor.works.fixes, List.mem_cons, List.not_mem_nil, or_false] at hx
  rcases hx with rfl | rfl | rfl
  · exact h0
  · exact h1
  · exact h2


def enc3 (a : Int) : List SV := [(.int .i64 a)]
theorem enc3_len (a : Int) : (enc3 a).length = 1 := rfl
theorem enc3_ones (a : Int) : ones (enc3 a) = true := rfl
theorem lenk22 : lenK Tryz.prog 22 = some .sl := by kernel_rfl
abbrev glitch_isFrom_post (r : Bool) : SV → Mem → Prop := fun s _ => s = (.bool r)

def glitch_isFrom_1 (F : Nat) (v14 : Bool) : Option (Bool) :=
  some v14

theorem glitch_isFrom_1_ok (F : Nat) : ∀ (v14 : Bool) (Fr : Rd) (M : Mem) (r : Bool) (hH : Has Fr M []), glitch_isFrom_1 F v14 = some r → Run Tryz.prog ⟨⟨98, [], none⟩, []⟩ 15 (glitch_isFrom_post r) [(14, (.bool v14))] [itemC Tryz.prog 98 [1, 0] 8, codeC Tryz.prog 98 [1, 1]] M := by
  intro v14 Fr M r hH h
  rw [glitch_isFrom_1] at h
  refine Run.opG wantS_none (ex_assign rfl) rfl ?_
  refine Run.opsEnd ?_
  cases h
  exact Run.ret Tryz.func98 rfl (res_tmp rfl res_nil) rfl

def glitch_isFrom (F : Nat) (a0 : Int) (a1 : Int) (a2 : Int) : Option (Bool) :=
  bif (decide (a0 ≤ a1)) then
    glitch_isFrom_1 F (decide (a1 ≤ a2))
  else
    glitch_isFrom_1 F false

theorem glitch_isFrom_ok (F : Nat) (a0 : Int) (a1 : Int) (a2 : Int) (r : Bool) (M : Mem) (h : glitch_isFrom F a0 a1 a2 = some r) : CallsM Tryz.prog 98 [(.int .i64 a0), (.int .i64 a1), (.int .i64 a2)] M (fun s M' => s = (.bool r) ∧ M' = M) := by
  refine CallsM.plain Tryz.func98 rfl rfl rfl (show Run _ _ _ (glitch_isFrom_post r) _ _ _ from ?_)
  rw [glitch_isFrom] at h
  have hH := Has.nil (frozen M)
  refine Run.seq (Run.region ?_)
  refine Run.opG wantS_none (ex_assign rfl) rfl ?_
  refine Run.opsEnd (Run.seq (Run.region ?_))
  refine Run.opG wantS_none (ex_move rfl) rfl ?_
  refine Run.opG wantS_none (ex_move rfl) rfl ?_
  refine Run.opG wantS_none (ex_leq rfl rfl) rfl ?_
  refine Run.opG wantS_none (ex_move rfl) rfl ?_
  rcases btf ((decide (a0 ≤ a1))) with hc1 | hc1
  · have h := bif_t hc1 h
    refine Run.opG (wantS_yes' rfl rfl hc1) (ex_move rfl) rfl ?_
    refine Run.opG (wantS_yes' rfl rfl hc1) (ex_move rfl) rfl ?_
    refine Run.opG (wantS_yes' rfl rfl hc1) (ex_leq rfl rfl) rfl ?_
    refine Run.opG wantS_none (ex_pickT' rfl hc1 rfl rfl) rfl ?_
    exact Run.pick [14] (glitch_isFrom_1_ok F (decide (a1 ≤ a2)) _ _ _ hH h)
  · have h := bif_f hc1 h
    refine Run.no (wantS_not' rfl rfl hc1) rfl ?_
    refine Run.no (wantS_not' rfl rfl hc1) rfl ?_
    refine Run.no (wantS_not' rfl rfl hc1) rfl ?_
    refine Run.opG wantS_none (ex_pickF' rfl hc1 rfl rfl) rfl ?_
    exact Run.pick [14] (glitch_isFrom_1_ok F false _ _ _ hH h)

theorem mkk98 : makeK Tryz.prog 98 = none := by kernel_rfl
theorem cal98 : callable Tryz.prog 98 = true := by kernel_rfl
abbrev glitch_isLength_post (r : Bool) : SV → Mem → Prop := fun s _ => s = (.bool r)

def glitch_isLength_1 (F : Nat) (v11 : Bool) : Option (Bool) :=
  some v11

theorem glitch_isLength_1_ok (F : Nat) : ∀ (v11 : Bool) (Fr : Rd) (M : Mem) (r : Bool) (hH : Has Fr M []), glitch_isLength_1 F v11 = some r → Run Tryz.prog ⟨⟨90, [], none⟩, []⟩ 12 (glitch_isLength_post r) [(11, (.bool v11))] [itemC Tryz.prog 90 [1, 0] 9, codeC Tryz.prog 90 [1, 1]] M := by
  intro v11 Fr M r hH h
  rw [glitch_isLength_1] at h
  refine Run.opG wantS_none (ex_assign rfl) rfl ?_
  refine Run.opsEnd ?_
  cases h
  exact Run.ret Tryz.func90 rfl (res_tmp rfl res_nil) rfl

def glitch_isLength (F : Nat) (a0 : Int) : Option (Bool) :=
  bnd (glitch_isFrom F (1 : Int) a0 (1024 : Int)) fun r1 =>
  bif r1 then
    bnd (bitZ Nat.land .i64 a0 (w64 (a0 - (1 : Int)))) fun z4 =>
    glitch_isLength_1 F (z4 == (0 : Int))
  else
    glitch_isLength_1 F false

theorem glitch_isLength_ok (F : Nat) (a0 : Int) (r : Bool) (M : Mem) (h : glitch_isLength F a0 = some r) : CallsM Tryz.prog 90 [(.int .i64 a0)] M (fun s M' => s = (.bool r) ∧ M' = M) := by
  refine CallsM.plain Tryz.func90 rfl rfl rfl (show Run _ _ _ (glitch_isLength_post r) _ _ _ from ?_)
  rw [glitch_isLength] at h
  have hH := Has.nil (frozen M)
  refine Run.seq (Run.region ?_)
  refine Run.opG wantS_none (ex_assign rfl) rfl ?_
  refine Run.opsEnd (Run.seq (Run.region ?_))
  refine Run.opG wantS_none (ex_move rfl) rfl ?_
  obtain ⟨r1, hr1, h⟩ := bnd_some h
  refine Run.callP wantS_none (ex_call rfl mkk98 cal98) rfl (glitch_isFrom_ok F (1 : Int) a0 (1024 : Int) _ _ hr1) ?_
  refine Run.opG wantS_none (ex_move rfl) rfl ?_
  rcases btf (r1) with hc3 | hc3
  · have h := bif_t hc3 h
    refine Run.opG (wantS_yes' rfl rfl hc3) (ex_move rfl) rfl ?_
    refine Run.opG (wantS_yes' rfl rfl hc3) (ex_move rfl) rfl ?_
    refine Run.opG (wantS_yes' rfl rfl hc3) (ex_sub rfl rfl) rfl ?_
    obtain ⟨z4, hz4, h⟩ := bnd_some h
    refine Run.opG (wantS_yes' rfl rfl hc3) (ex_and rfl rfl hz4) rfl ?_
    refine Run.opG (wantS_yes' rfl rfl hc3) (ex_eql rfl rfl) rfl ?_
    refine Run.opG wantS_none (ex_pickT' rfl hc3 rfl rfl) rfl ?_
    exact Run.pick [11] (glitch_isLength_1_ok F (z4 == (0 : Int)) _ _ _ hH h)
  · have h := bif_f hc3 h
    refine Run.no (wantS_not' rfl rfl hc3) rfl ?_
    refine Run.no (wantS_not' rfl rfl hc3) rfl ?_
    refine Run.no (wantS_not' rfl rfl hc3) rfl ?_
    refine Run.no (wantS_not' rfl rfl hc3) rfl ?_
    refine Run.no (wantS_not' rfl rfl hc3) rfl ?_
    refine Run.opG wantS_none (ex_pickF' rfl hc3 rfl rfl) rfl ?_
    exact Run.pick [11] (glitch_isLength_1_ok F false _ _ _ hH h)

theorem mkk90 : makeK Tryz.prog 90 = none := by kernel_rfl
theorem cal90 : callable Tryz.prog 90 = true := by kernel_rfl
theorem els22 : elems Tryz.prog 22 = some (.sl 1) := by kernel_rfl
theorem agg3 : aggSize Tryz.prog 3 = some none := by kernel_rfl
abbrev glitch_areFrom_post (r : Bool) : SV → Mem → Prop := fun s _ => s = (.bool r)

def glitch_areFrom_1 (F : Nat) : Nat → Int → (List Int) → Int → Int → Option (Bool)
  | 0, _, _, _, _ => none
  | N + 1, v1, v7, v8, v9 =>
    bif (decide (v9 < v8)) then
      bnd (idx v7 v9) fun x2 =>
      bnd (glitch_isFrom F (w64 (-v1)) x2 v1) fun r3 =>
      bif (!r3) then
        some false
      else
        (glitch_areFrom_1 F N) v1 v7 v8 (w64 (v9 + (1 : Int)))
    else
      some true

theorem glitch_areFrom_1_ok (F : Nat) : ∀ (N : Nat), ∀ (v1 : Int) (v7 : (List Int)) (v8 : Int) (v9 : Int) (sv7 : SV) (Fr : Rd) (M : Mem) (r : Bool) (hv7 : Slc Fr 1 (FlatR enc3) sv7 v7) (hH : Has Fr M []), glitch_areFrom_1 F N v1 v7 v8 v9 = some r → Run Tryz.prog ⟨⟨91, [], none⟩, []⟩ 20 (glitch_areFrom_post r) [(1, (.int .i64 v1)), (7, sv7), (8, (.int .i64 v8)), (9, (.int .i64 v9))] [codeC Tryz.prog 91 [1, 0, 1, 0, 0], loopC Tryz.prog 91 [1, 0, 1, 0, 0], .inBlock 0, codeC Tryz.prog 91 [1, 1]] M := by
  intro N
  induction N with
  | zero =>
    intro v1 v7 v8 v9 sv7 Fr M r hv7 hH h
    simp [glitch_areFrom_1] at h
  | succ N ih =>
    intro v1 v7 v8 v9 sv7 Fr M r hv7 hH h
    rw [glitch_areFrom_1] at h
    refine Run.seq (Run.region ?_)
    refine Run.opG wantS_none (ex_lss rfl rfl) rfl ?_
    refine Run.opsEnd (Run.seq ?_)
    rcases btf ((decide (v9 < v8))) with hc1 | hc1
    · have h := bif_t hc1 h
      refine Run.condT' rfl hc1 ?_
      refine Run.skip (Run.seq (Run.block (Run.seq (Run.region ?_))))
      obtain ⟨x2, hx2, h⟩ := bnd_some h
      obtain ⟨p2, o2, _, hx2, hp2, rfl⟩ := sl_elem (P := Tryz.prog) (t := 22) (kk := .i64) hv7 hx2 els22
      refine Run.opG wantS_none (ex_elX rfl rfl hx2) rfl ?_
      refine Run.opG wantS_none (ex_load1 rfl (hH.ptrF hp2) rdLe_rfl agg3) rfl ?_
      refine Run.opG wantS_none (ex_assign rfl) rfl ?_
      refine Run.opsEnd (Run.seq (Run.region ?_))
      refine Run.opG wantS_none (ex_move rfl) rfl ?_
      refine Run.opG wantS_none (ex_neg rfl) rfl ?_
      refine Run.opG wantS_none (ex_move rfl) rfl ?_
      refine Run.opG wantS_none (ex_move rfl) rfl ?_
      obtain ⟨r3, hr3, h⟩ := bnd_some h
      refine Run.callP wantS_none (ex_call rfl mkk98 cal98) rfl (glitch_isFrom_ok F (w64 (-v1)) x2 v1 _ _ hr3) ?_
      refine Run.opG wantS_none (ex_not rfl) rfl ?_
      refine Run.opsEnd ?_
      rcases btf ((!r3)) with hc5 | hc5
      · have h := bif_t hc5 h
        refine Run.condT' rfl hc5 ?_
        refine Run.seq (Run.region ?_)
        refine Run.opG wantS_none (ex_assign rfl) rfl ?_
        refine Run.opsEnd ?_
        cases h
        exact Run.ret Tryz.func91 rfl (res_tmp rfl res_nil) rfl
      · have h := bif_f hc5 h
        refine Run.condF' rfl hc5 ?_
        refine Run.skip (Run.inBlock (Run.region ?_))
        refine Run.opG wantS_none (ex_add rfl rfl) rfl ?_
        refine Run.opG wantS_none (ex_move rfl) rfl ?_
        refine Run.opsEnd (Run.inLoop ?_)
        exact Run.pick [1, 7, 8, 9] (ih v1 v7 v8 (w64 (v9 + (1 : Int))) sv7 _ _ _ hv7 hH h)
    · have h := bif_f hc1 h
      refine Run.condF' rfl hc1 ?_
      refine Run.exit rfl (Run.seq (Run.region ?_))
      refine Run.opG wantS_none (ex_assign rfl) rfl ?_
      refine Run.opsEnd ?_
      cases h
      exact Run.ret Tryz.func91 rfl (res_tmp rfl res_nil) rfl

def glitch_areFrom (F : Nat) (a0 : (List Int)) (a1 : Int) : Option (Bool) :=
  glitch_areFrom_1 F F a1 a0 (a0.length : Int) (0 : Int)

theorem glitch_areFrom_ok (F : Nat) (a0 : (List Int)) (a1 : Int) (s0 : SV) (r : Bool) (M : Mem) (hs0 : Slc (rd M) 1 (FlatR enc3) s0 a0) (h : glitch_areFrom F a0 a1 = some r) : CallsM Tryz.prog 91 [s0, (.int .i64 a1)] M (fun s M' => s = (.bool r) ∧ M' = M) := by
  refine CallsM.plain Tryz.func91 rfl rfl rfl (show Run _ _ _ (glitch_areFrom_post r) _ _ _ from ?_)
  rw [glitch_areFrom] at h
  replace hs0 := hs0.mono (rdLe_frozen M) (fun _ _ h => h)
  have hH := Has.nil (frozen M)
  refine Run.seq (Run.region ?_)
  refine Run.opG wantS_none (ex_assign rfl) rfl ?_
  refine Run.opsEnd (Run.seq (Run.seq (Run.region ?_)))
  refine Run.opG wantS_none (ex_move rfl) rfl ?_
  refine Run.opG wantS_none (ex_len' rfl hs0 lenk22) rfl ?_
  refine Run.opG wantS_none (ex_move rfl) rfl ?_
  refine Run.opsEnd (Run.block (Run.loop ?_))
  exact Run.pick [1, 7, 8, 9] (glitch_areFrom_1_ok F F a1 a0 (a0.length : Int) (0 : Int) s0 _ _ _ hs0 hH h)

theorem mkk91 : makeK Tryz.prog 91 = none := by kernel_rfl
theorem cal91 : callable Tryz.prog 91 = true := by kernel_rfl
abbrev glitch_isSignal_post (r : Bool) : SV → Mem → Prop := fun s _ => s = (.bool r)

def glitch_isSignal_1 (F : Nat) (v9 : Bool) : Option (Bool) :=
  some v9

theorem glitch_isSignal_1_ok (F : Nat) : ∀ (v9 : Bool) (Fr : Rd) (M : Mem) (r : Bool) (hH : Has Fr M []), glitch_isSignal_1 F v9 = some r → Run Tryz.prog ⟨⟨48, [], none⟩, []⟩ 10 (glitch_isSignal_post r) [(9, (.bool v9))] [itemC Tryz.prog 48 [1, 0] 7, codeC Tryz.prog 48 [1, 1]] M := by
  intro v9 Fr M r hH h
  rw [glitch_isSignal_1] at h
  refine Run.opG wantS_none (ex_assign rfl) rfl ?_
  refine Run.opsEnd ?_
  cases h
  exact Run.ret Tryz.func48 rfl (res_tmp rfl res_nil) rfl

def glitch_isSignal (F : Nat) (a0 : (List Int)) : Option (Bool) :=
  bnd (glitch_isLength F (a0.length : Int)) fun r1 =>
  bif r1 then
    bnd (glitch_areFrom F a0 (1048576 : Int)) fun r4 =>
    glitch_isSignal_1 F r4
  else
    glitch_isSignal_1 F false

theorem glitch_isSignal_ok (F : Nat) (a0 : (List Int)) (s0 : SV) (r : Bool) (M : Mem) (hs0 : Slc (rd M) 1 (FlatR enc3) s0 a0) (h : glitch_isSignal F a0 = some r) : CallsM Tryz.prog 48 [s0] M (fun s M' => s = (.bool r) ∧ M' = M) := by
  refine CallsM.plain Tryz.func48 rfl rfl rfl (show Run _ _ _ (glitch_isSignal_post r) _ _ _ from ?_)
  rw [glitch_isSignal] at h
  replace hs0 := hs0.mono (rdLe_frozen M) (fun _ _ h => h)
  have hH := Has.nil (frozen M)
  refine Run.seq (Run.region ?_)
  refine Run.opG wantS_none (ex_assign rfl) rfl ?_
  refine Run.opsEnd (Run.seq (Run.region ?_))
  refine Run.opG wantS_none (ex_move rfl) rfl ?_
  refine Run.opG wantS_none (ex_len' rfl hs0 lenk22) rfl ?_
  obtain ⟨r1, hr1, h⟩ := bnd_some h
  refine Run.callP wantS_none (ex_call rfl mkk90 cal90) rfl (glitch_isLength_ok F (a0.length : Int) _ _ hr1) ?_
  refine Run.opG wantS_none (ex_move rfl) rfl ?_
  rcases btf (r1) with hc3 | hc3
  · have h := bif_t hc3 h
    refine Run.opG (wantS_yes' rfl rfl hc3) (ex_move rfl) rfl ?_
    obtain ⟨r4, hr4, h⟩ := bnd_some h
    refine Run.callP (wantS_yes' rfl rfl hc3) (ex_call rfl mkk91 cal91) rfl (glitch_areFrom_ok F a0 (1048576 : Int) s0 _ _ (hH.slcF hs0) hr4) ?_
    refine Run.opG wantS_none (ex_pickT' rfl hc3 rfl rfl) rfl ?_
    exact Run.pick [9] (glitch_isSignal_1_ok F r4 _ _ _ hH h)
  · have h := bif_f hc3 h
    refine Run.no (wantS_not' rfl rfl hc3) rfl ?_
    refine Run.no (wantS_not' rfl rfl hc3) rfl ?_
    refine Run.opG wantS_none (ex_pickF' rfl hc3 rfl rfl) rfl ?_
    exact Run.pick [9] (glitch_isSignal_1_ok F false _ _ _ hH h)

theorem mkk48 : makeK Tryz.prog 48 = none := by kernel_rfl
theorem cal48 : callable Tryz.prog 48 = true := by kernel_rfl
theorem plan55_1_1_0_1_0_0_1_1_0_0_1 : planOf Tryz.prog (opsC (atC Tryz.prog 55 [1, 1, 0, 1, 0, 0, 1, 1, 0, 0, 1])) = some [.fl 0, .fl 1, .fl 2, .fl 3, .fl 4, .fl 5, .fl 6, .fl 7, .fl 8, .fl 9, .fl 10, .an 11 [], .sync] := by kernel_rfl
abbrev glitch_product_post (r : Int) : SV → Mem → Prop := fun s _ => s = (.int .i64 r)

def glitch_product_1 (F : Nat) : Nat → (List Int) → (List Int) → Int → Int → Int → Option (Int)
  | 0, _, _, _, _, _ => none
  | N + 1, v0, v1, v5, v8, v9 =>
    bif (decide (v9 < v8)) then
      bnd (idx v0 v9) fun x2 =>
      bnd (idx v1 v9) fun x3 =>
      (glitch_product_1 F N) v0 v1 (w64 (v5 + (w64 (x2 * x3)))) v8 (w64 (v9 + (1 : Int)))
    else
      some v5

theorem glitch_product_1_ok (F : Nat) : ∀ (N : Nat), ∀ (v0 : (List Int)) (v1 : (List Int)) (v5 : Int) (v8 : Int) (v9 : Int) (sv0 : SV) (sv1 : SV) (Fr : Rd) (M : Mem) (r : Int) (hv0 : Slc Fr 1 (FlatR enc3) sv0 v0) (hv1 : Slc Fr 1 (FlatR enc3) sv1 v1) (hH : Has Fr M []), glitch_product_1 F N v0 v1 v5 v8 v9 = some r → Run Tryz.prog ⟨⟨55, [], none⟩, []⟩ 25 (glitch_product_post r) [(0, sv0), (1, sv1), (5, (.int .i64 v5)), (8, (.int .i64 v8)), (9, (.int .i64 v9))] [codeC Tryz.prog 55 [1, 1, 0, 1, 0, 0], loopC Tryz.prog 55 [1, 1, 0, 1, 0, 0], .inBlock 0, codeC Tryz.prog 55 [1, 1, 1]] M := by
  intro N
  induction N with
  | zero =>
    intro v0 v1 v5 v8 v9 sv0 sv1 Fr M r hv0 hv1 hH h
    simp [glitch_product_1] at h
  | succ N ih =>
    intro v0 v1 v5 v8 v9 sv0 sv1 Fr M r hv0 hv1 hH h
    rw [glitch_product_1] at h
    refine Run.seq (Run.region ?_)
    refine Run.opG wantS_none (ex_lss rfl rfl) rfl ?_
    refine Run.opsEnd (Run.seq ?_)
    rcases btf ((decide (v9 < v8))) with hc1 | hc1
    · have h := bif_t hc1 h
      refine Run.condT' rfl hc1 ?_
      refine Run.skip (Run.seq (Run.block (Run.seq (Run.region ?_))))
      refine Run.opG wantS_none (ex_move rfl) rfl ?_
      refine Run.opG wantS_none (ex_assign rfl) rfl ?_
      refine Run.opsEnd ?_
      refine Run.drawG plan55_1_1_0_1_0_0_1_1_0_0_1 ?_
      refine DrawG.fl rfl (ev_ex wantS_none (ex_move rfl)) rfl ?_
      refine DrawG.fl rfl (ev_ex wantS_none (ex_move rfl)) rfl ?_
      refine DrawG.fl rfl (ev_ex wantS_none (ex_move rfl)) rfl ?_
      obtain ⟨x2, hx2, h⟩ := bnd_some h
      obtain ⟨p2, o2, _, hx2, hp2, rfl⟩ := sl_elem (P := Tryz.prog) (t := 22) (kk := .i64) hv0 hx2 els22
      refine DrawG.fl rfl (ev_ex wantS_none (ex_elX rfl rfl hx2)) rfl ?_
      refine DrawG.fl rfl (ev_ex wantS_none (ex_load1 rfl (hH.ptrF hp2) rdLe_rfl agg3)) rfl ?_
      refine DrawG.fl rfl (ev_ex wantS_none (ex_move rfl)) rfl ?_
      refine DrawG.fl rfl (ev_ex wantS_none (ex_move rfl)) rfl ?_
      obtain ⟨x3, hx3, h⟩ := bnd_some h
      obtain ⟨p3, o3, _, hx3, hp3, rfl⟩ := sl_elem (P := Tryz.prog) (t := 22) (kk := .i64) hv1 hx3 els22
      refine DrawG.fl rfl (ev_ex wantS_none (ex_elX rfl rfl hx3)) rfl ?_
      refine DrawG.fl rfl (ev_ex wantS_none (ex_load1 rfl (hH.ptrF hp3) rdLe_rfl agg3)) rfl ?_
      refine DrawG.fl rfl (ev_ex wantS_none (ex_mul rfl rfl)) rfl ?_
      refine DrawG.fl rfl (ev_ex wantS_none (ex_add rfl rfl)) rfl ?_
      refine DrawG.val rfl wantS_none (ex_assign rfl) rfl st_nil ?_
      refine DrawG.sync ?_
      refine DrawG.nil ?_
      refine Run.inBlock (Run.region ?_)
      refine Run.opG wantS_none (ex_add rfl rfl) rfl ?_
      refine Run.opG wantS_none (ex_move rfl) rfl ?_
      refine Run.opsEnd (Run.inLoop ?_)
      exact Run.pick [0, 1, 5, 8, 9] (ih v0 v1 (w64 (v5 + (w64 (x2 * x3)))) v8 (w64 (v9 + (1 : Int))) sv0 sv1 _ _ _ hv0 hv1 hH h)
    · have h := bif_f hc1 h
      refine Run.condF' rfl hc1 ?_
      refine Run.exit rfl (Run.seq (Run.region ?_))
      refine Run.opG wantS_none (ex_move rfl) rfl ?_
      refine Run.opG wantS_none (ex_assign rfl) rfl ?_
      refine Run.opsEnd ?_
      cases h
      exact Run.ret Tryz.func55 rfl (res_tmp rfl res_nil) rfl

def glitch_product (F : Nat) (a0 : (List Int)) (a1 : (List Int)) : Option (Int) :=
  glitch_product_1 F F a0 a1 (0 : Int) (a0.length : Int) (0 : Int)

theorem glitch_product_ok (F : Nat) (a0 : (List Int)) (a1 : (List Int)) (s0 s1 : SV) (r : Int) (M : Mem) (hs0 : Slc (rd M) 1 (FlatR enc3) s0 a0) (hs1 : Slc (rd M) 1 (FlatR enc3) s1 a1) (h : glitch_product F a0 a1 = some r) : CallsM Tryz.prog 55 [s0, s1] M (fun s M' => s = (.int .i64 r) ∧ M' = M) := by
  refine CallsM.plain Tryz.func55 rfl rfl rfl (show Run _ _ _ (glitch_product_post r) _ _ _ from ?_)
  rw [glitch_product] at h
  replace hs0 := hs0.mono (rdLe_frozen M) (fun _ _ h => h)
  replace hs1 := hs1.mono (rdLe_frozen M) (fun _ _ h => h)
  have hH := Has.nil (frozen M)
  refine Run.seq (Run.region ?_)
  refine Run.opG wantS_none (ex_assign rfl) rfl ?_
  refine Run.opsEnd (Run.seq (Run.region ?_))
  refine Run.opG wantS_none (ex_assign rfl) rfl ?_
  refine Run.opsEnd (Run.seq (Run.seq (Run.region ?_)))
  refine Run.opG wantS_none (ex_move rfl) rfl ?_
  refine Run.opG wantS_none (ex_len' rfl hs0 lenk22) rfl ?_
  refine Run.opG wantS_none (ex_move rfl) rfl ?_
  refine Run.opsEnd (Run.block (Run.loop ?_))
  exact Run.pick [0, 1, 5, 8, 9] (glitch_product_1_ok F F a0 a1 (0 : Int) (a0.length : Int) (0 : Int) s0 s1 _ _ _ hs0 hs1 hH h)

theorem mkk55 : makeK Tryz.prog 55 = none := by kernel_rfl
theorem cal55 : callable Tryz.prog 55 = true := by kernel_rfl
abbrev glitch_Energy_post (r : Int × Int) : SV → Mem → Prop := fun s _ => s = (.tuple [(.int .i64 r.1), (.int .i64 r.2)])

def glitch_Energy (F : Nat) (a0 : (List Int)) : Option (Int × Int) :=
  bnd (glitch_isSignal F a0) fun r1 =>
  bif (!r1) then
    some ((0 : Int), (60 : Int))
  else
    bnd (glitch_product F a0 a0) fun r4 =>
    some ((w64 ((a0.length : Int) * r4)), (0 : Int))

theorem glitch_Energy_ok (F : Nat) (a0 : (List Int)) (s0 : SV) (r : Int × Int) (M : Mem) (hs0 : Slc (rd M) 1 (FlatR enc3) s0 a0) (h : glitch_Energy F a0 = some r) : CallsM Tryz.prog 22 [s0] M (fun s M' => s = (.tuple [(.int .i64 r.1), (.int .i64 r.2)]) ∧ M' = M) := by
  refine CallsM.plain Tryz.func22 rfl rfl rfl (show Run _ _ _ (glitch_Energy_post r) _ _ _ from ?_)
  rw [glitch_Energy] at h
  replace hs0 := hs0.mono (rdLe_frozen M) (fun _ _ h => h)
  have hH := Has.nil (frozen M)
  refine Run.seq (Run.region ?_)
  refine Run.opG wantS_none (ex_assign rfl) rfl ?_
  refine Run.opG wantS_none (ex_assign rfl) rfl ?_
  refine Run.opsEnd (Run.seq (Run.seq (Run.region ?_)))
  refine Run.opG wantS_none (ex_move rfl) rfl ?_
  obtain ⟨r1, hr1, h⟩ := bnd_some h
  refine Run.callP wantS_none (ex_call rfl mkk48 cal48) rfl (glitch_isSignal_ok F a0 s0 _ _ (hH.slcF hs0) hr1) ?_
  refine Run.opG wantS_none (ex_not rfl) rfl ?_
  refine Run.opsEnd ?_
  rcases btf ((!r1)) with hc3 | hc3
  · have h := bif_t hc3 h
    refine Run.condT' rfl hc3 ?_
    refine Run.seq (Run.region ?_)
    refine Run.opG wantS_none (ex_assign rfl) rfl ?_
    refine Run.opG wantS_none (ex_assign rfl) rfl ?_
    refine Run.opsEnd ?_
    cases h
    exact Run.ret Tryz.func22 rfl (res_tmp rfl (res_tmp rfl res_nil)) rfl
  · have h := bif_f hc3 h
    refine Run.condF' rfl hc3 ?_
    refine Run.skip (Run.seq (Run.region ?_))
    refine Run.opG wantS_none (ex_move rfl) rfl ?_
    refine Run.opG wantS_none (ex_len' rfl hs0 lenk22) rfl ?_
    refine Run.opG wantS_none (ex_move rfl) rfl ?_
    refine Run.opG wantS_none (ex_move rfl) rfl ?_
    obtain ⟨r4, hr4, h⟩ := bnd_some h
    refine Run.callP wantS_none (ex_call rfl mkk55 cal55) rfl (glitch_product_ok F a0 a0 s0 s0 _ _ (hH.slcF hs0) (hH.slcF hs0) hr4) ?_
    refine Run.opG wantS_none (ex_mul rfl rfl) rfl ?_
    refine Run.opG wantS_none (ex_assign rfl) rfl ?_
    refine Run.opG wantS_none (ex_assign rfl) rfl ?_
    refine Run.opsEnd ?_
    cases h
    exact Run.ret Tryz.func22 rfl (res_tmp rfl (res_tmp rfl res_nil)) rfl

theorem mkk22 : makeK Tryz.prog 22 = none := by kernel_rfl
theorem cal22 : callable Tryz.prog 22 = true := by kernel_rfl
theorem mkk24 : makeK Tryz.prog 24 = none := by kernel_rfl
theorem cal24 : callable Tryz.prog 24 = true := by kernel_rfl
theorem eqk22 : eqK Tryz.prog 22 = some .slice := by kernel_rfl
theorem elt22 : sliceElt Tryz.prog 22 = some (⟨1, 8, [(.int .i64 0)], 3⟩ : Elt) := by kernel_rfl
theorem appt22_22 : appT Tryz.prog 22 22 = some (⟨1, 8, [(.int .i64 0)], 3⟩ : Elt) := by kernel_rfl
abbrev slices_Clone_post (r : (List Int)) : SV → Mem → Prop := fun s Me => ∃ q1, s = q1 ∧ Has (fun _ => none) Me [.vec 3 1 r.length q1 (r.flatMap enc3)]

def slices_Clone (F : Nat) (a0 : (List Int)) : Option ((List Int)) :=
  bnd (apd 8 ([] : List Int) a0) fun l6 =>
  some l6

theorem slices_Clone_ok (F : Nat) (a0 : (List Int)) (s0 : SV) (r : (List Int)) (M : Mem) (hs0 : Slc (rd M) 1 (FlatR enc3) s0 a0) (h : slices_Clone F a0 = some r) : CallsM Tryz.prog 92 [s0] M (fun s M' => ∃ q1, s = q1 ∧ New M M' [.vec 3 1 r.length q1 (r.flatMap enc3)]) := by
  refine CallsM.fresh (Q := slices_Clone_post r) Tryz.func92 rfl rfl ?_ (by rintro s Me ⟨q1, rfl, hx⟩ ha hw; exact ⟨_, rfl, New.of rfl hx ha hw⟩)
  rw [slices_Clone] at h
  replace hs0 := hs0.mono (rdLe_frozen M) (fun _ _ h => h)
  have hH := Has.nil (frozen M)
  refine Run.seq (Run.region ?_)
  refine Run.opG wantS_none (ex_assign rfl) rfl ?_
  refine Run.opsEnd (Run.seq (Run.seq (Run.region ?_)))
  refine Run.opG wantS_none (ex_move rfl) rfl ?_
  rcases slc_or hs0 with ⟨rfl, rfl⟩ | hn1
  · have h : (
      some ([] : List Int)
      ) = some r := h
    refine Run.opG wantS_none (ex_nilT rfl rfl eqk22) rfl ?_
    refine Run.opsEnd ?_
    refine Run.condT' rfl rfl ?_
    refine Run.seq (Run.region ?_)
    refine Run.opG wantS_none (ex_assign rfl) rfl ?_
    refine Run.opsEnd ?_
    have hH3 : Has (ro (frozen M)) (frozen M) [.vec 3 1 ([] : List Int).length .nils (([] : List Int).flatMap enc3)] := hH.nils 3 1
    cases h
    exact Run.ret Tryz.func92 rfl (res_tmp rfl res_nil) ⟨_, rfl, (hH3.pick [0] rfl rfl).upF (none_le _)⟩
  · refine Run.opG wantS_none (ex_nilF rfl hn1 rfl eqk22) rfl ?_
    refine Run.opsEnd ?_
    refine Run.condF' rfl rfl ?_
    refine Run.skip (Run.seq (Run.region ?_))
    refine Run.opX wantS_none rfl (ExG.built (enc := enc3) (l := ([] : List Int)) (z := 1) rfl elt22 rfl rfl rfl enc3_len hH) ?_
    rintro s4 M5 (hH5 : Has (ro (frozen M)) M5 [.vec 3 1 ([] : List Int).length s4 (([] : List Int).flatMap enc3)])
    refine Run.opG wantS_none (ex_move rfl) rfl ?_
    obtain ⟨l6, hl6, h⟩ := bnd_some h
    refine Run.opX wantS_none rfl (ExG.append rfl rfl hH5 (i := 0) rfl enc3_len rfl enc3_ones appt22_22 rfl (len_slc hs0) (first_slc hs0 (rdLe_roF hH5) enc3_len) hl6) ?_
    rintro s6 M8 (hH8 : Has (ro (frozen M)) M8 [.vec 3 1 l6.length s6 (l6.flatMap enc3)])
    refine Run.opG wantS_none (ex_assign rfl) rfl ?_
    refine Run.opsEnd ?_
    cases h
    exact Run.ret Tryz.func92 rfl (res_tmp rfl res_nil) ⟨_, rfl, (hH8.pick [0] rfl rfl).upF (none_le _)⟩

theorem mkk92 : makeK Tryz.prog 92 = none := by kernel_rfl
theorem cal92 : callable Tryz.prog 92 = true := by kernel_rfl
theorem zer22 : zerosOf Tryz.prog 22 = some [.nils] := by kernel_rfl
theorem sz22 : szOf Tryz.prog 22 = some 1 := by kernel_rfl
theorem mkk93 : makeK Tryz.prog 93 = none := by kernel_rfl
theorem cal93 : callable Tryz.prog 93 = true := by kernel_rfl
theorem agg22 : aggSize Tryz.prog 22 = some none := by kernel_rfl
theorem slk22 : slK Tryz.prog 22 = some (.sl 1) := by kernel_rfl
theorem sz3 : szOf Tryz.prog 3 = some 1 := by kernel_rfl
theorem plan93_1_1_0_0_1_1_0_0_1 : planOf Tryz.prog (opsC (atC Tryz.prog 93 [1, 1, 0, 0, 1, 1, 0, 0, 1])) = some [.fl 0, .fl 1, .fl 2, .fl 3, .fl 4, .fl 5, .fl 6, .fl 7, .fl 8, .fl 9, .fl 10, .fl 11, .fl 12, .fl 13, .fl 14, .fl 15, .fl 16, .fl 17, .fl 18, .fl 19, .fl 20, .fl 21, .fl 22, .fl 23, .fl 24, .fl 25, .fl 26, .fl 27, .fl 28, .fl 29, .fl 30, .an 31 [29, 5, 4, 3, 2], .fl 32, .an 33 [], .sync] := by kernel_rfl
abbrev glitch_transform_post (r : (List Int)) : SV → Mem → Prop := fun s Me => ∃ q1, s = q1 ∧ Has (fun _ => none) Me [.vec 3 1 r.length q1 (r.flatMap enc3)]

def glitch_transform_2 (F : Nat) (hd1 : Int → (List Int) → Option ((List Int))) : Nat → Int → Int → Int → Int → (List Int) → (List Int) → Option ((List Int))
  | 0, _, _, _, _, _, _ => none
  | N + 1, v0, v10, v11, v5_f1, l2, l10 =>
    bif (decide (v11 < v10)) then
      bnd (idx l10 (w64 ((2 : Int) * v11))) fun x13 =>
      bnd (idx l10 (w64 ((w64 ((2 : Int) * v11)) + (1 : Int)))) fun x14 =>
      bnd (idx l10 (w64 ((2 : Int) * v11))) fun x15 =>
      bnd (idx l10 (w64 ((w64 ((2 : Int) * v11)) + (1 : Int)))) fun x16 =>
      bnd (inn l2 v11) fun o17 =>
      bnd (upd l2 o17 (w64 (x13 + x14))) fun l18 =>
      bnd (inn l18 (w64 (v0 + v11))) fun o20 =>
      bnd (upd l18 o20 (w64 (x15 - x16))) fun l21 =>
      (glitch_transform_2 F hd1 N) v0 v10 (w64 (v11 + (1 : Int))) v5_f1 l21 l10
    else
      hd1 (w64 (Int.tdiv v5_f1 (2 : Int))) l2

theorem glitch_transform_2_ok (F : Nat) (hd1 : Int → (List Int) → Option ((List Int))) (hhd1 : ∀ (v5 : Int) (l2 : (List Int)) (b4 : Pos) (s2 : SV) (Fr : Rd) (M : Mem) (r : (List Int)) (hH : Has Fr M [.obj b4 (.row 22 .whole [s2]), .vec 3 1 l2.length s2 (l2.flatMap enc3)]), hd1 v5 l2 = some r → Run Tryz.prog ⟨⟨51, [], none⟩, []⟩ 20 (glitch_transform_post r) [(3, (.ptr b4 0)), (4, (.fn (.func 93) [] [(.ptr b4 0)])), (5, (.int .i64 v5))] [codeC Tryz.prog 51 [1, 1, 1, 0, 1, 0, 0], loopC Tryz.prog 51 [1, 1, 1, 0, 1, 0, 0], .inBlock 0, codeC Tryz.prog 51 [1, 1, 1, 1]] M) : ∀ (N : Nat), ∀ (v0 : Int) (v10 : Int) (v11 : Int) (v5_f1 : Int) (l2 : (List Int)) (l10 : (List Int)) (b4 : Pos) (s2 : SV) (s10 : SV) (Fr : Rd) (M : Mem) (r : (List Int)) (hH : Has Fr M [.obj b4 (.row 22 .whole [s2]), .vec 3 1 l2.length s2 (l2.flatMap enc3), .vec 3 1 l10.length s10 (l10.flatMap enc3)]), glitch_transform_2 F hd1 N v0 v10 v11 v5_f1 l2 l10 = some r → Run Tryz.prog ⟨⟨93, [], none⟩, [.mk ⟨51, [], none⟩ 20 (treeOf [(3, (.ptr b4 0)), (4, (.fn (.func 93) [] [(.ptr b4 0)])), (5, (.int .i64 v5_f1))]) [itemC Tryz.prog 51 [1, 1, 1, 0, 1, 0, 0, 1, 0, 0] 2, .inBlock 1, codeC Tryz.prog 51 [1, 1, 1, 0, 1, 0, 0, 1, 1], loopC Tryz.prog 51 [1, 1, 1, 0, 1, 0, 0], .inBlock 0, codeC Tryz.prog 51 [1, 1, 1, 1]]]⟩ 47 (glitch_transform_post r) [(0, (.int .i64 v0)), (1, (.ptr b4 0)), (3, s10), (10, (.int .i64 v10)), (11, (.int .i64 v11))] [codeC Tryz.prog 93 [1, 1, 0, 0], loopC Tryz.prog 93 [1, 1, 0, 0], .inBlock 0] M := by
  intro N
  induction N with
  | zero =>
    intro v0 v10 v11 v5_f1 l2 l10 b4 s2 s10 Fr M r hH h
    simp [glitch_transform_2] at h
  | succ N ih =>
    intro v0 v10 v11 v5_f1 l2 l10 b4 s2 s10 Fr M r hH h
    rw [glitch_transform_2] at h
    refine Run.seq (Run.region ?_)
    refine Run.opG wantS_none (ex_lss rfl rfl) rfl ?_
    refine Run.opsEnd (Run.seq ?_)
    rcases btf ((decide (v11 < v10))) with hc12 | hc12
    · have h := bif_t hc12 h
      refine Run.condT' rfl hc12 ?_
      refine Run.skip (Run.seq (Run.block (Run.seq (Run.region ?_))))
      refine Run.opG wantS_none (ex_move rfl) rfl ?_
      refine Run.opG wantS_none (ex_assign rfl) rfl ?_
      refine Run.opsEnd ?_
      refine Run.drawG plan93_1_1_0_0_1_1_0_0_1 ?_
      refine DrawG.fl rfl (ev_ex wantS_none (ex_load1 rfl (hH.cells (i := 0) rfl 0 rfl) rdLe_rfl agg22)) rfl ?_
      refine DrawG.fl rfl (ev_ex wantS_none (ex_move rfl)) rfl ?_
      refine DrawG.fl rfl (ev_ex wantS_none (ex_load1 rfl (hH.cells (i := 0) rfl 0 rfl) rdLe_rfl agg22)) rfl ?_
      refine DrawG.fl rfl (ev_ex wantS_none (ex_move rfl)) rfl ?_
      refine DrawG.fl rfl (ev_ex wantS_none (ex_move rfl)) rfl ?_
      refine DrawG.fl rfl (ev_ex wantS_none (ex_add rfl rfl)) rfl ?_
      refine DrawG.fl rfl (ev_ex wantS_none (ex_move rfl)) rfl ?_
      refine DrawG.fl rfl (ev_ex wantS_none (ex_move rfl)) rfl ?_
      refine DrawG.fl rfl (ev_ex wantS_none (ex_mul rfl rfl)) rfl ?_
      obtain ⟨x13, hx13, h⟩ := bnd_some h
      obtain ⟨p13, o13, hb13, hx13, he13⟩ := vec_elem (P := Tryz.prog) (t := 22) (kk := .i64) hH (i := 2) rfl hx13 els22
      refine DrawG.fl rfl (ev_ex wantS_none (ex_elX rfl rfl hx13)) rfl ?_
      refine DrawG.fl rfl (ev_ex wantS_none (ex_load1 rfl (hH.at (enc := enc3) (a := x13) (i := 2) rfl hb13 he13 enc3_len) rdLe_rfl agg3)) rfl ?_
      refine DrawG.fl rfl (ev_ex wantS_none (ex_move rfl)) rfl ?_
      refine DrawG.fl rfl (ev_ex wantS_none (ex_move rfl)) rfl ?_
      refine DrawG.fl rfl (ev_ex wantS_none (ex_mul rfl rfl)) rfl ?_
      refine DrawG.fl rfl (ev_ex wantS_none (ex_add rfl rfl)) rfl ?_
      obtain ⟨x14, hx14, h⟩ := bnd_some h
      obtain ⟨p14, o14, hb14, hx14, he14⟩ := vec_elem (P := Tryz.prog) (t := 22) (kk := .i64) hH (i := 2) rfl hx14 els22
      refine DrawG.fl rfl (ev_ex wantS_none (ex_elX rfl rfl hx14)) rfl ?_
      refine DrawG.fl rfl (ev_ex wantS_none (ex_load1 rfl (hH.at (enc := enc3) (a := x14) (i := 2) rfl hb14 he14 enc3_len) rdLe_rfl agg3)) rfl ?_
      refine DrawG.fl rfl (ev_ex wantS_none (ex_add rfl rfl)) rfl ?_
      refine DrawG.fl rfl (ev_ex wantS_none (ex_move rfl)) rfl ?_
      refine DrawG.fl rfl (ev_ex wantS_none (ex_move rfl)) rfl ?_
      refine DrawG.fl rfl (ev_ex wantS_none (ex_mul rfl rfl)) rfl ?_
      obtain ⟨x15, hx15, h⟩ := bnd_some h
      obtain ⟨p15, o15, hb15, hx15, he15⟩ := vec_elem (P := Tryz.prog) (t := 22) (kk := .i64) hH (i := 2) rfl hx15 els22
      refine DrawG.fl rfl (ev_ex wantS_none (ex_elX rfl rfl hx15)) rfl ?_
      refine DrawG.fl rfl (ev_ex wantS_none (ex_load1 rfl (hH.at (enc := enc3) (a := x15) (i := 2) rfl hb15 he15 enc3_len) rdLe_rfl agg3)) rfl ?_
      refine DrawG.fl rfl (ev_ex wantS_none (ex_move rfl)) rfl ?_
      refine DrawG.fl rfl (ev_ex wantS_none (ex_move rfl)) rfl ?_
      refine DrawG.fl rfl (ev_ex wantS_none (ex_mul rfl rfl)) rfl ?_
      refine DrawG.fl rfl (ev_ex wantS_none (ex_add rfl rfl)) rfl ?_
      obtain ⟨x16, hx16, h⟩ := bnd_some h
      obtain ⟨p16, o16, hb16, hx16, he16⟩ := vec_elem (P := Tryz.prog) (t := 22) (kk := .i64) hH (i := 2) rfl hx16 els22
      refine DrawG.fl rfl (ev_ex wantS_none (ex_elX rfl rfl hx16)) rfl ?_
      refine DrawG.fl rfl (ev_ex wantS_none (ex_load1 rfl (hH.at (enc := enc3) (a := x16) (i := 2) rfl hb16 he16 enc3_len) rdLe_rfl agg3)) rfl ?_
      refine DrawG.fl rfl (ev_ex wantS_none (ex_sub rfl rfl)) rfl ?_
      obtain ⟨o17, ho17, h⟩ := bnd_some h
      obtain ⟨p17, hb17, hx17⟩ := vec_place (P := Tryz.prog) (t := 22) (kk := .i64) hH (i := 1) rfl ho17 els22
      refine DrawG.fl rfl (ev_ex wantS_none (ex_elX rfl rfl hx17)) rfl ?_
      obtain ⟨l18, hl18, h⟩ := bnd_some h
      refine DrawG.opX rfl wantS_none rfl (ExG.storeEl rfl rfl hH (i := 1) rfl hb17 hl18 sz3 rfl enc3_len enc3_ones) ?_
      rintro _ M19 ⟨rfl, (hH19 : Has Fr M19 [.obj b4 (.row 22 .whole [s2]), .vec 3 1 l18.length s2 (l18.flatMap enc3), .vec 3 1 l10.length s10 (l10.flatMap enc3)])⟩
      refine ⟨(st_cons rfl (ev_ex wantS_none (ex_sub rfl rfl)) rfl rfl rfl (st_cons rfl (ev_ex wantS_none (ex_add rfl rfl)) rfl rfl rfl (st_cons rfl (ev_ex wantS_none (ex_move rfl)) rfl rfl rfl (st_cons rfl (ev_ex wantS_none (ex_move rfl)) rfl rfl rfl (st_cons rfl (ev_ex wantS_none (ex_load1 rfl (hH19.cells (i := 0) rfl 0 rfl) rdLe_rfl agg22)) rfl rfl (blk_self hH19 (i := 1) rfl) st_nil))))), ?_⟩
      obtain ⟨o20, ho20, h⟩ := bnd_some h
      obtain ⟨p20, hb20, hx20⟩ := vec_place (P := Tryz.prog) (t := 22) (kk := .i64) hH19 (i := 1) rfl ho20 els22
      refine DrawG.fl rfl (ev_ex wantS_none (ex_elX rfl rfl hx20)) rfl ?_
      obtain ⟨l21, hl21, h⟩ := bnd_some h
      refine DrawG.opX rfl wantS_none rfl (ExG.storeEl rfl rfl hH19 (i := 1) rfl hb20 hl21 sz3 rfl enc3_len enc3_ones) ?_
      rintro _ M22 ⟨rfl, (hH22 : Has Fr M22 [.obj b4 (.row 22 .whole [s2]), .vec 3 1 l21.length s2 (l21.flatMap enc3), .vec 3 1 l10.length s10 (l10.flatMap enc3)])⟩
      refine ⟨st_nil, ?_⟩
      refine DrawG.sync ?_
      refine DrawG.nil ?_
      refine Run.inBlock (Run.region ?_)
      refine Run.opG wantS_none (ex_add rfl rfl) rfl ?_
      refine Run.opG wantS_none (ex_move rfl) rfl ?_
      refine Run.opsEnd (Run.inLoop ?_)
      exact Run.low (.cons (fle_pick [3, 4, 5] rfl) .nil) (Run.pick [0, 1, 3, 10, 11] (ih v0 v10 (w64 (v11 + (1 : Int))) v5_f1 l21 l10 b4 s2 s10 _ _ _ hH22 h))
    · have h := bif_f hc12 h
      refine Run.condF' rfl hc12 ?_
      refine Run.exit rfl ?_
      refine Run.fallTo Tryz.func93 rfl res_nil rfl ?_
      refine Run.opsEnd (Run.inBlock (Run.region ?_))
      refine Run.opG wantS_none (ex_move rfl) rfl ?_
      refine Run.opG wantS_none (ex_quo rfl rfl (by decide)) rfl ?_
      refine Run.opG wantS_none (ex_assign rfl) rfl ?_
      refine Run.opsEnd (Run.inLoop ?_)
      exact Run.pick [3, 4, 5] (hhd1 (w64 (Int.tdiv v5_f1 (2 : Int))) l2 b4 s2 _ _ _ (hH.pick [0, 1] rfl rfl) h)

def glitch_transform_1 (F : Nat) : Nat → Int → (List Int) → Option ((List Int))
  | 0, _, _ => none
  | N + 1, v5, l2 =>
    bif (decide ((0 : Int) < v5)) then
      bnd (sub l2 0 (w64 ((2 : Int) * v5))) fun l8 =>
      bnd (slices_Clone F l8) fun r9 =>
      glitch_transform_2 F (glitch_transform_1 F N) F v5 v5 (0 : Int) v5 l2 r9
    else
      some l2

theorem glitch_transform_1_ok (F : Nat) : ∀ (N : Nat), ∀ (v5 : Int) (l2 : (List Int)) (b4 : Pos) (s2 : SV) (Fr : Rd) (M : Mem) (r : (List Int)) (hH : Has Fr M [.obj b4 (.row 22 .whole [s2]), .vec 3 1 l2.length s2 (l2.flatMap enc3)]), glitch_transform_1 F N v5 l2 = some r → Run Tryz.prog ⟨⟨51, [], none⟩, []⟩ 20 (glitch_transform_post r) [(3, (.ptr b4 0)), (4, (.fn (.func 93) [] [(.ptr b4 0)])), (5, (.int .i64 v5))] [codeC Tryz.prog 51 [1, 1, 1, 0, 1, 0, 0], loopC Tryz.prog 51 [1, 1, 1, 0, 1, 0, 0], .inBlock 0, codeC Tryz.prog 51 [1, 1, 1, 1]] M := by
  intro N
  induction N with
  | zero =>
    intro v5 l2 b4 s2 Fr M r hH h
    simp [glitch_transform_1] at h
  | succ N ih =>
    intro v5 l2 b4 s2 Fr M r hH h
    rw [glitch_transform_1] at h
    refine Run.seq (Run.seq (Run.region ?_))
    refine Run.opG wantS_none (ex_move rfl) rfl ?_
    refine Run.opG wantS_none (ex_gtr rfl rfl) rfl ?_
    refine Run.opsEnd ?_
    rcases btf ((decide ((0 : Int) < v5))) with hc7 | hc7
    · have h := bif_t hc7 h
      refine Run.condT' rfl hc7 ?_
      refine Run.skip (Run.seq (Run.block (Run.region ?_)))
      refine Run.opG wantS_none (ex_move rfl) rfl ?_
      refine Run.opG wantS_none (ex_move rfl) rfl ?_
      refine Run.enter wantS_none (ex_closure rfl rfl mkk93 cal93) Tryz.func93 rfl rfl ?_
      refine Run.seq (Run.region ?_)
      refine Run.opG wantS_none (ex_load1 rfl (hH.cells (i := 0) rfl 0 rfl) rdLe_rfl agg22) rfl ?_
      refine Run.opG wantS_none (ex_move rfl) rfl ?_
      refine Run.opG wantS_none (ex_mul rfl rfl) rfl ?_
      obtain ⟨l8, hl8, h⟩ := bnd_some h
      obtain ⟨s8, hx8, hs8⟩ := sl_subH (P := Tryz.prog) (t := 22) (k0 := .i64) (hH.slc (i := 1) rfl enc3_len) hl8 slk22
      refine Run.opG wantS_none (ex_slX rfl (argO_none) (argO_some rfl) hx8) rfl ?_
      obtain ⟨r9, hr9, h⟩ := bnd_some h
      refine Run.callX wantS_none (ex_call rfl mkk92 cal92) rfl (slices_Clone_ok F l8 s8 _ _ hs8 hr9) ?_
      rintro s9_0 M11 ⟨_, rfl, hN9⟩
      have hH11 : Has Fr M11 [.vec 3 1 r9.length s9_0 (r9.flatMap enc3), .obj b4 (.row 22 .whole [s2]), .vec 3 1 l2.length s2 (l2.flatMap enc3)] := hN9 _ _ hH
      refine Run.opG wantS_none (ex_assign rfl) rfl ?_
      refine Run.opsEnd (Run.seq (Run.region ?_))
      refine Run.opG wantS_none (ex_move rfl) rfl ?_
      refine Run.opG wantS_none (ex_move rfl) rfl ?_
      refine Run.opsEnd (Run.block (Run.loop ?_))
      exact Run.low (.cons (fle_pick [3, 4, 5] rfl) .nil) (Run.pick [0, 1, 3, 10, 11] (glitch_transform_2_ok F (glitch_transform_1 F N) ih F v5 v5 (0 : Int) v5 l2 r9 b4 s2 s9_0 _ _ _ (hH11.pick [1, 2, 0] rfl rfl) h))
    · have h := bif_f hc7 h
      refine Run.condF' rfl hc7 ?_
      refine Run.exit rfl (Run.seq (Run.region ?_))
      refine Run.opG wantS_none (ex_load1 rfl (hH.cells (i := 0) rfl 0 rfl) rdLe_rfl agg22) rfl ?_
      refine Run.opG wantS_none (ex_assign rfl) rfl ?_
      refine Run.opsEnd ?_
      cases h
      exact Run.ret Tryz.func51 rfl (res_tmp rfl res_nil) ⟨_, rfl, (hH.pick [1] rfl rfl).upF (none_le _)⟩

def glitch_transform (F : Nat) (a0 : (List Int)) : Option ((List Int)) :=
  bnd (slices_Clone F a0) fun r1 =>
  glitch_transform_1 F F (w64 (Int.tdiv (a0.length : Int) (2 : Int))) r1

theorem glitch_transform_ok (F : Nat) (a0 : (List Int)) (s0 : SV) (r : (List Int)) (M : Mem) (hs0 : Slc (rd M) 1 (FlatR enc3) s0 a0) (h : glitch_transform F a0 = some r) : CallsM Tryz.prog 51 [s0] M (fun s M' => ∃ q1, s = q1 ∧ New M M' [.vec 3 1 r.length q1 (r.flatMap enc3)]) := by
  refine CallsM.fresh (Q := glitch_transform_post r) Tryz.func51 rfl rfl ?_ (by rintro s Me ⟨q1, rfl, hx⟩ ha hw; exact ⟨_, rfl, New.of rfl hx ha hw⟩)
  rw [glitch_transform] at h
  replace hs0 := hs0.mono (rdLe_frozen M) (fun _ _ h => h)
  have hH := Has.nil (frozen M)
  refine Run.seq (Run.region ?_)
  refine Run.opG wantS_none (ex_assign rfl) rfl ?_
  refine Run.opsEnd (Run.seq (Run.region ?_))
  refine Run.opG wantS_none (ex_move rfl) rfl ?_
  obtain ⟨r1, hr1, h⟩ := bnd_some h
  refine Run.callX wantS_none (ex_call rfl mkk92 cal92) rfl (slices_Clone_ok F a0 s0 _ _ (hH.slcF hs0) hr1) ?_
  rintro s1_0 M3 ⟨_, rfl, hN1⟩
  have hH3 : Has (ro (frozen M)) M3 [.vec 3 1 r1.length s1_0 (r1.flatMap enc3)] := hN1 _ _ hH
  refine Run.opX wantS_none rfl (ExG.new (v := fun b => .ptr b 0) (ex_alloc zer22) hH3) ?_
  rintro _ M5 ⟨b4, rfl, (hH5 : Has (ro (frozen M)) M5 [.obj b4 (.row 22 .whole [.nils]), .vec 3 1 r1.length s1_0 (r1.flatMap enc3)])⟩
  refine Run.opX wantS_none rfl (ExG.storeC (c' := [s1_0]) rfl rfl (cells_one (vec_one hH5 (i := 1) rfl)) hH5 (i := 0) rfl sz22 rfl rfl rfl (ones_cons (vec_one hH5 (i := 1) rfl) ones_nil) rfl) ?_
  rintro _ M6 ⟨rfl, (hH6 : Has (ro (frozen M)) M6 [.obj b4 (.row 22 .whole [s1_0]), .vec 3 1 r1.length s1_0 (r1.flatMap enc3)])⟩
  refine Run.opsEnd (Run.seq (Run.region ?_))
  refine Run.opG wantS_none (ex_makeFunc rfl rfl) rfl ?_
  refine Run.opG wantS_none (ex_assign rfl) rfl ?_
  refine Run.opsEnd (Run.seq (Run.seq (Run.region ?_)))
  refine Run.opG wantS_none (ex_move rfl) rfl ?_
  refine Run.opG wantS_none (ex_len' rfl hs0 lenk22) rfl ?_
  refine Run.opG wantS_none (ex_quo rfl rfl (by decide)) rfl ?_
  refine Run.opG wantS_none (ex_assign rfl) rfl ?_
  refine Run.opsEnd (Run.block (Run.loop ?_))
  exact Run.pick [3, 4, 5] (glitch_transform_1_ok F F (w64 (Int.tdiv (a0.length : Int) (2 : Int))) r1 b4 s1_0 _ _ _ hH6 h)

theorem mkk51 : makeK Tryz.prog 51 = none := by kernel_rfl
theorem cal51 : callable Tryz.prog 51 = true := by kernel_rfl
abbrev glitch_Transform_post (r : (List Int) × Int) : SV → Mem → Prop := fun s Me => ∃ q1, s = (.tuple [q1, (.int .i64 r.2)]) ∧ Has (fun _ => none) Me [.vec 3 1 r.1.length q1 (r.1.flatMap enc3)]

def glitch_Transform (F : Nat) (a0 : (List Int)) : Option ((List Int) × Int) :=
  bnd (glitch_isSignal F a0) fun r1 =>
  bif (!r1) then
    some (([] : List Int), (60 : Int))
  else
    bnd (glitch_transform F a0) fun r6 =>
    some (r6, (0 : Int))

theorem glitch_Transform_ok (F : Nat) (a0 : (List Int)) (s0 : SV) (r : (List Int) × Int) (M : Mem) (hs0 : Slc (rd M) 1 (FlatR enc3) s0 a0) (h : glitch_Transform F a0 = some r) : CallsM Tryz.prog 17 [s0] M (fun s M' => ∃ q1, s = (.tuple [q1, (.int .i64 r.2)]) ∧ New M M' [.vec 3 1 r.1.length q1 (r.1.flatMap enc3)]) := by
  refine CallsM.fresh (Q := glitch_Transform_post r) Tryz.func17 rfl rfl ?_ (by rintro s Me ⟨q1, rfl, hx⟩ ha hw; exact ⟨_, rfl, New.of rfl hx ha hw⟩)
  rw [glitch_Transform] at h
  replace hs0 := hs0.mono (rdLe_frozen M) (fun _ _ h => h)
  have hH := Has.nil (frozen M)
  refine Run.seq (Run.region ?_)
  refine Run.opG wantS_none (ex_assign rfl) rfl ?_
  refine Run.opG wantS_none (ex_assign rfl) rfl ?_
  refine Run.opsEnd (Run.seq (Run.seq (Run.region ?_)))
  refine Run.opG wantS_none (ex_move rfl) rfl ?_
  obtain ⟨r1, hr1, h⟩ := bnd_some h
  refine Run.callP wantS_none (ex_call rfl mkk48 cal48) rfl (glitch_isSignal_ok F a0 s0 _ _ (hH.slcF hs0) hr1) ?_
  refine Run.opG wantS_none (ex_not rfl) rfl ?_
  refine Run.opsEnd ?_
  rcases btf ((!r1)) with hc3 | hc3
  · have h := bif_t hc3 h
    refine Run.condT' rfl hc3 ?_
    refine Run.seq (Run.region ?_)
    refine Run.opG wantS_none (ex_assign rfl) rfl ?_
    refine Run.opG wantS_none (ex_assign rfl) rfl ?_
    refine Run.opsEnd ?_
    have hH5 : Has (ro (frozen M)) (frozen M) [.vec 3 1 ([] : List Int).length .nils (([] : List Int).flatMap enc3)] := hH.nils 3 1
    cases h
    exact Run.ret Tryz.func17 rfl (res_tmp rfl (res_tmp rfl res_nil)) ⟨_, rfl, (hH5.pick [0] rfl rfl).upF (none_le _)⟩
  · have h := bif_f hc3 h
    refine Run.condF' rfl hc3 ?_
    refine Run.skip (Run.seq (Run.region ?_))
    refine Run.opG wantS_none (ex_move rfl) rfl ?_
    obtain ⟨r6, hr6, h⟩ := bnd_some h
    refine Run.callX wantS_none (ex_call rfl mkk51 cal51) rfl (glitch_transform_ok F a0 s0 _ _ (hH.slcF hs0) hr6) ?_
    rintro s6_0 M8 ⟨_, rfl, hN6⟩
    have hH8 : Has (ro (frozen M)) M8 [.vec 3 1 r6.length s6_0 (r6.flatMap enc3)] := hN6 _ _ hH
    refine Run.opG wantS_none (ex_assign rfl) rfl ?_
    refine Run.opG wantS_none (ex_assign rfl) rfl ?_
    refine Run.opsEnd ?_
    cases h
    exact Run.ret Tryz.func17 rfl (res_tmp rfl (res_tmp rfl res_nil)) ⟨_, rfl, (hH8.pick [0] rfl rfl).upF (none_le _)⟩

theorem mkk17 : makeK Tryz.prog 17 = none := by kernel_rfl
theorem cal17 : callable Tryz.prog 17 = true := by kernel_rfl
structure S_api_Tile where
  Level : Int
  At : Int
  D : Int

def enc65 (a : S_api_Tile) : List SV := [(.int .i64 a.Level), (.int .i64 a.At), (.int .i64 a.D)]
theorem enc65_len (a : S_api_Tile) : (enc65 a).length = 3 := rfl
theorem enc65_ones (a : S_api_Tile) : ones (enc65 a) = true := rfl
theorem mkk58 : makeK Tryz.prog 58 = none := by kernel_rfl
theorem cal58 : callable Tryz.prog 58 = true := by kernel_rfl
theorem mkk57 : makeK Tryz.prog 57 = none := by kernel_rfl
theorem cal57 : callable Tryz.prog 57 = true := by kernel_rfl
theorem mkk96 : makeK Tryz.prog 96 = none := by kernel_rfl
theorem cal96 : callable Tryz.prog 96 = true := by kernel_rfl
theorem cal97 : callable Tryz.prog 97 = true := by kernel_rfl
theorem zer65 : zerosOf Tryz.prog 65 = some [(.int .i64 0), (.int .i64 0), (.int .i64 0)] := by kernel_rfl
theorem pls65 : placesOf Tryz.prog 65 = some (.st [(0, 1), (1, 1), (2, 1)]) := by kernel_rfl
theorem sz65 : szOf Tryz.prog 65 = some 3 := by kernel_rfl
theorem agg31 : aggSize Tryz.prog 31 = some none := by kernel_rfl
theorem agg65 : aggSize Tryz.prog 65 = some (some 3) := by kernel_rfl
theorem elt31 : sliceElt Tryz.prog 31 = some (⟨3, 24, [(.int .i64 0), (.int .i64 0), (.int .i64 0)], 65⟩ : Elt) := by kernel_rfl
theorem appt31_31 : appT Tryz.prog 31 31 = some (⟨3, 24, [(.int .i64 0), (.int .i64 0), (.int .i64 0)], 65⟩ : Elt) := by kernel_rfl
theorem sz31 : szOf Tryz.prog 31 = some 1 := by kernel_rfl
abbrev glitch_Tiles_post (r : (List S_api_Tile) × Int) : SV → Mem → Prop := fun s Me => ∃ q1, s = (.tuple [q1, (.int .i64 r.2)]) ∧ Has (fun _ => none) Me [.vec 65 3 r.1.length q1 (r.1.flatMap enc65)]

def glitch_Tiles_2 (F : Nat) (hd1 : (List Int) → Int → Int → (List Int) → (List S_api_Tile) → Option ((List S_api_Tile) × Int)) : Nat → (List Int) → Int → Int → (List Int) → Int → Int → (List Int) → (List S_api_Tile) → Option ((List S_api_Tile) × Int)
  | 0, _, _, _, _, _, _, _, _ => none
  | N + 1, v3, v4, v5, v23, v24, v25, c6_0, l15 =>
    bif (decide (v25 < v24)) then
      bnd (idx v23 v25) fun x22 =>
      bnd (apd 24 l15 ([(S_api_Tile.mk v4 v25 x22)] : List S_api_Tile)) fun l29 =>
      (glitch_Tiles_2 F hd1 N) v3 v4 v5 v23 v24 (w64 (v25 + (1 : Int))) c6_0 l29
    else
      hd1 v3 v4 (w64 (Int.tdiv v5 (2 : Int))) c6_0 l15

theorem glitch_Tiles_2_ok (F : Nat) (hd1 : (List Int) → Int → Int → (List Int) → (List S_api_Tile) → Option ((List S_api_Tile) × Int)) (hhd1 : ∀ (v3 : (List Int)) (v4 : Int) (v5 : Int) (c6_0 : (List Int)) (l15 : (List S_api_Tile)) (sv3 : SV) (sc6_0 : SV) (b10 : Pos) (b8 : Pos) (s15 : SV) (b6 : Pos) (b11 : Pos) (Fr : Rd) (M : Mem) (r : (List S_api_Tile) × Int) (hv3 : Slc Fr 1 (FlatR enc3) sv3 v3) (hc6_0 : Slc Fr 1 (FlatR enc3) sc6_0 c6_0) (hH : Has Fr M [.obj b10 (.loop ⟨.ready, none, 96, 13, treeOf [(2, (.ptr b8 0)), (4, .nils), (6, (.fn (.func 97) [] [(.ptr b6 0)]))], [7], (atC Tryz.prog 96 [1, 0, 1, 0, 0]), (atC Tryz.prog 96 [1, 0, 1, 0, 1]), b11⟩), .obj b8 (.row 31 .whole [s15]), .vec 65 3 l15.length s15 (l15.flatMap enc65), .obj b6 (.row 22 .whole [sc6_0]), .obj b11 .defd]), hd1 v3 v4 v5 c6_0 l15 = some r → Run Tryz.prog ⟨⟨97, [], none⟩, [.mk ⟨96, [b11], none⟩ 13 (treeOf [(2, (.ptr b8 0))]) [.inRange b10, .inBlock 0, codeC Tryz.prog 96 [1, 1]], .mk ⟨57, [], none⟩ 5 (treeOf []) [itemC Tryz.prog 57 [1, 0] 1, codeC Tryz.prog 57 [1, 1]], .mk ⟨25, [], none⟩ 10 (treeOf []) [itemC Tryz.prog 25 [1, 1, 0] 2, codeC Tryz.prog 25 [1, 1, 1]]]⟩ 38 (glitch_Tiles_post r) [(0, (.yield b10)), (3, sv3), (4, (.int .i64 v4)), (5, (.int .i64 v5))] [codeC Tryz.prog 97 [1, 1, 1, 0, 0], loopC Tryz.prog 97 [1, 1, 1, 0, 0], .inBlock 0] M) : ∀ (N : Nat), ∀ (v3 : (List Int)) (v4 : Int) (v5 : Int) (v23 : (List Int)) (v24 : Int) (v25 : Int) (c6_0 : (List Int)) (l15 : (List S_api_Tile)) (sv3 : SV) (sv23 : SV) (sc6_0 : SV) (b10 : Pos) (b8 : Pos) (s15 : SV) (b6 : Pos) (b11 : Pos) (Fr : Rd) (M : Mem) (r : (List S_api_Tile) × Int) (hv3 : Slc Fr 1 (FlatR enc3) sv3 v3) (hv23 : Slc Fr 1 (FlatR enc3) sv23 v23) (hc6_0 : Slc Fr 1 (FlatR enc3) sc6_0 c6_0) (hH : Has Fr M [.obj b10 (.loop ⟨.ready, none, 96, 13, treeOf [(2, (.ptr b8 0)), (4, .nils), (6, (.fn (.func 97) [] [(.ptr b6 0)]))], [7], (atC Tryz.prog 96 [1, 0, 1, 0, 0]), (atC Tryz.prog 96 [1, 0, 1, 0, 1]), b11⟩), .obj b8 (.row 31 .whole [s15]), .vec 65 3 l15.length s15 (l15.flatMap enc65), .obj b6 (.row 22 .whole [sc6_0]), .obj b11 .defd]), glitch_Tiles_2 F hd1 N v3 v4 v5 v23 v24 v25 c6_0 l15 = some r → Run Tryz.prog ⟨⟨97, [], none⟩, [.mk ⟨96, [b11], none⟩ 13 (treeOf [(2, (.ptr b8 0))]) [.inRange b10, .inBlock 0, codeC Tryz.prog 96 [1, 1]], .mk ⟨57, [], none⟩ 5 (treeOf []) [itemC Tryz.prog 57 [1, 0] 1, codeC Tryz.prog 57 [1, 1]], .mk ⟨25, [], none⟩ 10 (treeOf []) [itemC Tryz.prog 25 [1, 1, 0] 2, codeC Tryz.prog 25 [1, 1, 1]]]⟩ 38 (glitch_Tiles_post r) [(0, (.yield b10)), (3, sv3), (4, (.int .i64 v4)), (5, (.int .i64 v5)), (23, sv23), (24, (.int .i64 v24)), (25, (.int .i64 v25))] [codeC Tryz.prog 97 [1, 1, 1, 0, 0, 1, 0, 0, 1, 1, 0, 0], loopC Tryz.prog 97 [1, 1, 1, 0, 0, 1, 0, 0, 1, 1, 0, 0], .inBlock 2, .inBlock 1, codeC Tryz.prog 97 [1, 1, 1, 0, 0, 1, 1], loopC Tryz.prog 97 [1, 1, 1, 0, 0], .inBlock 0] M := by
  intro N
  induction N with
  | zero =>
    intro v3 v4 v5 v23 v24 v25 c6_0 l15 sv3 sv23 sc6_0 b10 b8 s15 b6 b11 Fr M r hv3 hv23 hc6_0 hH h
    simp [glitch_Tiles_2] at h
  | succ N ih =>
    intro v3 v4 v5 v23 v24 v25 c6_0 l15 sv3 sv23 sc6_0 b10 b8 s15 b6 b11 Fr M r hv3 hv23 hc6_0 hH h
    rw [glitch_Tiles_2] at h
    refine Run.seq (Run.region ?_)
    refine Run.opG wantS_none (ex_lss rfl rfl) rfl ?_
    refine Run.opsEnd (Run.seq ?_)
    rcases btf ((decide (v25 < v24))) with hc21 | hc21
    · have h := bif_t hc21 h
      refine Run.condT' rfl hc21 ?_
      refine Run.skip (Run.seq (Run.block (Run.seq (Run.region ?_))))
      refine Run.opG wantS_none (ex_move rfl) rfl ?_
      obtain ⟨x22, hx22, h⟩ := bnd_some h
      obtain ⟨p22, o22, _, hx22, hp22, rfl⟩ := sl_elem (P := Tryz.prog) (t := 22) (kk := .i64) hv23 hx22 els22
      refine Run.opG wantS_none (ex_elX rfl rfl hx22) rfl ?_
      refine Run.opG wantS_none (ex_load1 rfl (hH.ptrF hp22) rdLe_rfl agg3) rfl ?_
      refine Run.opG wantS_none (ex_assign rfl) rfl ?_
      refine Run.opG wantS_none (ex_assign rfl) rfl ?_
      refine Run.opsEnd (Run.seq (Run.region ?_))
      refine Run.opG wantS_none (ex_move rfl) rfl ?_
      refine Run.opG wantS_none (ex_move rfl) rfl ?_
      refine Run.opG wantS_none (ex_move rfl) rfl ?_
      refine Run.opG wantS_none (ex_move rfl) rfl ?_
      refine Run.opG wantS_none (ex_build (r := [(.int .i64 v4), (.int .i64 v25), (.int .i64 x22)]) rfl zer65 pls65 rfl) rfl ?_
      refine Run.round (e' := [(7, (.agg [(.int .i64 v4), (.int .i64 v25), (.int .i64 x22)])), (2, (.ptr b8 0)), (4, .nils), (6, (.fn (.func 97) [] [(.ptr b6 0)]))]) wantS_none (ex_yield hH (i := 0) rfl rfl rfl rfl) (hH.loopOf (i := 0) rfl) rfl ?_
      refine Run.region ?_
      refine Run.opX wantS_none rfl (ExG.new (v := fun b => .ptr b 0) (ex_alloc zer65) hH) ?_
      rintro _ M24 ⟨b23, rfl, (hH24 : Has Fr M24 [.obj b23 (.row 65 .whole [(.int .i64 0), (.int .i64 0), (.int .i64 0)]), .obj b10 (.loop ⟨.ready, none, 96, 13, treeOf [(2, (.ptr b8 0)), (4, .nils), (6, (.fn (.func 97) [] [(.ptr b6 0)]))], [7], (atC Tryz.prog 96 [1, 0, 1, 0, 0]), (atC Tryz.prog 96 [1, 0, 1, 0, 1]), b11⟩), .obj b8 (.row 31 .whole [s15]), .vec 65 3 l15.length s15 (l15.flatMap enc65), .obj b6 (.row 22 .whole [sc6_0]), .obj b11 .defd])⟩
      refine Run.opX wantS_none rfl (ExG.storeC (c' := [(.int .i64 v4), (.int .i64 v25), (.int .i64 x22)]) rfl rfl rfl hH24 (i := 0) rfl sz65 rfl rfl rfl rfl rfl) ?_
      rintro _ M25 ⟨rfl, (hH25 : Has Fr M25 [.obj b23 (.row 65 .whole [(.int .i64 v4), (.int .i64 v25), (.int .i64 x22)]), .obj b10 (.loop ⟨.ready, none, 96, 13, treeOf [(2, (.ptr b8 0)), (4, .nils), (6, (.fn (.func 97) [] [(.ptr b6 0)]))], [7], (atC Tryz.prog 96 [1, 0, 1, 0, 0]), (atC Tryz.prog 96 [1, 0, 1, 0, 1]), b11⟩), .obj b8 (.row 31 .whole [s15]), .vec 65 3 l15.length s15 (l15.flatMap enc65), .obj b6 (.row 22 .whole [sc6_0]), .obj b11 .defd])⟩
      refine Run.opsEnd ?_
      refine Run.beginX hH25 (i := 1) rfl rfl ?_
      intro M26 (hH26 : Has Fr M26 [.obj b23 (.row 65 .whole [(.int .i64 v4), (.int .i64 v25), (.int .i64 x22)]), .obj b10 (.loop ⟨.busy, none, 96, 13, treeOf [(2, (.ptr b8 0)), (4, .nils), (6, (.fn (.func 97) [] [(.ptr b6 0)]))], [7], (atC Tryz.prog 96 [1, 0, 1, 0, 0]), (atC Tryz.prog 96 [1, 0, 1, 0, 1]), b11⟩), .obj b8 (.row 31 .whole [s15]), .vec 65 3 l15.length s15 (l15.flatMap enc65), .obj b6 (.row 22 .whole [sc6_0]), .obj b11 .defd])
      refine Run.block (Run.region ?_)
      refine Run.opG wantS_none (ex_load1 rfl (hH26.cells (i := 2) rfl 0 rfl) rdLe_rfl agg31) rfl ?_
      refine Run.opG wantS_none (ex_loadA rfl (hH26.cells (i := 0) rfl 0 rfl) rdLe_rfl agg65 rfl rfl rfl) rfl ?_
      refine Run.opX wantS_none rfl (ExG.built (enc := enc65) (l := ([(S_api_Tile.mk v4 v25 x22)] : List S_api_Tile)) (z := 3) rfl elt31 rfl rfl rfl enc65_len hH26) ?_
      rintro s27 M28 (hH28 : Has Fr M28 [.vec 65 3 ([(S_api_Tile.mk v4 v25 x22)] : List S_api_Tile).length s27 (([(S_api_Tile.mk v4 v25 x22)] : List S_api_Tile).flatMap enc65), .obj b23 (.row 65 .whole [(.int .i64 v4), (.int .i64 v25), (.int .i64 x22)]), .obj b10 (.loop ⟨.busy, none, 96, 13, treeOf [(2, (.ptr b8 0)), (4, .nils), (6, (.fn (.func 97) [] [(.ptr b6 0)]))], [7], (atC Tryz.prog 96 [1, 0, 1, 0, 0]), (atC Tryz.prog 96 [1, 0, 1, 0, 1]), b11⟩), .obj b8 (.row 31 .whole [s15]), .vec 65 3 l15.length s15 (l15.flatMap enc65), .obj b6 (.row 22 .whole [sc6_0]), .obj b11 .defd])
      obtain ⟨l29, hl29, h⟩ := bnd_some h
      refine Run.opX wantS_none rfl (ExG.append rfl rfl hH28 (i := 4) rfl enc65_len rfl enc65_ones appt31_31 rfl (len_slc (hH28.slc (i := 0) rfl enc65_len)) (first_slc (hH28.slc (i := 0) rfl enc65_len) (rdLe_rdRow _) enc65_len) hl29) ?_
      rintro s29 M31 (hH31 : Has Fr M31 [.vec 65 3 ([(S_api_Tile.mk v4 v25 x22)] : List S_api_Tile).length s27 (([(S_api_Tile.mk v4 v25 x22)] : List S_api_Tile).flatMap enc65), .obj b23 (.row 65 .whole [(.int .i64 v4), (.int .i64 v25), (.int .i64 x22)]), .obj b10 (.loop ⟨.busy, none, 96, 13, treeOf [(2, (.ptr b8 0)), (4, .nils), (6, (.fn (.func 97) [] [(.ptr b6 0)]))], [7], (atC Tryz.prog 96 [1, 0, 1, 0, 0]), (atC Tryz.prog 96 [1, 0, 1, 0, 1]), b11⟩), .obj b8 (.row 31 .whole [s15]), .vec 65 3 l29.length s29 (l29.flatMap enc65), .obj b6 (.row 22 .whole [sc6_0]), .obj b11 .defd])
      refine Run.opX wantS_none rfl (ExG.storeC (c' := [s29]) rfl rfl (cells_one (vec_one hH31 (i := 4) rfl)) hH31 (i := 3) rfl sz31 rfl rfl rfl (ones_cons (vec_one hH31 (i := 4) rfl) ones_nil) rfl) ?_
      rintro _ M32 ⟨rfl, (hH32 : Has Fr M32 [.vec 65 3 ([(S_api_Tile.mk v4 v25 x22)] : List S_api_Tile).length s27 (([(S_api_Tile.mk v4 v25 x22)] : List S_api_Tile).flatMap enc65), .obj b23 (.row 65 .whole [(.int .i64 v4), (.int .i64 v25), (.int .i64 x22)]), .obj b10 (.loop ⟨.busy, none, 96, 13, treeOf [(2, (.ptr b8 0)), (4, .nils), (6, (.fn (.func 97) [] [(.ptr b6 0)]))], [7], (atC Tryz.prog 96 [1, 0, 1, 0, 0]), (atC Tryz.prog 96 [1, 0, 1, 0, 1]), b11⟩), .obj b8 (.row 31 .whole [s29]), .vec 65 3 l29.length s29 (l29.flatMap enc65), .obj b6 (.row 22 .whole [sc6_0]), .obj b11 .defd])⟩
      refine Run.opsEnd (Run.inBlock ?_)
      refine Run.roundEndX hH32 (i := 2) rfl rfl ?_
      intro M33 (hH33 : Has Fr M33 [.vec 65 3 ([(S_api_Tile.mk v4 v25 x22)] : List S_api_Tile).length s27 (([(S_api_Tile.mk v4 v25 x22)] : List S_api_Tile).flatMap enc65), .obj b23 (.row 65 .whole [(.int .i64 v4), (.int .i64 v25), (.int .i64 x22)]), .obj b10 (.loop ⟨.ready, none, 96, 13, treeOf [(2, (.ptr b8 0)), (4, .nils), (6, (.fn (.func 97) [] [(.ptr b6 0)]))], [7], (atC Tryz.prog 96 [1, 0, 1, 0, 0]), (atC Tryz.prog 96 [1, 0, 1, 0, 1]), b11⟩), .obj b8 (.row 31 .whole [s29]), .vec 65 3 l29.length s29 (l29.flatMap enc65), .obj b6 (.row 22 .whole [sc6_0]), .obj b11 .defd])
      refine Run.opG wantS_none (ex_not rfl) rfl ?_
      refine Run.opsEnd ?_
      refine Run.condF' rfl (bnot_f rfl) ?_
      refine Run.skip (Run.inBlock (Run.region ?_))
      refine Run.opG wantS_none (ex_add rfl rfl) rfl ?_
      refine Run.opG wantS_none (ex_move rfl) rfl ?_
      refine Run.opsEnd (Run.inLoop ?_)
      exact Run.low (.cons (fle_pick [2] rfl) (.cons (fle_pick [] rfl) (.cons (fle_pick [] rfl) .nil))) (Run.pick [0, 3, 4, 5, 23, 24, 25] (ih v3 v4 v5 v23 v24 (w64 (v25 + (1 : Int))) c6_0 l29 sv3 sv23 sc6_0 b10 b8 s29 b6 b11 _ _ _ hv3 hv23 hc6_0 (hH33.pick [2, 3, 4, 5, 6] rfl rfl) h))
    · have h := bif_f hc21 h
      refine Run.condF' rfl hc21 ?_
      refine Run.exit rfl (Run.inBlock (Run.region ?_))
      refine Run.opG wantS_none (ex_move rfl) rfl ?_
      refine Run.opG wantS_none (ex_quo rfl rfl (by decide)) rfl ?_
      refine Run.opG wantS_none (ex_assign rfl) rfl ?_
      refine Run.opsEnd (Run.inLoop ?_)
      exact Run.low (.cons (fle_pick [2] rfl) (.cons (fle_pick [] rfl) (.cons (fle_pick [] rfl) .nil))) (Run.pick [0, 3, 4, 5] (hhd1 v3 v4 (w64 (Int.tdiv v5 (2 : Int))) c6_0 l15 sv3 sc6_0 b10 b8 s15 b6 b11 _ _ _ hv3 hc6_0 hH h))

def glitch_Tiles_1 (F : Nat) : Nat → (List Int) → Int → Int → (List Int) → (List S_api_Tile) → Option ((List S_api_Tile) × Int)
  | 0, _, _, _, _, _ => none
  | N + 1, v3, v4, v5, c6_0, l15 =>
    bif (decide ((0 : Int) < v5)) then
      bnd (sub v3 v5 (w64 ((2 : Int) * v5))) fun l20 =>
      glitch_Tiles_2 F (glitch_Tiles_1 F N) F v3 (w64 (v4 + (1 : Int))) v5 l20 (l20.length : Int) (0 : Int) c6_0 l15
    else
      some (l15, (0 : Int))

theorem glitch_Tiles_1_ok (F : Nat) : ∀ (N : Nat), ∀ (v3 : (List Int)) (v4 : Int) (v5 : Int) (c6_0 : (List Int)) (l15 : (List S_api_Tile)) (sv3 : SV) (sc6_0 : SV) (b10 : Pos) (b8 : Pos) (s15 : SV) (b6 : Pos) (b11 : Pos) (Fr : Rd) (M : Mem) (r : (List S_api_Tile) × Int) (hv3 : Slc Fr 1 (FlatR enc3) sv3 v3) (hc6_0 : Slc Fr 1 (FlatR enc3) sc6_0 c6_0) (hH : Has Fr M [.obj b10 (.loop ⟨.ready, none, 96, 13, treeOf [(2, (.ptr b8 0)), (4, .nils), (6, (.fn (.func 97) [] [(.ptr b6 0)]))], [7], (atC Tryz.prog 96 [1, 0, 1, 0, 0]), (atC Tryz.prog 96 [1, 0, 1, 0, 1]), b11⟩), .obj b8 (.row 31 .whole [s15]), .vec 65 3 l15.length s15 (l15.flatMap enc65), .obj b6 (.row 22 .whole [sc6_0]), .obj b11 .defd]), glitch_Tiles_1 F N v3 v4 v5 c6_0 l15 = some r → Run Tryz.prog ⟨⟨97, [], none⟩, [.mk ⟨96, [b11], none⟩ 13 (treeOf [(2, (.ptr b8 0))]) [.inRange b10, .inBlock 0, codeC Tryz.prog 96 [1, 1]], .mk ⟨57, [], none⟩ 5 (treeOf []) [itemC Tryz.prog 57 [1, 0] 1, codeC Tryz.prog 57 [1, 1]], .mk ⟨25, [], none⟩ 10 (treeOf []) [itemC Tryz.prog 25 [1, 1, 0] 2, codeC Tryz.prog 25 [1, 1, 1]]]⟩ 38 (glitch_Tiles_post r) [(0, (.yield b10)), (3, sv3), (4, (.int .i64 v4)), (5, (.int .i64 v5))] [codeC Tryz.prog 97 [1, 1, 1, 0, 0], loopC Tryz.prog 97 [1, 1, 1, 0, 0], .inBlock 0] M := by
  intro N
  induction N with
  | zero =>
    intro v3 v4 v5 c6_0 l15 sv3 sc6_0 b10 b8 s15 b6 b11 Fr M r hv3 hc6_0 hH h
    simp [glitch_Tiles_1] at h
  | succ N ih =>
    intro v3 v4 v5 c6_0 l15 sv3 sc6_0 b10 b8 s15 b6 b11 Fr M r hv3 hc6_0 hH h
    rw [glitch_Tiles_1] at h
    refine Run.seq (Run.seq (Run.region ?_))
    refine Run.opG wantS_none (ex_move rfl) rfl ?_
    refine Run.opG wantS_none (ex_gtr rfl rfl) rfl ?_
    refine Run.opsEnd ?_
    rcases btf ((decide ((0 : Int) < v5))) with hc19 | hc19
    · have h := bif_t hc19 h
      refine Run.condT' rfl hc19 ?_
      refine Run.skip (Run.seq (Run.block (Run.seq (Run.region ?_))))
      refine Run.opG wantS_none (ex_move rfl) rfl ?_
      refine Run.opG wantS_none (ex_add rfl rfl) rfl ?_
      refine Run.opG wantS_none (ex_assign rfl) rfl ?_
      refine Run.opsEnd (Run.seq (Run.region ?_))
      refine Run.opG wantS_none (ex_move rfl) rfl ?_
      refine Run.opG wantS_none (ex_move rfl) rfl ?_
      refine Run.opG wantS_none (ex_move rfl) rfl ?_
      refine Run.opG wantS_none (ex_mul rfl rfl) rfl ?_
      obtain ⟨l20, hl20, h⟩ := bnd_some h
      obtain ⟨s20, hx20, hs20⟩ := sl_subB (P := Tryz.prog) (t := 22) (k0 := .i64) (k1 := .i64) hv3 hl20 slk22
      refine Run.opG wantS_none (ex_slX rfl (argO_some rfl) (argO_some rfl) hx20) rfl ?_
      refine Run.opG wantS_none (ex_len' rfl hs20 lenk22) rfl ?_
      refine Run.opG wantS_none (ex_move rfl) rfl ?_
      refine Run.opsEnd (Run.block (Run.loop ?_))
      exact Run.low (.cons (fle_pick [2] rfl) (.cons (fle_pick [] rfl) (.cons (fle_pick [] rfl) .nil))) (Run.pick [0, 3, 4, 5, 23, 24, 25] (glitch_Tiles_2_ok F (glitch_Tiles_1 F N) ih F v3 (w64 (v4 + (1 : Int))) v5 l20 (l20.length : Int) (0 : Int) c6_0 l15 sv3 s20 sc6_0 b10 b8 s15 b6 b11 _ _ _ hv3 hs20 hc6_0 hH h))
    · have h := bif_f hc19 h
      refine Run.condF' rfl hc19 ?_
      refine Run.exit rfl ?_
      refine Run.fallRange Tryz.func97 rfl res_nil ?_
      refine Run.endX hH (i := 0) rfl (fun hc => by cases hc) ?_
      intro M34 (hH34 : Has Fr M34 [.obj b10 (.loop ⟨.exhausted, none, 96, 13, treeOf [(2, (.ptr b8 0)), (4, .nils), (6, (.fn (.func 97) [] [(.ptr b6 0)]))], [7], (atC Tryz.prog 96 [1, 0, 1, 0, 0]), (atC Tryz.prog 96 [1, 0, 1, 0, 1]), b11⟩), .obj b8 (.row 31 .whole [s15]), .vec 65 3 l15.length s15 (l15.flatMap enc65), .obj b6 (.row 22 .whole [sc6_0]), .obj b11 .defd])
      refine Run.inBlock (Run.seq (Run.region ?_))
      refine Run.opG wantS_none (ex_load1 rfl (hH34.cells (i := 1) rfl 0 rfl) rdLe_rfl agg31) rfl ?_
      refine Run.opG wantS_none (ex_assign rfl) rfl ?_
      refine Run.opsEnd ?_
      obtain ⟨hH35x, hS35⟩ := hH34.shut (i := 4) (ds := []) rfl
      have hH35 : Has Fr (setT M34 b11 none) [.obj b10 (.loop ⟨.exhausted, none, 96, 13, treeOf [(2, (.ptr b8 0)), (4, .nils), (6, (.fn (.func 97) [] [(.ptr b6 0)]))], [7], (atC Tryz.prog 96 [1, 0, 1, 0, 0]), (atC Tryz.prog 96 [1, 0, 1, 0, 1]), b11⟩), .obj b8 (.row 31 .whole [s15]), .vec 65 3 l15.length s15 (l15.flatMap enc65), .obj b6 (.row 22 .whole [sc6_0]), .vec 0 0 0 .nils []] := hH35x
      refine Run.retTo Tryz.func96 (hS35 _ rfl) (res_tmp rfl res_nil) rfl ?_
      refine Run.opG wantS_none (ex_assign rfl) rfl ?_
      refine Run.opsEnd ?_
      refine Run.retTo Tryz.func57 rfl (res_tmp rfl res_nil) rfl ?_
      refine Run.opG wantS_none (ex_assign rfl) rfl ?_
      refine Run.opG wantS_none (ex_assign rfl) rfl ?_
      refine Run.opsEnd ?_
      cases h
      exact Run.ret Tryz.func25 rfl (res_tmp rfl (res_tmp rfl res_nil)) ⟨_, rfl, (hH35.pick [2] rfl rfl).upF (none_le _)⟩

def glitch_Tiles (F : Nat) (a0 : (List Int)) : Option ((List S_api_Tile) × Int) :=
  bnd (glitch_isSignal F a0) fun r1 =>
  bif (!r1) then
    some (([] : List S_api_Tile), (60 : Int))
  else
    bnd (glitch_transform F a0) fun r12 =>
    glitch_Tiles_1 F F r12 (0 : Int) (w64 (Int.tdiv (r12.length : Int) (2 : Int))) a0 ([] : List S_api_Tile)

theorem glitch_Tiles_ok (F : Nat) (a0 : (List Int)) (s0 : SV) (r : (List S_api_Tile) × Int) (M : Mem) (hs0 : Slc (rd M) 1 (FlatR enc3) s0 a0) (h : glitch_Tiles F a0 = some r) : CallsM Tryz.prog 25 [s0] M (fun s M' => ∃ q1, s = (.tuple [q1, (.int .i64 r.2)]) ∧ New M M' [.vec 65 3 r.1.length q1 (r.1.flatMap enc65)]) := by
  refine CallsM.fresh (Q := glitch_Tiles_post r) Tryz.func25 rfl rfl ?_ (by rintro s Me ⟨q1, rfl, hx⟩ ha hw; exact ⟨_, rfl, New.of rfl hx ha hw⟩)
  rw [glitch_Tiles] at h
  replace hs0 := hs0.mono (rdLe_frozen M) (fun _ _ h => h)
  have hH := Has.nil (frozen M)
  refine Run.seq (Run.region ?_)
  refine Run.opG wantS_none (ex_assign rfl) rfl ?_
  refine Run.opG wantS_none (ex_assign rfl) rfl ?_
  refine Run.opsEnd (Run.seq (Run.seq (Run.region ?_)))
  refine Run.opG wantS_none (ex_move rfl) rfl ?_
  obtain ⟨r1, hr1, h⟩ := bnd_some h
  refine Run.callP wantS_none (ex_call rfl mkk48 cal48) rfl (glitch_isSignal_ok F a0 s0 _ _ (hH.slcF hs0) hr1) ?_
  refine Run.opG wantS_none (ex_not rfl) rfl ?_
  refine Run.opsEnd ?_
  rcases btf ((!r1)) with hc3 | hc3
  · have h := bif_t hc3 h
    refine Run.condT' rfl hc3 ?_
    refine Run.seq (Run.region ?_)
    refine Run.opG wantS_none (ex_assign rfl) rfl ?_
    refine Run.opG wantS_none (ex_assign rfl) rfl ?_
    refine Run.opsEnd ?_
    have hH5 : Has (ro (frozen M)) (frozen M) [.vec 65 3 ([] : List S_api_Tile).length .nils (([] : List S_api_Tile).flatMap enc65)] := hH.nils 65 3
    cases h
    exact Run.ret Tryz.func25 rfl (res_tmp rfl (res_tmp rfl res_nil)) ⟨_, rfl, (hH5.pick [0] rfl rfl).upF (none_le _)⟩
  · have h := bif_f hc3 h
    refine Run.condF' rfl hc3 ?_
    refine Run.skip (Run.seq (Run.region ?_))
    refine Run.opG wantS_none (ex_move rfl) rfl ?_
    refine Run.enter wantS_none (ex_call rfl mkk58 cal58) Tryz.func58 rfl rfl ?_
    refine Run.seq (Run.region ?_)
    refine Run.opX wantS_none rfl (ExG.box rfl (cells_one (slc_one hs0)) hH) ?_
    rintro _ M7 ⟨b6, rfl, (hH7 : Has (ro (frozen M)) M7 [.obj b6 (.row 22 .whole [s0])])⟩
    refine Run.opG wantS_none (ex_assign rfl) rfl ?_
    refine Run.opsEnd (Run.seq (Run.region ?_))
    refine Run.opG wantS_none (ex_makeFunc rfl rfl) rfl ?_
    refine Run.opG wantS_none (ex_assign rfl) rfl ?_
    refine Run.opsEnd ?_
    refine Run.retTo Tryz.func58 rfl (res_tmp rfl res_nil) rfl ?_
    refine Run.enter wantS_none (ex_call rfl mkk57 cal57) Tryz.func57 rfl rfl ?_
    refine Run.seq (Run.region ?_)
    refine Run.opG wantS_none (ex_assign rfl) rfl ?_
    refine Run.opsEnd (Run.seq (Run.region ?_))
    refine Run.opG wantS_none (ex_move rfl) rfl ?_
    refine Run.enter wantS_none (ex_call rfl mkk96 cal96) Tryz.func96 rfl rfl ?_
    refine Run.seq (Run.region ?_)
    refine Run.opX wantS_none rfl (ExG.box rfl rfl hH7) ?_
    rintro _ M9 ⟨b8, rfl, (hH9 : Has (ro (frozen M)) M9 [.obj b8 (.row 31 .whole [.nils]), .obj b6 (.row 22 .whole [s0])])⟩
    refine Run.opG wantS_none (ex_assign rfl) rfl ?_
    refine Run.opsEnd (Run.seq (Run.seq (Run.region ?_)))
    refine Run.opG wantS_none (ex_move rfl) rfl ?_
    refine Run.opsEnd (Run.block ?_)
    refine Run.pick [2, 4, 6] ?_
    refine Run.rangeX rfl cal97 Tryz.func97 rfl rfl hH9 ?_
    intro b11 b10 M10 (hH10 : Has (ro (frozen M)) M10 [.obj b10 (.loop ⟨.ready, none, 96, 13, treeOf [(2, (.ptr b8 0)), (4, .nils), (6, (.fn (.func 97) [] [(.ptr b6 0)]))], [7], (atC Tryz.prog 96 [1, 0, 1, 0, 0]), (atC Tryz.prog 96 [1, 0, 1, 0, 1]), b11⟩), .obj b11 .defd, .obj b8 (.row 31 .whole [.nils]), .obj b6 (.row 22 .whole [s0])])
    refine Run.seq (Run.region ?_)
    refine Run.opG wantS_none (ex_load1 rfl (hH10.cells (i := 3) rfl 0 rfl) rdLe_rfl agg22) rfl ?_
    obtain ⟨r12, hr12, h⟩ := bnd_some h
    refine Run.callX wantS_none (ex_call rfl mkk51 cal51) rfl (glitch_transform_ok F a0 s0 _ _ (hH10.slcF hs0) hr12) ?_
    rintro s12_0 M14 ⟨_, rfl, hN12⟩
    have hH14 : Has (ro (frozen M)) M14 [.vec 3 1 r12.length s12_0 (r12.flatMap enc3), .obj b10 (.loop ⟨.ready, none, 96, 13, treeOf [(2, (.ptr b8 0)), (4, .nils), (6, (.fn (.func 97) [] [(.ptr b6 0)]))], [7], (atC Tryz.prog 96 [1, 0, 1, 0, 0]), (atC Tryz.prog 96 [1, 0, 1, 0, 1]), b11⟩), .obj b11 .defd, .obj b8 (.row 31 .whole [.nils]), .obj b6 (.row 22 .whole [s0])] := hN12 _ _ hH10
    refine Run.opG wantS_none (ex_assign rfl) rfl ?_
    refine Run.opsEnd (Run.seq (Run.region ?_))
    refine Run.opG wantS_none (ex_assign rfl) rfl ?_
    refine Run.opsEnd (Run.seq (Run.region ?_))
    refine Run.opG wantS_none (ex_move rfl) rfl ?_
    refine Run.opG wantS_none (ex_len' rfl (hH14.slc (i := 0) rfl enc3_len) lenk22) rfl ?_
    refine Run.opG wantS_none (ex_quo rfl rfl (by decide)) rfl ?_
    refine Run.opG wantS_none (ex_assign rfl) rfl ?_
    refine Run.opsEnd (Run.block (Run.loop ?_))
    have hH16 : Has (ro (frozen M)) M14 [.vec 65 3 ([] : List S_api_Tile).length .nils (([] : List S_api_Tile).flatMap enc65), .vec 3 1 r12.length s12_0 (r12.flatMap enc3), .obj b10 (.loop ⟨.ready, none, 96, 13, treeOf [(2, (.ptr b8 0)), (4, .nils), (6, (.fn (.func 97) [] [(.ptr b6 0)]))], [7], (atC Tryz.prog 96 [1, 0, 1, 0, 0]), (atC Tryz.prog 96 [1, 0, 1, 0, 1]), b11⟩), .obj b11 .defd, .obj b8 (.row 31 .whole [.nils]), .obj b6 (.row 22 .whole [s0])] := hH14.nils 65 3
    refine Run.freeze (t := 3) (i := 1) (enc := enc3) rfl hH16 rfl enc3_len ?_
    intro F17 M17 hle17 (hH17 : Has F17 M17 [.vec 65 3 ([] : List S_api_Tile).length .nils (([] : List S_api_Tile).flatMap enc65), .vec 0 0 0 .nils [], .obj b10 (.loop ⟨.ready, none, 96, 13, treeOf [(2, (.ptr b8 0)), (4, .nils), (6, (.fn (.func 97) [] [(.ptr b6 0)]))], [7], (atC Tryz.prog 96 [1, 0, 1, 0, 0]), (atC Tryz.prog 96 [1, 0, 1, 0, 1]), b11⟩), .obj b11 .defd, .obj b8 (.row 31 .whole [.nils]), .obj b6 (.row 22 .whole [s0])]) hf17
    replace hs0 := hs0.mono hle17 (fun _ _ h => h)
    exact Run.low (.cons (fle_pick [2] rfl) (.cons (fle_pick [] rfl) (.cons (fle_pick [] rfl) .nil))) (Run.pick [0, 3, 4, 5] (glitch_Tiles_1_ok F F r12 (0 : Int) (w64 (Int.tdiv (r12.length : Int) (2 : Int))) a0 ([] : List S_api_Tile) s12_0 s0 b10 b8 .nils b6 b11 _ _ _ hf17 hs0 (hH17.pick [2, 4, 0, 5, 3] rfl rfl) h))

theorem mkk25 : makeK Tryz.prog 25 = none := by kernel_rfl
theorem cal25 : callable Tryz.prog 25 = true := by kernel_rfl
theorem lenk31 : lenK Tryz.prog 31 = some .sl := by kernel_rfl
theorem els31 : elems Tryz.prog 31 = some (.sl 3) := by kernel_rfl
theorem off65_0 : fieldOff Tryz.prog 65 0 = some 0 := by kernel_rfl
abbrev ref00_In_post (r : Bool) : SV → Mem → Prop := fun s _ => s = (.bool r)

def ref00_In_1 (F : Nat) (v14 : Bool) : Option (Bool) :=
  some v14

theorem ref00_In_1_ok (F : Nat) : ∀ (v14 : Bool) (Fr : Rd) (M : Mem) (r : Bool) (hH : Has Fr M []), ref00_In_1 F v14 = some r → Run Tryz.prog ⟨⟨44, [], none⟩, []⟩ 15 (ref00_In_post r) [(14, (.bool v14))] [itemC Tryz.prog 44 [1, 0] 8, codeC Tryz.prog 44 [1, 1]] M := by
  intro v14 Fr M r hH h
  rw [ref00_In_1] at h
  refine Run.opG wantS_none (ex_assign rfl) rfl ?_
  refine Run.opsEnd ?_
  cases h
  exact Run.ret Tryz.func44 rfl (res_tmp rfl res_nil) rfl

def ref00_In (F : Nat) (a0 : Int) (a1 : Int) (a2 : Int) : Option (Bool) :=
  bif (decide (a1 ≤ a0)) then
    ref00_In_1 F (decide (a0 ≤ a2))
  else
    ref00_In_1 F false

theorem ref00_In_ok (F : Nat) (a0 : Int) (a1 : Int) (a2 : Int) (r : Bool) (M : Mem) (h : ref00_In F a0 a1 a2 = some r) : CallsM Tryz.prog 44 [(.int .i64 a0), (.int .i64 a1), (.int .i64 a2)] M (fun s M' => s = (.bool r) ∧ M' = M) := by
  refine CallsM.plain Tryz.func44 rfl rfl rfl (show Run _ _ _ (ref00_In_post r) _ _ _ from ?_)
  rw [ref00_In] at h
  have hH := Has.nil (frozen M)
  refine Run.seq (Run.region ?_)
  refine Run.opG wantS_none (ex_assign rfl) rfl ?_
  refine Run.opsEnd (Run.seq (Run.region ?_))
  refine Run.opG wantS_none (ex_move rfl) rfl ?_
  refine Run.opG wantS_none (ex_move rfl) rfl ?_
  refine Run.opG wantS_none (ex_leq rfl rfl) rfl ?_
  refine Run.opG wantS_none (ex_move rfl) rfl ?_
  rcases btf ((decide (a1 ≤ a0))) with hc1 | hc1
  · have h := bif_t hc1 h
    refine Run.opG (wantS_yes' rfl rfl hc1) (ex_move rfl) rfl ?_
    refine Run.opG (wantS_yes' rfl rfl hc1) (ex_move rfl) rfl ?_
    refine Run.opG (wantS_yes' rfl rfl hc1) (ex_leq rfl rfl) rfl ?_
    refine Run.opG wantS_none (ex_pickT' rfl hc1 rfl rfl) rfl ?_
    exact Run.pick [14] (ref00_In_1_ok F (decide (a0 ≤ a2)) _ _ _ hH h)
  · have h := bif_f hc1 h
    refine Run.no (wantS_not' rfl rfl hc1) rfl ?_
    refine Run.no (wantS_not' rfl rfl hc1) rfl ?_
    refine Run.no (wantS_not' rfl rfl hc1) rfl ?_
    refine Run.opG wantS_none (ex_pickF' rfl hc1 rfl rfl) rfl ?_
    exact Run.pick [14] (ref00_In_1_ok F false _ _ _ hH h)

theorem mkk44 : makeK Tryz.prog 44 = none := by kernel_rfl
theorem cal44 : callable Tryz.prog 44 = true := by kernel_rfl
theorem off65_2 : fieldOff Tryz.prog 65 2 = some 2 := by kernel_rfl
theorem plan9_1_1_1_1_1_1_1_0_1_0_0_1_0_0_1 : planOf Tryz.prog (opsC (atC Tryz.prog 9 [1, 1, 1, 1, 1, 1, 1, 0, 1, 0, 0, 1, 0, 0, 1])) = some [.fl 0, .fl 1, .fl 2, .fl 3, .fl 4, .fl 5, .fl 6, .fl 7, .fl 8, .fl 9, .fl 10, .fl 11, .fl 12, .fl 13, .fl 14, .fl 15, .fl 16, .fl 17, .fl 18, .fl 19, .fl 20, .fl 21, .an 22 [], .sync] := by kernel_rfl
theorem plan9_1_1_1_1_1_1_0 : planOf Tryz.prog (opsC (atC Tryz.prog 9 [1, 1, 1, 1, 1, 1, 0])) = some [.fl 0, .fl 1, .fl 2, .fl 3, .fl 4, .fl 5, .fl 6, .fl 7, .sync] := by kernel_rfl
abbrev law06_GlitchEnergies_post (r : Bool) : SV → Mem → Prop := fun s _ => s = (.bool r)

def law06_GlitchEnergies_1 (F : Nat) (v21 : Bool) : Option (Bool) :=
  some v21

theorem law06_GlitchEnergies_1_ok (F : Nat) : ∀ (v21 : Bool) (Fr : Rd) (M : Mem) (r : Bool) (hH : Has Fr M [tb0, tb1, tb2]), law06_GlitchEnergies_1 F v21 = some r → Run Tryz.prog ⟨⟨9, [], none⟩, []⟩ 101 (law06_GlitchEnergies_post r) [(21, (.bool v21))] [itemC Tryz.prog 9 [1, 1, 0, 1, 0, 0] 5, codeC Tryz.prog 9 [1, 1, 0, 1, 0, 1], codeC Tryz.prog 9 [1, 1, 1]] M := by
  intro v21 Fr M r hH h
  rw [law06_GlitchEnergies_1] at h
  refine Run.opG wantS_none (ex_assign rfl) rfl ?_
  refine Run.opsEnd ?_
  cases h
  exact Run.ret Tryz.func9 rfl (res_tmp rfl res_nil) rfl

def law06_GlitchEnergies_6 (F : Nat) (v100 : Bool) : Option (Bool) :=
  some v100

theorem law06_GlitchEnergies_6_ok (F : Nat) : ∀ (v100 : Bool) (Fr : Rd) (M : Mem) (r : Bool) (hH : Has Fr M [tb0, tb1, tb2]), law06_GlitchEnergies_6 F v100 = some r → Run Tryz.prog ⟨⟨9, [], none⟩, []⟩ 101 (law06_GlitchEnergies_post r) [(100, (.bool v100))] [itemC Tryz.prog 9 [1, 1, 1, 1, 1, 1, 1, 1, 0] 6, codeC Tryz.prog 9 [1, 1, 1, 1, 1, 1, 1, 1, 1]] M := by
  intro v100 Fr M r hH h
  rw [law06_GlitchEnergies_6] at h
  refine Run.opG wantS_none (ex_assign rfl) rfl ?_
  refine Run.opsEnd ?_
  cases h
  exact Run.ret Tryz.func9 rfl (res_tmp rfl res_nil) rfl

def law06_GlitchEnergies_5 (F : Nat) : Nat → (List Int) → Int → Int → Int → (List S_api_Tile) → Option (Bool)
  | 0, _, _, _, _, _ => none
  | N + 1, v0, v3, v8, v9, l14 =>
    bif (decide (v9 < (l14.length : Int))) then
      bnd (idx l14 v9) fun x23 =>
      bnd (ref00_In F x23.Level (1 : Int) (10 : Int)) fun r24 =>
      bif (!r24) then
        some false
      else
        bnd (idx l14 v9) fun x27 =>
        bnd (idx l14 v9) fun x28 =>
        bnd (idx l14 v9) fun x29 =>
        bnd (shn x29.Level) fun j30 =>
        (law06_GlitchEnergies_5 F N) v0 v3 (w64 (v8 + (w64 ((w64 (x27.D * x28.D)) * (Int.fdiv (v0.length : Int) (2 ^ (min j30 (IntKind.bits .i64)))))))) (w64 (v9 + (1 : Int))) l14
    else
      bif (v8 == v3) then
        bnd (works F) fun r32 =>
        law06_GlitchEnergies_6 F r32
      else
        law06_GlitchEnergies_6 F false

theorem law06_GlitchEnergies_5_ok (F : Nat) : ∀ (N : Nat), ∀ (v0 : (List Int)) (v3 : Int) (v8 : Int) (v9 : Int) (l14 : (List S_api_Tile)) (sv0 : SV) (s14 : SV) (Fr : Rd) (M : Mem) (r : Bool) (hv0 : Slc Fr 1 (FlatR enc3) sv0 v0) (kv0 : clo sv0 = true) (hH : Has Fr M [.vec 65 3 l14.length s14 (l14.flatMap enc65), tb0, tb1, tb2]), law06_GlitchEnergies_5 F N v0 v3 v8 v9 l14 = some r → Run Tryz.prog ⟨⟨9, [], none⟩, []⟩ 101 (law06_GlitchEnergies_post r) [(0, sv0), (3, (.int .i64 v3)), (7, s14), (8, (.int .i64 v8)), (9, (.int .i64 v9))] [codeC Tryz.prog 9 [1, 1, 1, 1, 1, 1, 1, 0, 1, 0, 0], loopC Tryz.prog 9 [1, 1, 1, 1, 1, 1, 1, 0, 1, 0, 0], .inBlock 0, codeC Tryz.prog 9 [1, 1, 1, 1, 1, 1, 1, 1]] M := by
  intro N
  induction N with
  | zero =>
    intro v0 v3 v8 v9 l14 sv0 s14 Fr M r hv0 kv0 hH h
    simp [law06_GlitchEnergies_5] at h
  | succ N ih =>
    intro v0 v3 v8 v9 l14 sv0 s14 Fr M r hv0 kv0 hH h
    rw [law06_GlitchEnergies_5] at h
    refine Run.seq (Run.seq (Run.region ?_))
    refine Run.opG wantS_none (ex_move rfl) rfl ?_
    refine Run.opG wantS_none (ex_move rfl) rfl ?_
    refine Run.opG wantS_none (ex_len' rfl (hH.slc (i := 0) rfl enc65_len) lenk31) rfl ?_
    refine Run.opG wantS_none (ex_lss rfl rfl) rfl ?_
    refine Run.opsEnd ?_
    rcases btf ((decide (v9 < (l14.length : Int)))) with hc22 | hc22
    · have h := bif_t hc22 h
      refine Run.condT' rfl hc22 ?_
      refine Run.skip (Run.seq (Run.block (Run.seq (Run.seq (Run.region ?_)))))
      refine Run.opG wantS_none (ex_move rfl) rfl ?_
      refine Run.opG wantS_none (ex_move rfl) rfl ?_
      obtain ⟨x23, hx23, h⟩ := bnd_some h
      obtain ⟨p23, o23, hb23, hx23, he23⟩ := vec_elem (P := Tryz.prog) (t := 31) (kk := .i64) hH (i := 0) rfl hx23 els31
      refine Run.opG wantS_none (ex_elX rfl rfl hx23) rfl ?_
      refine Run.opG wantS_none (ex_fieldAddr rfl off65_0) rfl ?_
      refine Run.opG wantS_none (ex_load1 rfl ((hH.at (enc := enc65) (a := x23) (i := 0) rfl hb23 he23 enc65_len).fld (o := 0) rfl) rdLe_rfl agg3) rfl ?_
      obtain ⟨r24, hr24, h⟩ := bnd_some h
      refine Run.callP wantS_none (ex_call rfl mkk44 cal44) rfl (ref00_In_ok F x23.Level (1 : Int) (10 : Int) _ _ hr24) ?_
      refine Run.opG wantS_none (ex_not rfl) rfl ?_
      refine Run.opsEnd ?_
      rcases btf ((!r24)) with hc26 | hc26
      · have h := bif_t hc26 h
        refine Run.condT' rfl hc26 ?_
        refine Run.seq (Run.region ?_)
        refine Run.opG wantS_none (ex_assign rfl) rfl ?_
        refine Run.opsEnd ?_
        cases h
        exact Run.ret Tryz.func9 rfl (res_tmp rfl res_nil) rfl
      · have h := bif_f hc26 h
        refine Run.condF' rfl hc26 ?_
        refine Run.skip ?_
        refine Run.drawG plan9_1_1_1_1_1_1_1_0_1_0_0_1_0_0_1 ?_
        refine DrawG.fl rfl (ev_ex wantS_none (ex_move rfl)) rfl ?_
        refine DrawG.fl rfl (ev_ex wantS_none (ex_move rfl)) rfl ?_
        refine DrawG.fl rfl (ev_ex wantS_none (ex_move rfl)) rfl ?_
        obtain ⟨x27, hx27, h⟩ := bnd_some h
        obtain ⟨p27, o27, hb27, hx27, he27⟩ := vec_elem (P := Tryz.prog) (t := 31) (kk := .i64) hH (i := 0) rfl hx27 els31
        refine DrawG.fl rfl (ev_ex wantS_none (ex_elX rfl rfl hx27)) rfl ?_
        refine DrawG.fl rfl (ev_ex wantS_none (ex_fieldAddr rfl off65_2)) rfl ?_
        refine DrawG.fl rfl (ev_ex wantS_none (ex_load1 rfl ((hH.at (enc := enc65) (a := x27) (i := 0) rfl hb27 he27 enc65_len).fld (o := 2) rfl) rdLe_rfl agg3)) rfl ?_
        refine DrawG.fl rfl (ev_ex wantS_none (ex_move rfl)) rfl ?_
        refine DrawG.fl rfl (ev_ex wantS_none (ex_move rfl)) rfl ?_
        obtain ⟨x28, hx28, h⟩ := bnd_some h
        obtain ⟨p28, o28, hb28, hx28, he28⟩ := vec_elem (P := Tryz.prog) (t := 31) (kk := .i64) hH (i := 0) rfl hx28 els31
        refine DrawG.fl rfl (ev_ex wantS_none (ex_elX rfl rfl hx28)) rfl ?_
        refine DrawG.fl rfl (ev_ex wantS_none (ex_fieldAddr rfl off65_2)) rfl ?_
        refine DrawG.fl rfl (ev_ex wantS_none (ex_load1 rfl ((hH.at (enc := enc65) (a := x28) (i := 0) rfl hb28 he28 enc65_len).fld (o := 2) rfl) rdLe_rfl agg3)) rfl ?_
        refine DrawG.fl rfl (ev_ex wantS_none (ex_mul rfl rfl)) rfl ?_
        refine DrawG.fl rfl (ev_ex wantS_none (ex_move rfl)) rfl ?_
        refine DrawG.fl rfl (ev_ex wantS_none (ex_len' rfl hv0 lenk22)) rfl ?_
        refine DrawG.fl rfl (ev_ex wantS_none (ex_move rfl)) rfl ?_
        refine DrawG.fl rfl (ev_ex wantS_none (ex_move rfl)) rfl ?_
        obtain ⟨x29, hx29, h⟩ := bnd_some h
        obtain ⟨p29, o29, hb29, hx29, he29⟩ := vec_elem (P := Tryz.prog) (t := 31) (kk := .i64) hH (i := 0) rfl hx29 els31
        refine DrawG.fl rfl (ev_ex wantS_none (ex_elX rfl rfl hx29)) rfl ?_
        refine DrawG.fl rfl (ev_ex wantS_none (ex_fieldAddr rfl off65_0)) rfl ?_
        refine DrawG.fl rfl (ev_ex wantS_none (ex_load1 rfl ((hH.at (enc := enc65) (a := x29) (i := 0) rfl hb29 he29 enc65_len).fld (o := 0) rfl) rdLe_rfl agg3)) rfl ?_
        obtain ⟨j30, hj30, h⟩ := bnd_some h
        refine DrawG.fl rfl (ev_ex wantS_none (ex_shr' rfl rfl hj30)) rfl ?_
        refine DrawG.fl rfl (ev_ex wantS_none (ex_mul rfl rfl)) rfl ?_
        refine DrawG.fl rfl (ev_ex wantS_none (ex_add rfl rfl)) rfl ?_
        refine DrawG.val rfl wantS_none (ex_assign rfl) rfl st_nil ?_
        refine DrawG.sync ?_
        refine DrawG.nil ?_
        refine Run.inBlock (Run.region ?_)
        refine Run.opG wantS_none (ex_move rfl) rfl ?_
        refine Run.opG wantS_none (ex_add rfl rfl) rfl ?_
        refine Run.opG wantS_none (ex_assign rfl) rfl ?_
        refine Run.opsEnd (Run.inLoop ?_)
        exact Run.pick [0, 3, 7, 8, 9] (ih v0 v3 (w64 (v8 + (w64 ((w64 (x27.D * x28.D)) * (Int.fdiv (v0.length : Int) (2 ^ (min j30 (IntKind.bits .i64)))))))) (w64 (v9 + (1 : Int))) l14 sv0 s14 _ _ _ hv0 kv0 hH h)
    · have h := bif_f hc22 h
      refine Run.condF' rfl hc22 ?_
      refine Run.exit rfl (Run.seq (Run.region ?_))
      refine Run.opG wantS_none (ex_move rfl) rfl ?_
      refine Run.opG wantS_none (ex_move rfl) rfl ?_
      refine Run.opG wantS_none (ex_eql rfl rfl) rfl ?_
      refine Run.opG wantS_none (ex_move rfl) rfl ?_
      rcases btf ((v8 == v3)) with hc31 | hc31
      · have h := bif_t hc31 h
        obtain ⟨r32, hr32, h⟩ := bnd_some h
        refine Run.callP (wantS_yes' rfl rfl hc31) (ex_call rfl mkk24 cal24) rfl (works_ok F r32 _ hH (List.mem_of_getElem? (i := 1) rfl) (List.mem_of_getElem? (i := 2) rfl) (List.mem_of_getElem? (i := 3) rfl) hr32) ?_
        refine Run.opG wantS_none (ex_pickT' rfl hc31 rfl rfl) rfl ?_
        exact Run.pick [100] (law06_GlitchEnergies_6_ok F r32 _ _ _ (hH.pick [1, 2, 3] rfl rfl) h)
      · have h := bif_f hc31 h
        refine Run.no (wantS_not' rfl rfl hc31) rfl ?_
        refine Run.opG wantS_none (ex_pickF' rfl hc31 rfl rfl) rfl ?_
        exact Run.pick [100] (law06_GlitchEnergies_6_ok F false _ _ _ (hH.pick [1, 2, 3] rfl rfl) h)

def law06_GlitchEnergies_4 (F : Nat) (v0 : (List Int)) (v3 : Int) (v52 : Bool) (l11 : (List Int)) (l14 : (List S_api_Tile)) : Option (Bool) :=
  bif v52 then
    some false
  else
    bnd (idx l11 (0 : Int)) fun x20 =>
    bnd (idx l11 (0 : Int)) fun x21 =>
    law06_GlitchEnergies_5 F F v0 v3 (w64 (x20 * x21)) (0 : Int) l14

theorem law06_GlitchEnergies_4_ok (F : Nat) : ∀ (v0 : (List Int)) (v3 : Int) (v52 : Bool) (l11 : (List Int)) (l14 : (List S_api_Tile)) (sv0 : SV) (s11 : SV) (s14 : SV) (Fr : Rd) (M : Mem) (r : Bool) (hv0 : Slc Fr 1 (FlatR enc3) sv0 v0) (kv0 : clo sv0 = true) (hH : Has Fr M [.vec 3 1 l11.length s11 (l11.flatMap enc3), .vec 65 3 l14.length s14 (l14.flatMap enc65), tb0, tb1, tb2]), law06_GlitchEnergies_4 F v0 v3 v52 l11 l14 = some r → Run Tryz.prog ⟨⟨9, [], none⟩, []⟩ 101 (law06_GlitchEnergies_post r) [(0, sv0), (3, (.int .i64 v3)), (5, s11), (7, s14), (52, (.bool v52))] [codeC Tryz.prog 9 [1, 1, 1, 1, 1, 0, 1], codeC Tryz.prog 9 [1, 1, 1, 1, 1, 1]] M := by
  intro v0 v3 v52 l11 l14 sv0 s11 s14 Fr M r hv0 kv0 hH h
  rw [law06_GlitchEnergies_4] at h
  rcases btf (v52) with hc19 | hc19
  · have h := bif_t hc19 h
    refine Run.condT' rfl hc19 ?_
    refine Run.seq (Run.region ?_)
    refine Run.opG wantS_none (ex_assign rfl) rfl ?_
    refine Run.opsEnd ?_
    cases h
    exact Run.ret Tryz.func9 rfl (res_tmp rfl res_nil) rfl
  · have h := bif_f hc19 h
    refine Run.condF' rfl hc19 ?_
    refine Run.skip (Run.seq ?_)
    refine Run.drawG plan9_1_1_1_1_1_1_0 ?_
    refine DrawG.fl rfl (ev_ex wantS_none (ex_move rfl)) rfl ?_
    obtain ⟨x20, hx20, h⟩ := bnd_some h
    obtain ⟨p20, o20, hb20, hx20, he20⟩ := vec_elem (P := Tryz.prog) (t := 22) (kk := .i64) hH (i := 0) rfl hx20 els22
    refine DrawG.fl rfl (ev_ex wantS_none (ex_elX rfl rfl hx20)) rfl ?_
    refine DrawG.fl rfl (ev_ex wantS_none (ex_load1 rfl (hH.at (enc := enc3) (a := x20) (i := 0) rfl hb20 he20 enc3_len) rdLe_rfl agg3)) rfl ?_
    refine DrawG.fl rfl (ev_ex wantS_none (ex_move rfl)) rfl ?_
    obtain ⟨x21, hx21, h⟩ := bnd_some h
    obtain ⟨p21, o21, hb21, hx21, he21⟩ := vec_elem (P := Tryz.prog) (t := 22) (kk := .i64) hH (i := 0) rfl hx21 els22
    refine DrawG.fl rfl (ev_ex wantS_none (ex_elX rfl rfl hx21)) rfl ?_
    refine DrawG.fl rfl (ev_ex wantS_none (ex_load1 rfl (hH.at (enc := enc3) (a := x21) (i := 0) rfl hb21 he21 enc3_len) rdLe_rfl agg3)) rfl ?_
    refine DrawG.fl rfl (ev_ex wantS_none (ex_mul rfl rfl)) rfl ?_
    refine DrawG.fl rfl (ev_ex wantS_none (ex_assign rfl)) rfl ?_
    refine DrawG.sync ?_
    refine DrawG.nil ?_
    refine Run.seq (Run.seq (Run.region ?_))
    refine Run.opG wantS_none (ex_assign rfl) rfl ?_
    refine Run.opsEnd (Run.block (Run.loop ?_))
    exact Run.pick [0, 3, 7, 8, 9] (law06_GlitchEnergies_5_ok F F v0 v3 (w64 (x20 * x21)) (0 : Int) l14 sv0 s14 _ _ _ hv0 kv0 (hH.pick [1, 2, 3, 4] rfl rfl) h)

def law06_GlitchEnergies_3 (F : Nat) (v0 : (List Int)) (v3 : Int) (v44 : Bool) (l11 : (List Int)) (l14 : (List S_api_Tile)) : Option (Bool) :=
  bif v44 then
    law06_GlitchEnergies_4 F v0 v3 true l11 l14
  else
    law06_GlitchEnergies_4 F v0 v3 (!((l14.length : Int) == (w64 ((v0.length : Int) - (1 : Int))))) l11 l14

theorem law06_GlitchEnergies_3_ok (F : Nat) : ∀ (v0 : (List Int)) (v3 : Int) (v44 : Bool) (l11 : (List Int)) (l14 : (List S_api_Tile)) (sv0 : SV) (s11 : SV) (s14 : SV) (Fr : Rd) (M : Mem) (r : Bool) (hv0 : Slc Fr 1 (FlatR enc3) sv0 v0) (kv0 : clo sv0 = true) (hH : Has Fr M [.vec 3 1 l11.length s11 (l11.flatMap enc3), .vec 65 3 l14.length s14 (l14.flatMap enc65), tb0, tb1, tb2]), law06_GlitchEnergies_3 F v0 v3 v44 l11 l14 = some r → Run Tryz.prog ⟨⟨9, [], none⟩, []⟩ 101 (law06_GlitchEnergies_post r) [(0, sv0), (3, (.int .i64 v3)), (5, s11), (7, s14), (44, (.bool v44))] [itemC Tryz.prog 9 [1, 1, 1, 1, 1, 0, 0] 13, codeC Tryz.prog 9 [1, 1, 1, 1, 1, 0, 1], codeC Tryz.prog 9 [1, 1, 1, 1, 1, 1]] M := by
  intro v0 v3 v44 l11 l14 sv0 s11 s14 Fr M r hv0 kv0 hH h
  rw [law06_GlitchEnergies_3] at h
  refine Run.opG wantS_none (ex_move rfl) rfl ?_
  rcases btf (v44) with hc18 | hc18
  · have h := bif_t hc18 h
    refine Run.no (wantS_not' rfl rfl hc18) rfl ?_
    refine Run.no (wantS_not' rfl rfl hc18) rfl ?_
    refine Run.no (wantS_not' rfl rfl hc18) rfl ?_
    refine Run.no (wantS_not' rfl rfl hc18) rfl ?_
    refine Run.no (wantS_not' rfl rfl hc18) rfl ?_
    refine Run.no (wantS_not' rfl rfl hc18) rfl ?_
    refine Run.opG wantS_none (ex_pickT' rfl hc18 rfl rfl) rfl ?_
    refine Run.opsEnd ?_
    exact Run.pick [0, 3, 5, 7, 52] (law06_GlitchEnergies_4_ok F v0 v3 true l11 l14 sv0 s11 s14 _ _ _ hv0 kv0 hH h)
  · have h := bif_f hc18 h
    refine Run.opG (wantS_yes' rfl rfl hc18) (ex_move rfl) rfl ?_
    refine Run.opG (wantS_yes' rfl rfl hc18) (ex_len' rfl (hH.slc (i := 1) rfl enc65_len) lenk31) rfl ?_
    refine Run.opG (wantS_yes' rfl rfl hc18) (ex_move rfl) rfl ?_
    refine Run.opG (wantS_yes' rfl rfl hc18) (ex_len' rfl hv0 lenk22) rfl ?_
    refine Run.opG (wantS_yes' rfl rfl hc18) (ex_sub rfl rfl) rfl ?_
    refine Run.opG (wantS_yes' rfl rfl hc18) (ex_neq rfl rfl) rfl ?_
    refine Run.opG wantS_none (ex_pickF' rfl hc18 rfl rfl) rfl ?_
    refine Run.opsEnd ?_
    exact Run.pick [0, 3, 5, 7, 52] (law06_GlitchEnergies_4_ok F v0 v3 (!((l14.length : Int) == (w64 ((v0.length : Int) - (1 : Int))))) l11 l14 sv0 s11 s14 _ _ _ hv0 kv0 hH h)

def law06_GlitchEnergies_2 (F : Nat) (v0 : (List Int)) (v3 : Int) (v37 : Bool) (l11 : (List Int)) (l14 : (List S_api_Tile)) : Option (Bool) :=
  bif v37 then
    law06_GlitchEnergies_3 F v0 v3 true l11 l14
  else
    law06_GlitchEnergies_3 F v0 v3 (!((l11.length : Int) == (v0.length : Int))) l11 l14

theorem law06_GlitchEnergies_2_ok (F : Nat) : ∀ (v0 : (List Int)) (v3 : Int) (v37 : Bool) (l11 : (List Int)) (l14 : (List S_api_Tile)) (sv0 : SV) (s11 : SV) (s14 : SV) (Fr : Rd) (M : Mem) (r : Bool) (hv0 : Slc Fr 1 (FlatR enc3) sv0 v0) (kv0 : clo sv0 = true) (hH : Has Fr M [.vec 3 1 l11.length s11 (l11.flatMap enc3), .vec 65 3 l14.length s14 (l14.flatMap enc65), tb0, tb1, tb2]), law06_GlitchEnergies_2 F v0 v3 v37 l11 l14 = some r → Run Tryz.prog ⟨⟨9, [], none⟩, []⟩ 101 (law06_GlitchEnergies_post r) [(0, sv0), (3, (.int .i64 v3)), (5, s11), (7, s14), (37, (.bool v37))] [itemC Tryz.prog 9 [1, 1, 1, 1, 1, 0, 0] 6, codeC Tryz.prog 9 [1, 1, 1, 1, 1, 0, 1], codeC Tryz.prog 9 [1, 1, 1, 1, 1, 1]] M := by
  intro v0 v3 v37 l11 l14 sv0 s11 s14 Fr M r hv0 kv0 hH h
  rw [law06_GlitchEnergies_2] at h
  refine Run.opG wantS_none (ex_move rfl) rfl ?_
  rcases btf (v37) with hc17 | hc17
  · have h := bif_t hc17 h
    refine Run.no (wantS_not' rfl rfl hc17) rfl ?_
    refine Run.no (wantS_not' rfl rfl hc17) rfl ?_
    refine Run.no (wantS_not' rfl rfl hc17) rfl ?_
    refine Run.no (wantS_not' rfl rfl hc17) rfl ?_
    refine Run.no (wantS_not' rfl rfl hc17) rfl ?_
    refine Run.opG wantS_none (ex_pickT' rfl hc17 rfl rfl) rfl ?_
    exact Run.pick [0, 3, 5, 7, 44] (law06_GlitchEnergies_3_ok F v0 v3 true l11 l14 sv0 s11 s14 _ _ _ hv0 kv0 hH h)
  · have h := bif_f hc17 h
    refine Run.opG (wantS_yes' rfl rfl hc17) (ex_move rfl) rfl ?_
    refine Run.opG (wantS_yes' rfl rfl hc17) (ex_len' rfl (hH.slc (i := 0) rfl enc3_len) lenk22) rfl ?_
    refine Run.opG (wantS_yes' rfl rfl hc17) (ex_move rfl) rfl ?_
    refine Run.opG (wantS_yes' rfl rfl hc17) (ex_len' rfl hv0 lenk22) rfl ?_
    refine Run.opG (wantS_yes' rfl rfl hc17) (ex_neq rfl rfl) rfl ?_
    refine Run.opG wantS_none (ex_pickF' rfl hc17 rfl rfl) rfl ?_
    exact Run.pick [0, 3, 5, 7, 44] (law06_GlitchEnergies_3_ok F v0 v3 (!((l11.length : Int) == (v0.length : Int))) l11 l14 sv0 s11 s14 _ _ _ hv0 kv0 hH h)

def law06_GlitchEnergies (F : Nat) (a0 : (List Int)) : Option (Bool) :=
  bnd (glitch_Energy F a0) fun r4 =>
  bif (!(r4.2 == (0 : Int))) then
    bif (r4.1 == (0 : Int)) then
      bnd (works F) fun r8 =>
      law06_GlitchEnergies_1 F r8
    else
      law06_GlitchEnergies_1 F false
  else
    bnd (glitch_Transform F a0) fun r10 =>
    bnd (glitch_Tiles F a0) fun r13 =>
    bif (!(r10.2 == (0 : Int))) then
      law06_GlitchEnergies_2 F a0 r4.1 true r10.1 r13.1
    else
      law06_GlitchEnergies_2 F a0 r4.1 (!(r13.2 == (0 : Int))) r10.1 r13.1

theorem law06_GlitchEnergies_run (F : Nat) (a0 : (List Int)) (s0 : SV) (r : Bool) (M : Mem) (hs0 : Slc (rd M) 1 (FlatR enc3) s0 a0) (ks0 : clo s0 = true) (hfx : FixIn M fixes) (h : law06_GlitchEnergies F a0 = some r) : Run Tryz.prog (fx0 9) 101 (law06_GlitchEnergies_post r) [(0, s0)] [codeC Tryz.prog 9 []] (frozen M) := by
  rw [law06_GlitchEnergies] at h
  replace hs0 := hs0.mono (rdLe_frozen M) (fun _ _ h => h)
  have hH : Has (ro (frozen M)) (frozen M) [tb0, tb1, tb2] := Has.ofFix hfx.frozen
  refine Run.seq (Run.region ?_)
  refine Run.opG wantS_none (ex_assign rfl) rfl ?_
  refine Run.opsEnd (Run.seq (Run.region ?_))
  refine Run.opG wantS_none (ex_move rfl) rfl ?_
  obtain ⟨r4, hr4, h⟩ := bnd_some h
  refine Run.callP wantS_none (ex_call rfl mkk22 cal22) rfl (glitch_Energy_ok F a0 s0 _ _ (hH.slcF hs0) hr4) ?_
  refine Run.opG wantS_none (ex_move rfl) rfl ?_
  refine Run.opG wantS_none (ex_extract rfl rfl) rfl ?_
  refine Run.opG wantS_none (ex_extract rfl rfl) rfl ?_
  refine Run.opG wantS_none (ex_assign rfl) rfl ?_
  refine Run.opG wantS_none (ex_assign rfl) rfl ?_
  refine Run.opsEnd (Run.seq (Run.seq (Run.region ?_)))
  refine Run.opG wantS_none (ex_move rfl) rfl ?_
  refine Run.opG wantS_none (ex_neq rfl rfl) rfl ?_
  refine Run.opsEnd ?_
  rcases btf ((!(r4.2 == (0 : Int)))) with hc6 | hc6
  · have h := bif_t hc6 h
    refine Run.condT' rfl hc6 ?_
    refine Run.seq (Run.region ?_)
    refine Run.opG wantS_none (ex_move rfl) rfl ?_
    refine Run.opG wantS_none (ex_eql rfl rfl) rfl ?_
    refine Run.opG wantS_none (ex_move rfl) rfl ?_
    rcases btf ((r4.1 == (0 : Int))) with hc7 | hc7
    · have h := bif_t hc7 h
      obtain ⟨r8, hr8, h⟩ := bnd_some h
      refine Run.callP (wantS_yes' rfl rfl hc7) (ex_call rfl mkk24 cal24) rfl (works_ok F r8 _ hH (List.mem_of_getElem? (i := 0) rfl) (List.mem_of_getElem? (i := 1) rfl) (List.mem_of_getElem? (i := 2) rfl) hr8) ?_
      refine Run.opG wantS_none (ex_pickT' rfl hc7 rfl rfl) rfl ?_
      exact Run.pick [21] (law06_GlitchEnergies_1_ok F r8 _ _ _ hH h)
    · have h := bif_f hc7 h
      refine Run.no (wantS_not' rfl rfl hc7) rfl ?_
      refine Run.opG wantS_none (ex_pickF' rfl hc7 rfl rfl) rfl ?_
      exact Run.pick [21] (law06_GlitchEnergies_1_ok F false _ _ _ hH h)
  · have h := bif_f hc6 h
    refine Run.condF' rfl hc6 ?_
    refine Run.skip (Run.seq (Run.region ?_))
    refine Run.opG wantS_none (ex_move rfl) rfl ?_
    obtain ⟨r10, hr10, h⟩ := bnd_some h
    refine Run.callX wantS_none (ex_call rfl mkk17 cal17) rfl (glitch_Transform_ok F a0 s0 _ _ (hH.slcF hs0) hr10) ?_
    rintro _ M12 ⟨s10_0, rfl, hN10⟩
    have hH12 : Has (ro (frozen M)) M12 [.vec 3 1 r10.1.length s10_0 (r10.1.flatMap enc3), tb0, tb1, tb2] := hN10 _ _ hH
    refine Run.opG wantS_none (ex_move rfl) rfl ?_
    refine Run.opG wantS_none (ex_extract rfl rfl) rfl ?_
    refine Run.opG wantS_none (ex_extract rfl rfl) rfl ?_
    refine Run.opG wantS_none (ex_assign rfl) rfl ?_
    refine Run.opG wantS_none (ex_assign rfl) rfl ?_
    refine Run.opsEnd (Run.seq (Run.region ?_))
    refine Run.opG wantS_none (ex_move rfl) rfl ?_
    obtain ⟨r13, hr13, h⟩ := bnd_some h
    refine Run.callX wantS_none (ex_call rfl mkk25 cal25) rfl (glitch_Tiles_ok F a0 s0 _ _ (hH12.slcF hs0) hr13) ?_
    rintro _ M15 ⟨s13_0, rfl, hN13⟩
    have hH15 : Has (ro (frozen M)) M15 [.vec 65 3 r13.1.length s13_0 (r13.1.flatMap enc65), .vec 3 1 r10.1.length s10_0 (r10.1.flatMap enc3), tb0, tb1, tb2] := hN13 _ _ hH12
    refine Run.opG wantS_none (ex_move rfl) rfl ?_
    refine Run.opG wantS_none (ex_extract rfl rfl) rfl ?_
    refine Run.opG wantS_none (ex_extract rfl rfl) rfl ?_
    refine Run.opG wantS_none (ex_assign rfl) rfl ?_
    refine Run.opG wantS_none (ex_assign rfl) rfl ?_
    refine Run.opsEnd (Run.seq (Run.seq (Run.region ?_)))
    refine Run.opG wantS_none (ex_move rfl) rfl ?_
    refine Run.opG wantS_none (ex_neq rfl rfl) rfl ?_
    refine Run.opG wantS_none (ex_move rfl) rfl ?_
    rcases btf ((!(r10.2 == (0 : Int)))) with hc16 | hc16
    · have h := bif_t hc16 h
      refine Run.no (wantS_not' rfl rfl hc16) rfl ?_
      refine Run.no (wantS_not' rfl rfl hc16) rfl ?_
      refine Run.opG wantS_none (ex_pickT' rfl hc16 rfl rfl) rfl ?_
      exact Run.pick [0, 3, 5, 7, 37] (law06_GlitchEnergies_2_ok F a0 r4.1 true r10.1 r13.1 s0 s10_0 s13_0 _ _ _ hs0 ks0 (hH15.pick [1, 0, 2, 3, 4] rfl rfl) h)
    · have h := bif_f hc16 h
      refine Run.opG (wantS_yes' rfl rfl hc16) (ex_move rfl) rfl ?_
      refine Run.opG (wantS_yes' rfl rfl hc16) (ex_neq rfl rfl) rfl ?_
      refine Run.opG wantS_none (ex_pickF' rfl hc16 rfl rfl) rfl ?_
      exact Run.pick [0, 3, 5, 7, 37] (law06_GlitchEnergies_2_ok F a0 r4.1 (!(r13.2 == (0 : Int))) r10.1 r13.1 s0 s10_0 s13_0 _ _ _ hs0 ks0 (hH15.pick [1, 0, 2, 3, 4] rfl rfl) h)

end Go.Ev.GlitchEnergies
